/- The tokens of a text, without memory: what lex.Scan comes to. -/
import Derived.Test.YtidcodpekeaigaaDoorLaw
namespace Go.Proofs.YtidcodpekeaigaaDoor
open Go.RowKit
set_option linter.unusedVariables false

/-- The byte at a place; a nought behind the end. -/
def bt (s : ByteArray) (i : Nat) : Int := if h : i < s.size then (s[i].toNat : Int) else 0
theorem bt_range (s : ByteArray) (i : Nat) : 0 ≤ bt s i ∧ bt s i ≤ 255 := by
  unfold bt
  split
  · have := (s[i]).toNat_lt
    omega
  · omega
theorem bt_over {s : ByteArray} {i : Nat} (h : ¬ i < s.size) : bt s i = 0 := by
  unfold bt
  rw [dif_neg h]
theorem bt_lt {s : ByteArray} {i : Nat} (h : bt s i ≠ 0) : i < s.size := Decidable.byContradiction fun h' => h (bt_over h')

def isDig (b : Int) : Bool := decide (48 ≤ b) && decide (b ≤ 57)
def isLet (b : Int) : Bool := (decide (97 ≤ b) && decide (b ≤ 122)) || decide (b = 95)
def inNm (b : Int) : Bool := isLet b || isDig b || decide (b = 36)
def inTx (b : Int) : Bool := decide (32 ≤ b) && decide (b ≤ 126) && !decide (b = 34)
def inLn (b : Int) : Bool := !decide (b = 10)
def isMark (b : Int) : Bool := decide (b = 40) || decide (b = 41) || decide (b = 91) || decide (b = 93) || decide (b = 123) || decide (b = 125) || decide (b = 44) || decide (b = 58) || decide (b = 61)
def isBlank (b : Int) : Bool := decide (b = 32) || decide (b = 9) || decide (b = 13)
/-- A digit's value; 99 of what is none. -/
def val (b : Int) : Int := if 48 ≤ b ∧ b ≤ 57 then b - 48 else if 97 ≤ b ∧ b ≤ 102 then b - 97 + 10 else 99
theorem val_nought : val 0 = 99 := by decide
theorem val_ge {b : Int} (h : 0 ≤ b) : 0 ≤ val b := by unfold val; split <;> (try split) <;> omega
theorem val_le {b : Int} : val b ≤ 99 := by unfold val; split <;> (try split) <;> omega
theorem val_or (b : Int) : val b = 99 ∨ val b < 16 := by unfold val; split <;> (try split) <;> omega

/-- The first place from one on whose byte is of another kind, or the end. -/
def pass (f : Int → Bool) (s : ByteArray) (i : Nat) : Nat :=
  if h : i < s.size then (if f (bt s i) then pass f s (i + 1) else i) else i
termination_by s.size - i
theorem pass_go {f : Int → Bool} {s : ByteArray} {i : Nat} (h : i < s.size) (hf : f (bt s i) = true) : pass f s i = pass f s (i + 1) := by
  rw [pass, dif_pos h, if_pos hf]
theorem pass_stop {f : Int → Bool} {s : ByteArray} {i : Nat} (hf : ¬ (i < s.size ∧ f (bt s i) = true)) : pass f s i = i := by
  rw [pass]
  by_cases h : i < s.size
  · rw [dif_pos h, if_neg (fun h' => hf ⟨h, h'⟩)]
  · rw [dif_neg h]
theorem pass_ge (f : Int → Bool) (s : ByteArray) (i : Nat) : i ≤ pass f s i := by
  by_cases h : i < s.size ∧ f (bt s i) = true
  · rw [pass_go h.1 h.2]
    exact Nat.le_trans (Nat.le_succ i) (pass_ge f s (i + 1))
  · rw [pass_stop h]
    exact Nat.le_refl i
termination_by s.size - i
theorem pass_le {f : Int → Bool} {s : ByteArray} {i : Nat} (hi : i ≤ s.size) : pass f s i ≤ s.size := by
  by_cases h : i < s.size ∧ f (bt s i) = true
  · rw [pass_go h.1 h.2]
    exact pass_le h.1
  · rw [pass_stop h]
    exact hi
termination_by s.size - i
/-- What is passed is of the kind. -/
theorem pass_all {f : Int → Bool} {s : ByteArray} {i j : Nat} (h1 : i ≤ j) (h2 : j < pass f s i) : j < s.size ∧ f (bt s j) = true := by
  by_cases h : i < s.size ∧ f (bt s i) = true
  · rw [pass_go h.1 h.2] at h2
    rcases Nat.eq_or_lt_of_le h1 with e | e
    · subst e
      exact h
    · exact pass_all e h2
  · rw [pass_stop h] at h2
    omega
termination_by s.size - i
/-- What stands there is not. -/
theorem pass_end (f : Int → Bool) (s : ByteArray) (i : Nat) : ¬ (pass f s i < s.size ∧ f (bt s (pass f s i)) = true) := by
  by_cases h : i < s.size ∧ f (bt s i) = true
  · rw [pass_go h.1 h.2]
    exact pass_end f s (i + 1)
  · rw [pass_stop h]
    exact h
termination_by s.size - i

/-- What digits come to, and the place behind them. -/
def amt (s : ByteArray) (base top : Int) (n : Int) (i : Nat) : Int × Nat :=
  if h : i < s.size ∧ val (bt s i) < base then amt s base top (min (n * base + val (bt s i)) top) (i + 1) else (n, i)
termination_by s.size - i
theorem digit_lt {s : ByteArray} {i : Nat} {base : Int} (hb : base ≤ 16) (h : val (bt s i) < base) : i < s.size := by
  apply Decidable.byContradiction
  intro h'
  rw [bt_over h', val_nought] at h
  omega
theorem amt_go {s : ByteArray} {base top n : Int} {i : Nat} (hb : base ≤ 16) (h : val (bt s i) < base) : amt s base top n i = amt s base top (min (n * base + val (bt s i)) top) (i + 1) := by
  rw [amt, dif_pos ⟨digit_lt hb h, h⟩]
theorem amt_stop {s : ByteArray} {base top n : Int} {i : Nat} (h : ¬ val (bt s i) < base) : amt s base top n i = (n, i) := by
  rw [amt, dif_neg (fun h' => h h'.2)]
theorem amt_ge {s : ByteArray} {base top n : Int} {i : Nat} (hb : base ≤ 16) : i ≤ (amt s base top n i).2 := by
  by_cases h : val (bt s i) < base
  · rw [amt_go hb h]
    have := digit_lt hb h
    exact Nat.le_trans (Nat.le_succ i) (amt_ge hb)
  · rw [amt_stop h]
    exact Nat.le_refl i
termination_by s.size - i
theorem amt_le {s : ByteArray} {base top n : Int} {i : Nat} (hb : base ≤ 16) (hi : i ≤ s.size) : (amt s base top n i).2 ≤ s.size := by
  by_cases h : val (bt s i) < base
  · rw [amt_go hb h]
    have := digit_lt hb h
    exact amt_le hb (by omega)
  · rw [amt_stop h]
    exact hi
termination_by s.size - i
theorem amt_bound {s : ByteArray} {base top n : Int} {i : Nat} (hb : base ≤ 16) (b0 : 0 ≤ base) (h0 : 0 ≤ n ∧ n ≤ top) : 0 ≤ (amt s base top n i).1 ∧ (amt s base top n i).1 ≤ top := by
  by_cases h : val (bt s i) < base
  · rw [amt_go hb h]
    have := digit_lt hb h
    have h1 := val_ge (bt_range s i).1
    have h2 : 0 ≤ n * base := Int.mul_nonneg h0.1 b0
    refine amt_bound hb b0 ⟨?_, Int.min_le_right _ _⟩
    omega
  · rw [amt_stop h]
    exact h0
termination_by s.size - i

/-- A token. -/
structure Tok where
  kind : Int
  at_ : Nat
  text : ByteArray
  num : Int

/-- What a step of the scanner comes to: it passes blanks, a token, or it gives up. -/
inductive Stp where
  | skip (k : Nat)
  | tok (t : Tok) (k : Nat)
  | bad (i : Nat) (why : Int)

/-- A number with its sign. -/
def sgn (s : ByteArray) (i : Nat) (a : Int) : Int := if bt s i = 45 then - a else a
/-- A number whose digits, from a place on, come to so much and end at a place. -/
def numE (s : ByteArray) (i d : Nat) (a : Int) (e : Nat) : Stp :=
  if e = d then .bad i 120
  else if 2147483648 < a then .bad i 122
  else if inNm (bt s e) then .bad e 120
  else .tok ⟨2, i, s.extract i e, sgn s i a⟩ e
def numD (s : ByteArray) (i : Nat) (base : Int) (d : Nat) : Stp := numE s i d (amt s base 2147483649 0 d).1 (amt s base 2147483649 0 d).2
def numP (s : ByteArray) (i d : Nat) : Stp :=
  if bt s d = 48 ∧ bt s (d + 1) = 120 ∧ val (bt s (d + 2)) < 16 then numD s i 16 (d + 2) else numD s i 10 d
def txtP (s : ByteArray) (i : Nat) : Stp :=
  if bt s (pass inTx s (i + 1)) = 34 then .tok ⟨3, i, s.extract (i + 1) (pass inTx s (i + 1)), 0⟩ (pass inTx s (i + 1) + 1) else .bad i 121
def wordP (s : ByteArray) (i : Nat) : Stp :=
  if isDig (bt s i) then numP s i i
  else if isLet (bt s i) then .tok ⟨1, i, s.extract i (pass inNm s i), 0⟩ (pass inNm s i)
  else .bad i 120
def stepP (s : ByteArray) (i : Nat) : Stp :=
  if isBlank (bt s i) then .skip (i + 1)
  else if bt s i = 35 then .skip (pass inLn s i)
  else if isMark (bt s i) then .tok ⟨4, i, s.extract i (i + 1), 0⟩ (i + 1)
  else if bt s i = 10 then .tok ⟨5, i, s.extract i (i + 1), 0⟩ (i + 1)
  else if bt s i = 34 then txtP s i
  else if bt s i = 45 then numP s i (i + 1)
  else wordP s i

theorem numD_tok {s : ByteArray} {i : Nat} {base : Int} {d : Nat} {t : Tok} {k : Nat} (hb : base ≤ 16) (hd : i ≤ d) (h : numD s i base d = .tok t k) : i < k ∧ k ≤ s.size := by
  unfold numD numE at h
  split at h
  · cases h
  rename_i h1
  split at h
  · cases h
  split at h
  · cases h
  cases h
  have h2 : d ≤ _ := amt_ge (s := s) (top := 2147483649) (n := 0) (i := d) hb
  have h3 : val (bt s d) < base := by
    apply Decidable.byContradiction
    intro h'
    rw [amt_stop h'] at h1
    exact h1 rfl
  have h4 := digit_lt hb h3
  exact ⟨by omega, amt_le hb (by omega)⟩
theorem numP_tok {s : ByteArray} {i d : Nat} {t : Tok} {k : Nat} (hd : i ≤ d) (h : numP s i d = .tok t k) : i < k ∧ k ≤ s.size := by
  unfold numP at h
  split at h
  · exact numD_tok (by omega) (by omega) h
  · exact numD_tok (by omega) hd h
theorem numD_not {s : ByteArray} {i : Nat} {base : Int} {d k : Nat} : numD s i base d ≠ .skip k := by
  intro h
  unfold numD numE at h
  split at h
  · cases h
  split at h
  · cases h
  split at h <;> cases h
theorem numP_not {s : ByteArray} {i : Nat} {d k : Nat} : numP s i d ≠ .skip k := by
  intro h
  unfold numP at h
  split at h <;> exact numD_not h
theorem txtP_tok {s : ByteArray} {i : Nat} {t : Tok} {k : Nat} (h : txtP s i = .tok t k) : i < k ∧ k ≤ s.size := by
  unfold txtP at h
  split at h
  · rename_i h1
    cases h
    have h2 := pass_ge inTx s (i + 1)
    have h3 : pass inTx s (i + 1) < s.size := bt_lt (by rw [h1]; decide)
    omega
  · cases h
theorem wordP_tok {s : ByteArray} {i : Nat} {t : Tok} {k : Nat} (hi : i < s.size) (h : wordP s i = .tok t k) : i < k ∧ k ≤ s.size := by
  unfold wordP at h
  split at h
  · exact numP_tok (Nat.le_refl i) h
  split at h
  · rename_i h1
    cases h
    have h2 : inNm (bt s i) = true := by unfold inNm; rw [h1]; rfl
    rw [pass_go hi h2]
    exact ⟨Nat.lt_of_lt_of_le (Nat.lt_succ_self i) (pass_ge _ _ _), pass_le hi⟩
  · cases h
theorem stepP_tok {s : ByteArray} {i : Nat} {t : Tok} {k : Nat} (hi : i < s.size) (h : stepP s i = .tok t k) : i < k ∧ k ≤ s.size := by
  unfold stepP at h
  split at h
  · cases h
  split at h
  · cases h
  split at h
  · cases h
    omega
  split at h
  · cases h
    omega
  split at h
  · exact txtP_tok h
  split at h
  · exact numP_tok (by omega) h
  · exact wordP_tok hi h
theorem stepP_skip {s : ByteArray} {i : Nat} {k : Nat} (hi : i < s.size) (h : stepP s i = .skip k) : i < k ∧ k ≤ s.size := by
  unfold stepP at h
  split at h
  · cases h
    omega
  split at h
  · rename_i h1
    cases h
    have h2 : inLn (bt s i) = true := by rw [h1]; rfl
    rw [pass_go hi h2]
    exact ⟨Nat.lt_of_lt_of_le (Nat.lt_succ_self i) (pass_ge _ _ _), pass_le hi⟩
  split at h
  · cases h
  split at h
  · cases h
  split at h
  · unfold txtP at h
    split at h <;> cases h
  split at h
  · exact absurd h numP_not
  · unfold wordP at h
    split at h
    · exact absurd h numP_not
    split at h <;> cases h

/-- What a scan comes to: the tokens, or the fault. -/
inductive Scn where
  | toks (l : List Tok)
  | bad (i : Nat) (why : Int)

def scanP (s : ByteArray) (i : Nat) (acc : List Tok) : Scn :=
  if h : i < s.size then
    match hs : stepP s i with
    | .skip k => scanP s k acc
    | .tok t k => scanP s k (acc ++ [t])
    | .bad j why => .bad j why
  else .toks acc
termination_by s.size - i
decreasing_by
  · have := stepP_skip h hs
    omega
  · have := stepP_tok h hs
    omega
theorem scanP_over {s : ByteArray} {i : Nat} {acc : List Tok} (h : ¬ i < s.size) : scanP s i acc = .toks acc := by
  rw [scanP, dif_neg h]
theorem scanP_skip {s : ByteArray} {i k : Nat} {acc : List Tok} (h : i < s.size) (hs : stepP s i = .skip k) : scanP s i acc = scanP s k acc := by
  rw [scanP, dif_pos h]
  split
  · rename_i k' h'
    rw [hs] at h'
    cases h'
    rfl
  · rename_i h'
    rw [hs] at h'
    cases h'
  · rename_i h'
    rw [hs] at h'
    cases h'
theorem scanP_tok {s : ByteArray} {i k : Nat} {t : Tok} {acc : List Tok} (h : i < s.size) (hs : stepP s i = .tok t k) : scanP s i acc = scanP s k (acc ++ [t]) := by
  rw [scanP, dif_pos h]
  split
  · rename_i h'
    rw [hs] at h'
    cases h'
  · rename_i h'
    rw [hs] at h'
    cases h'
    rfl
  · rename_i h'
    rw [hs] at h'
    cases h'
theorem scanP_bad {s : ByteArray} {i j : Nat} {why : Int} {acc : List Tok} (h : i < s.size) (hs : stepP s i = .bad j why) : scanP s i acc = .bad j why := by
  rw [scanP, dif_pos h]
  split
  · rename_i h'
    rw [hs] at h'
    cases h'
  · rename_i h'
    rw [hs] at h'
    cases h'
  · rename_i h'
    rw [hs] at h'
    cases h'
    rfl

end Go.Proofs.YtidcodpekeaigaaDoor
