/- A text behind another one: the same tokens, further on; blanks and comments ahead of a text. -/
import Derived.Test.YtidcodpekeaigaaDoorLPlaced
namespace Go.Proofs.YtidcodpekeaigaaDoor
open Go.RowKit
set_option linter.unusedVariables false

theorem bt_list (s : ByteArray) (i : Nat) : bt s i = match s.data.toList[i]? with | some b => (b.toNat : Int) | none => 0 := by
  unfold bt
  split
  · rename_i h
    have h2 : i < s.data.toList.length := by simpa using h
    rw [List.getElem?_eq_getElem h2]
    rfl
  · rename_i h
    have h2 : ¬ i < s.data.toList.length := by simpa using h
    rw [List.getElem?_eq_none (by omega)]
theorem app_list (p s : ByteArray) : (p ++ s).data.toList = p.data.toList ++ s.data.toList := by
  rw [ByteArray.data_append, Array.toList_append]
theorem list_len (s : ByteArray) : s.data.toList.length = s.size := by simp
theorem size_app (p s : ByteArray) : (p ++ s).size = p.size + s.size := by
  rw [← list_len, app_list, List.length_append, list_len, list_len]
theorem bt_app (p s : ByteArray) (i : Nat) : bt (p ++ s) (p.size + i) = bt s i := by
  rw [bt_list, bt_list, app_list, List.getElem?_append_right (by rw [list_len]; omega), list_len, show p.size + i - p.size = i by omega]
theorem bt_ahead (p s : ByteArray) {i : Nat} (h : i < p.size) : bt (p ++ s) i = bt p i := by
  rw [bt_list, bt_list, app_list, List.getElem?_append_left (by rw [list_len]; exact h)]
theorem extract_app (p s : ByteArray) (a b : Nat) : (p ++ s).extract (p.size + a) (p.size + b) = s.extract a b := by
  apply ByteArray.ext
  apply Array.toList_inj.1
  simp only [ByteArray.data_extract, Array.toList_extract, List.extract_eq_take_drop]
  rw [app_list, List.drop_append, list_len, show p.size + a - p.size = a by omega, List.drop_eq_nil_of_le (by rw [list_len]; omega), List.nil_append, show p.size + b - (p.size + a) = b - a by omega]

theorem pass_app (f : Int → Bool) (p s : ByteArray) (i : Nat) : pass f (p ++ s) (p.size + i) = p.size + pass f s i := by
  by_cases h : i < s.size ∧ f (bt s i) = true
  · rw [pass_go (i := p.size + i) (by rw [size_app]; omega) (by rw [bt_app]; exact h.2), pass_go h.1 h.2]
    exact pass_app f p s (i + 1)
  · rw [pass_stop h, pass_stop (fun h' => h ⟨by have := h'.1; rw [size_app] at this; omega, by have := h'.2; rw [bt_app] at this; exact this⟩)]
termination_by s.size - i

theorem amt_app (p s : ByteArray) (base top n : Int) (i : Nat) (hb : base ≤ 16) : amt (p ++ s) base top n (p.size + i) = ((amt s base top n i).1, p.size + (amt s base top n i).2) := by
  by_cases h : val (bt s i) < base
  · have := digit_lt hb h
    rw [amt_go hb (by rw [bt_app]; exact h), amt_go hb h, bt_app]
    exact amt_app p s base top _ (i + 1) hb
  · rw [amt_stop (by rw [bt_app]; exact h), amt_stop h]
termination_by s.size - i

/-- A token further on. -/
def shT (n : Nat) (t : Tok) : Tok := { t with at_ := n + t.at_ }
def shS (n : Nat) : Stp → Stp
  | .skip k => .skip (n + k)
  | .tok t k => .tok (shT n t) (n + k)
  | .bad j why => .bad (n + j) why

theorem numD_app (p s : ByteArray) (i d : Nat) (base : Int) (hb : base ≤ 16) : numD (p ++ s) (p.size + i) base (p.size + d) = shS p.size (numD s i base d) := by
  unfold numD
  rw [amt_app p s base _ _ d hb]
  obtain ⟨a, ga⟩ : ∃ a, a = (amt s base 2147483649 0 d).1 := ⟨_, rfl⟩
  obtain ⟨e, ge⟩ : ∃ e, e = (amt s base 2147483649 0 d).2 := ⟨_, rfl⟩
  rw [← ga, ← ge]
  unfold numE sgn
  simp only [bt_app, extract_app]
  by_cases h1 : e = d
  · rw [if_pos h1, if_pos (by omega)]; rfl
  · rw [if_neg h1, if_neg (by omega)]
    by_cases h2 : 2147483648 < a
    · rw [if_pos h2, if_pos h2]; rfl
    · rw [if_neg h2, if_neg h2]
      by_cases h3 : inNm (bt s e) = true
      · rw [if_pos h3, if_pos h3]; rfl
      · rw [if_neg h3, if_neg h3]; rfl
theorem numP_app (p s : ByteArray) (i d : Nat) : numP (p ++ s) (p.size + i) (p.size + d) = shS p.size (numP s i d) := by
  unfold numP
  rw [show p.size + d + 1 = p.size + (d + 1) by omega, show p.size + d + 2 = p.size + (d + 2) by omega]
  simp only [bt_app]
  split
  · exact numD_app p s i (d + 2) 16 (by omega)
  · exact numD_app p s i d 10 (by omega)
theorem stepP_app (p s : ByteArray) (i : Nat) : stepP (p ++ s) (p.size + i) = shS p.size (stepP s i) := by
  unfold stepP wordP txtP
  rw [numP_app, show p.size + i + 1 = p.size + (i + 1) by omega]
  simp only [bt_app, pass_app, extract_app, numP_app]
  rw [show p.size + pass inTx s (i + 1) + 1 = p.size + (pass inTx s (i + 1) + 1) by omega]
  by_cases h1 : isBlank (bt s i) = true
  · rw [if_pos h1, if_pos h1]; rfl
  rw [if_neg h1, if_neg h1]
  by_cases h2 : bt s i = 35
  · rw [if_pos h2, if_pos h2]; rfl
  rw [if_neg h2, if_neg h2]
  by_cases h3 : isMark (bt s i) = true
  · rw [if_pos h3, if_pos h3]; rfl
  rw [if_neg h3, if_neg h3]
  by_cases h4 : bt s i = 10
  · rw [if_pos h4, if_pos h4]; rfl
  rw [if_neg h4, if_neg h4]
  by_cases h5 : bt s i = 34
  · rw [if_pos h5, if_pos h5]
    by_cases h6 : bt s (pass inTx s (i + 1)) = 34
    · rw [if_pos h6, if_pos h6]; rfl
    · rw [if_neg h6, if_neg h6]; rfl
  rw [if_neg h5, if_neg h5]
  by_cases h7 : bt s i = 45
  · rw [if_pos h7, if_pos h7]
  rw [if_neg h7, if_neg h7]
  by_cases h8 : isDig (bt s i) = true
  · rw [if_pos h8, if_pos h8]
  rw [if_neg h8, if_neg h8]
  by_cases h9 : isLet (bt s i) = true
  · rw [if_pos h9, if_pos h9]; rfl
  · rw [if_neg h9, if_neg h9]; rfl

/-- What a scan comes to, further on, behind other tokens. -/
def shR (n : Nat) (pre : List Tok) : Scn → Scn
  | .toks l => .toks (pre ++ l.map (shT n))
  | .bad j why => .bad (n + j) why

theorem scanP_app (p s : ByteArray) (pre acc : List Tok) (i : Nat) : scanP (p ++ s) (p.size + i) (pre ++ acc.map (shT p.size)) = shR p.size pre (scanP s i acc) := by
  by_cases hl : i < s.size
  · have hl' : p.size + i < (p ++ s).size := by rw [size_app]; omega
    have hst := stepP_app p s i
    rcases hs : stepP s i with k | ⟨t, k⟩ | ⟨j, why⟩
    · rw [hs] at hst
      have hk := stepP_skip hl hs
      rw [scanP_skip hl' hst, scanP_skip hl hs]
      exact scanP_app p s pre acc k
    · rw [hs] at hst
      have hk := stepP_tok hl hs
      rw [scanP_tok hl' hst, scanP_tok hl hs, ← scanP_app p s pre (acc ++ [t]) k]
      simp
    · rw [hs] at hst
      rw [scanP_bad hl' hst, scanP_bad hl hs]
      rfl
  · have hl' : ¬ p.size + i < (p ++ s).size := by rw [size_app]; omega
    rw [scanP_over hl, scanP_over hl']
    rfl
termination_by s.size - i

/-- Blanks and comments: what may stand ahead of a text, with the lines' ends in it. -/
structure Ahead (p : ByteArray) (pre : List Tok) : Prop where
  size : p.size ≤ 11
  scan : ∀ s : ByteArray, scanP (p ++ s) 0 [] = scanP (p ++ s) p.size pre
  lines : ∀ t ∈ pre, t.kind = 5 ∧ t.at_ < p.size
  few : pre.length ≤ 2

theorem go_blank {s : ByteArray} {i : Nat} {acc : List Tok} (b : Int) (hi : i < s.size) (hb : bt s i = b) (h : isBlank b = true) : scanP s i acc = scanP s (i + 1) acc :=
  scanP_skip hi (by unfold stepP; rw [hb, if_pos h])
theorem go_line {s : ByteArray} {i : Nat} {acc : List Tok} (hi : i < s.size) (hb : bt s i = 10) : scanP s i acc = scanP s (i + 1) (acc ++ [⟨5, i, s.extract i (i + 1), 0⟩]) :=
  scanP_tok hi (by unfold stepP; rw [hb]; rfl)
theorem go_note {s : ByteArray} {i k : Nat} {acc : List Tok} (hi : i < s.size) (hb : bt s i = 35) (hk : pass inLn s i = k) : scanP s i acc = scanP s k acc :=
  scanP_skip hi (by unfold stepP; rw [hb, ← hk]; rfl)
theorem pass_one {s : ByteArray} {i : Nat} (b : Int) (hi : i < s.size) (hb : bt s i = b) (h : inLn b = true) : pass inLn s i = pass inLn s (i + 1) := pass_go hi (by rw [hb]; exact h)
theorem pass_line {s : ByteArray} {i : Nat} (hb : bt s i = 10) : pass inLn s i = i := pass_stop (fun h => by have := h.2; rw [hb] at this; cases this)

theorem ahead0 : Ahead ⟨#[32]⟩ [] := by
  refine ⟨by decide, fun s => ?_, by simp, by decide⟩
  have hz := size_app ⟨#[32]⟩ s
  have e : (ByteArray.mk #[32]).size = 1 := rfl
  rw [e] at hz
  exact go_blank 32 (by omega) ((bt_ahead _ _ (by decide)).trans (by decide)) (by decide)
theorem ahead1 : Ahead ⟨#[9, 32, 13]⟩ [] := by
  refine ⟨by decide, fun s => ?_, by simp, by decide⟩
  have hz := size_app ⟨#[9, 32, 13]⟩ s
  have e : (ByteArray.mk #[9, 32, 13]).size = 3 := rfl
  rw [e] at hz
  rw [go_blank 9 (by omega) ((bt_ahead _ _ (by decide)).trans (by decide)) (by decide), go_blank 32 (by omega) ((bt_ahead _ _ (by decide)).trans (by decide)) (by decide)]
  exact go_blank 13 (by omega) ((bt_ahead _ _ (by decide)).trans (by decide)) (by decide)
theorem ahead3 : ∃ pre, Ahead ⟨#[35, 10, 35, 10]⟩ pre := by
  have e : (ByteArray.mk #[35, 10, 35, 10]).size = 4 := rfl
  refine ⟨[⟨5, 1, ⟨#[10]⟩, 0⟩, ⟨5, 3, ⟨#[10]⟩, 0⟩], by decide, fun s => ?_, by simp [e], by decide⟩
  have hz := size_app ⟨#[35, 10, 35, 10]⟩ s
  rw [e] at hz
  have b1 : bt (⟨#[35, 10, 35, 10]⟩ ++ s) 1 = 10 := (bt_ahead _ _ (by decide)).trans (by decide)
  have b3 : bt (⟨#[35, 10, 35, 10]⟩ ++ s) 3 = 10 := (bt_ahead _ _ (by decide)).trans (by decide)
  rw [go_note (k := 1) (by omega) ((bt_ahead _ _ (by decide)).trans (by decide)) ((pass_one 35 (by omega) ((bt_ahead _ _ (by decide)).trans (by decide)) (by decide)).trans (pass_line b1)),
    go_line (by omega) b1,
    go_note (k := 3) (by omega) ((bt_ahead _ _ (by decide)).trans (by decide)) ((pass_one 35 (by omega) ((bt_ahead _ _ (by decide)).trans (by decide)) (by decide)).trans (pass_line b3)),
    go_line (by omega) b3, extract_one (by omega) b1, extract_one (by omega) b3]
  rfl
theorem ahead2 : ∃ pre, Ahead ⟨#[32, 32, 35, 32, 120, 32, 40, 32, 34, 32, 10]⟩ pre := by
  have e : (ByteArray.mk #[32, 32, 35, 32, 120, 32, 40, 32, 34, 32, 10]).size = 11 := rfl
  refine ⟨[⟨5, 10, ⟨#[10]⟩, 0⟩], by decide, fun s => ?_, by simp [e], by decide⟩
  have hz := size_app ⟨#[32, 32, 35, 32, 120, 32, 40, 32, 34, 32, 10]⟩ s
  rw [e] at hz
  have hb : ∀ i, i < 11 → bt (⟨#[32, 32, 35, 32, 120, 32, 40, 32, 34, 32, 10]⟩ ++ s) i = bt ⟨#[32, 32, 35, 32, 120, 32, 40, 32, 34, 32, 10]⟩ i := fun i hi => bt_ahead _ _ (by rw [e]; exact hi)
  have hp : pass inLn (⟨#[32, 32, 35, 32, 120, 32, 40, 32, 34, 32, 10]⟩ ++ s) 2 = 10 := by
    rw [pass_one 35 (by omega) ((hb 2 (by decide)).trans (by decide)) (by decide), pass_one 32 (by omega) ((hb 3 (by decide)).trans (by decide)) (by decide), pass_one 120 (by omega) ((hb 4 (by decide)).trans (by decide)) (by decide),
      pass_one 32 (by omega) ((hb 5 (by decide)).trans (by decide)) (by decide), pass_one 40 (by omega) ((hb 6 (by decide)).trans (by decide)) (by decide), pass_one 32 (by omega) ((hb 7 (by decide)).trans (by decide)) (by decide),
      pass_one 34 (by omega) ((hb 8 (by decide)).trans (by decide)) (by decide), pass_one 32 (by omega) ((hb 9 (by decide)).trans (by decide)) (by decide), pass_line ((hb 10 (by decide)).trans (by decide))]
  have b10 : bt (⟨#[32, 32, 35, 32, 120, 32, 40, 32, 34, 32, 10]⟩ ++ s) 10 = 10 := (hb 10 (by decide)).trans (by decide)
  rw [go_blank 32 (by omega) ((hb 0 (by decide)).trans (by decide)) (by decide), go_blank 32 (by omega) ((hb 1 (by decide)).trans (by decide)) (by decide), go_note (k := 10) (by omega) ((hb 2 (by decide)).trans (by decide)) hp,
    go_line (by omega) b10, extract_one (by omega) b10]
  rfl

/-- What Scan comes to behind blanks and comments. -/
theorem Ahead.scanR {p : ByteArray} {pre : List Tok} (h : Ahead p pre) (s : ByteArray) (hz : p.size + s.size ≤ 4000) : scanR (p ++ s) = shR p.size pre (scanR s) := by
  unfold Go.Proofs.YtidcodpekeaigaaDoor.scanR
  rw [if_neg (by rw [size_app]; omega), if_neg (by omega), h.scan s]
  have := scanP_app p s pre [] 0
  simpa using this

/-- A token without its place, a number without its bytes. -/
def bareT (t : Tok) : Tok := ⟨t.kind, 0, if t.kind = 2 then ⟨#[]⟩ else t.text, t.num⟩
theorem bareT_sh (n : Nat) (t : Tok) : bareT (shT n t) = bareT t := rfl
theorem bare_map (n : Nat) (l : List Tok) : (l.map (shT n)).map bareT = l.map bareT := by
  rw [List.map_map]
  rfl

end Go.Proofs.YtidcodpekeaigaaDoor
