/- What the program's has and count do: how often each pair of calls stands in a program. -/
import Derived.Test.YtmieoihjgckfhaaWWeigh
import Derived.Test.YtmieoihjgckfhaaWMap
import Derived.Deep.RegionHeld3
namespace Go.Proofs.Ytmieoihjgckfhaa
open Go.RowKit
set_option linter.unusedVariables false
set_option maxRecDepth 20000

theorem Cw.upd {G : Nat → Prop} {w w' : World} {B p m : Nat} {cs : List Cc} (h : Cw w B p m cs) (u : Upd G w w') (hp : ¬ G p) (hG : ∀ k, B ≤ k → k < w.heap.size → ¬ G k) : Cw w' B p m cs := by
  obtain ⟨v, h1, h2⟩ := h.ex
  exact ⟨⟨v, u.heap h1 hp, u.own h2 (fun k hk => hG k (h2.lt k hk).1 (h2.lt k hk).2)⟩, fun x hx => u.own (h.ok x hx) (fun k hk => hG k ((h.ok x hx).lt k hk).1 ((h.ok x hx).lt k hk).2), h.lt⟩
theorem Cw.c1 {w : World} {B p m : Nat} {cs : List Cc} (h : Cw w B p m cs) : ∃ a c, w.cell? ⟨p, 1, none⟩ = some (.slice a cs.length c) := by
  obtain ⟨v, h1, h2⟩ := h.ex
  obtain ⟨a, c, rfl⟩ := own_shape h2
  exact ⟨a, c, cell_of_row _ _ 1 _ _ _ h1⟩
theorem Cw.c2 {w : World} {B p m : Nat} {cs : List Cc} (h : Cw w B p m cs) : w.cell? ⟨p, 2, none⟩ = some (.map (some m)) := by
  obtain ⟨v, h1, h2⟩ := h.ex
  exact cell_of_row _ _ 2 _ _ _ h1
theorem Cw.c0 {w : World} {B p m : Nat} {cs : List Cc} (h : Cw w B p m cs) : w.cell? ⟨p, 0, none⟩ = some (.bool true) := by
  obtain ⟨v, h1, h2⟩ := h.ex
  exact cell_of_row _ _ 0 _ _ _ h1
theorem Cw.pl {w : World} {B p m : Nat} {cs : List Cc} (h : Cw w B p m cs) : p < w.heap.size := by
  obtain ⟨v, h1, h2⟩ := h.ex
  exact (Array.getElem?_eq_some_iff.1 h1).1

/-- Is there such a call? -/
def hasB (n : Nat) (k : Int) : Bool := decide (0 ≤ k) && decide (k < (n : Int))

set_option maxHeartbeats 1000000 in
theorem has_any (w : World) (p : Nat) (a : Option Addr) (n c : Nat) (k : Int) (h : w.cell? ⟨p, 1, none⟩ = some (.slice a n c)) :
    Calls Try.prog 26 #[.pointer (some ⟨p, 0, none⟩), .int .i64 k] w fun e w' => e = .returned (.bool (hasB n k)) ∧ w' = w := by
  by_cases h0 : 0 ≤ k
  · have e : hasB n k = decide (k < (n : Int)) := by simp [hasB, h0]
    rw [e]
    go_enter Try.func26, Try.ntmps26
    go_wp2_with fail
    go_ret
    exact ⟨rfl, rfl⟩
  · have e : hasB n k = false := by simp [hasB, h0]
    rw [e]
    go_enter Try.func26, Try.ntmps26
    go_wp2_with fail
    go_ret
    exact ⟨rfl, rfl⟩

/-- Steps that lie somewhere: their calls. -/
def Sts (w : World) (a : Option Addr) (n : Nat) (ks : List Int) : Prop :=
  ks.length = n ∧ (0 < n → ∃ b o, a = some ⟨b, o, none⟩ ∧ b < w.heap.size ∧ ∀ j, j < n → w.cell? ⟨b, o + j * 2, none⟩ = some (.int .i64 (ks.getD j 0)) ∧ ∃ x y z, w.cell? ⟨b, o + j * 2 + 1, none⟩ = some (.slice x y z))
theorem Sts.upd {G : Nat → Prop} {w w' : World} {a : Option Addr} {n : Nat} {ks : List Int} (h : Sts w a n ks) (u : Upd G w w') (hG : ∀ b o, a = some ⟨b, o, none⟩ → ¬ G b) : Sts w' a n ks :=
  ⟨h.1, fun hn => by
    obtain ⟨b, o, e, hb, hc⟩ := h.2 hn
    have f : ∀ j, w'.cell? ⟨b, j, none⟩ = w.cell? ⟨b, j, none⟩ := fun j => World.cell?_of_block (a := ⟨b, j, none⟩) (u.block b hb (hG b o e))
    refine ⟨b, o, e, Nat.lt_of_lt_of_le hb u.size, fun j hj => ?_⟩
    rw [f, f]
    exact hc j hj⟩

/-- One step more is counted. -/
def stepF (n : Nat) (F : Int → Int → Nat) (i : Nat) (prev k : Int) : Int → Int → Nat :=
  if hasB n k = true ∧ (i = 0 ∨ hasB n prev = true) then incF F (if i = 0 then -1 else prev) k else F
/-- The first steps of a program are counted. -/
def cntU (n : Nat) (ks : List Int) (F : Int → Int → Nat) : Nat → Int → Int → Nat
  | 0 => F
  | i + 1 => stepF n (cntU n ks F i) i (ks.getD (i - 1) 0) (ks.getD i 0)
theorem inc_le {F : Int → Int → Nat} {K : Nat} (h : ∀ a b, F a b ≤ K) (x y a b : Int) : incF F x y a b ≤ K + 1 := by
  have h1 := h x y
  have h2 := h a b
  unfold incF
  by_cases q : a = x ∧ b = y
  · rw [if_pos q]; omega
  · rw [if_neg q]; omega
theorem step_le {n : Nat} {F : Int → Int → Nat} {K : Nat} (h : ∀ a b, F a b ≤ K) (i : Nat) (prev k : Int) (a b : Int) : stepF n F i prev k a b ≤ K + 1 := by
  unfold stepF
  by_cases q : hasB n k = true ∧ (i = 0 ∨ hasB n prev = true)
  · rw [if_pos q]; exact inc_le h _ _ _ _
  · rw [if_neg q]; have := h a b; omega
theorem cntU_le (n : Nat) (ks : List Int) {F : Int → Int → Nat} {K : Nat} (h : ∀ a b, F a b ≤ K) : ∀ i a b, cntU n ks F i a b ≤ K + i
  | 0, a, b => by simpa [cntU] using h a b
  | i + 1, a, b => by
    have := step_le (n := n) (F := cntU n ks F i) (K := K + i) (fun a b => cntU_le n ks h i a b) i (ks.getD (i - 1) 0) (ks.getD i 0) a b
    simp only [cntU]; omega

theorem rg_of {n : Nat} (hn : n ≤ 1099511627776) {i : Nat} {prev k : Int} (hk : hasB n k = true) (hp : i = 0 ∨ hasB n prev = true) : Rg (if i = 0 then -1 else prev) k := by
  simp only [hasB, Bool.and_eq_true, decide_eq_true_eq] at hk hp
  unfold Rg
  by_cases h0 : i = 0
  · rw [if_pos h0]; omega
  · rw [if_neg h0]; omega

set_option maxHeartbeats 8000000 in
theorem count_any (w : World) (B p m : Nat) (cs : List Cc) (F : Int → Int → Nat) (sa : Option Addr) (sn sc : Nat) (ks : List Int) (K : Nat) (hC : Cw w B p m cs) (hM : Mp w m F) (hmp : m < p) (hS : Sts w sa sn ks) (hSm : ∀ b o, sa = some ⟨b, o, none⟩ → 0 < sn → b ≠ m)
    (hn : cs.length ≤ 1099511627776) (hF : ∀ a b, F a b ≤ K) (hK : K + sn ≤ 4611686018427387904) :
    Calls Try.prog 24 #[.pointer (some ⟨p, 0, none⟩), .slice sa sn sc] w fun e w' => e = .returned (.tuple #[]) ∧ Mp w' m (cntU cs.length ks F sn) ∧ Upd (· = m) w w' := by
  have HC := hid hC
  have HM := hid hM
  have HS := hid hS
  have HSm := hid hSm
  have HF := hid hF
  have hpl := hC.pl
  have hpB := hC.lt
  obtain ⟨N, gN⟩ : ∃ N, N = cs.length := ⟨_, rfl⟩
  rw [← gN] at hn ⊢
  have GN := hid gN
  clear hC hM hS hSm hF gN
  go_enter Try.func24, Try.ntmps24
  go_wp2_with fail
  go_loopw [9] (fun k wr => ∃ (i : Nat), i ≤ sn ∧ k = .int .i64 i ∧ Hid (Mp wr m (cntU N ks F i)) ∧ Hid (Upd (· = m) w wr)) (fun k _ => sn - (intOf k).toNat)
  case atStart => exact ⟨0, by omega, rfl, HM, hid (Upd.refl _ _)⟩
  case round =>
    obtain ⟨i, hi, rfl, HMi, HU⟩ := hrel
    rename World => wr
    by_cases hlt : i < sn
    · have hCr := HC.out.upd HU.out (by omega) (fun k h1 h2 => by omega)
      have hSr := HS.out.upd HU.out (fun b o e => HSm.out b o e (by omega))
      obtain ⟨b, o, rfl, hbl, hc⟩ := hSr.2 (by omega)
      have hbm := HSm.out b o rfl (by omega)
      obtain ⟨hci, xa, xn, xc, hcj⟩ := hc i hlt
      have HPr : Hid (0 < i → wr.cell? ⟨b, o + (i - 1) * 2, none⟩ = some (.int .i64 (ks.getD (i - 1) 0))) := hid fun h => (hc (i - 1) (by omega)).1
      have HB : Hid (∀ a b, cntU N ks F i a b ≤ K + i) := hid (cntU_le N ks HF.out i)
      have HST : Hid (cntU N ks F (i + 1) = stepF N (cntU N ks F i) i (ks.getD (i - 1) 0) (ks.getD i 0)) := hid rfl
      generalize cntU N ks F i = Fi at HMi HB HST
      generalize ks.getD i 0 = k at hci HST
      generalize ks.getD (i - 1) 0 = pv at HPr HST
      obtain ⟨ca, cc, hc1⟩ := hCr.c1
      rw [← GN.out] at hc1
      have hc2 := hCr.c2
      clear hc hSr
      have hws := HU.out.size
      have hpr : p < wr.heap.size := by omega
      have hmw := HMi.out.lt
      by_cases h0 : i = 0
      · have hd1 : decide (0 < i) = false := decide_eq_false (by omega)
        have hd2 : ((i : Int) == 0) = true := by simpa using h0
        have HH0 := hid h0
        clear h0
        obtain ⟨X, gX⟩ : ∃ X, (wr.alloc (.cells #[.int .i64 k, .slice xa xn xc] 80)).alloc (.cells #[.int .i64 (-1), .int .i64 k] 75) = X := ⟨_, rfl⟩
        have bX : Below wr.heap.size wr X := by rw [← gX]; exact below_box2 wr _ _
        have hX1 : X.heap[wr.heap.size + 1]? = some (.cells #[.int .i64 (-1), .int .i64 k] 75 (0, 0)) := by
          have := heap_alloc_new (wr.alloc (.cells #[.int .i64 k, .slice xa xn xc] 80)) (.cells #[.int .i64 (-1), .int .i64 k] 75)
          rw [← gX]; simpa using this
        have HZ : Hid (wr.heap.size + 1 < X.heap.size) := hid (Array.getElem?_eq_some_iff.1 hX1).1
        have HMX : Hid (Mp X m Fi) := hid (HMi.out.upd (Upd.of_below (F := fun _ => False) bX) (fun h => h))
        have HUX : Hid (Upd (· = m) w X) := hid (HU.out.trans (Upd.of_below (F := (· = m)) bX) (fun _ _ h => h))
        have d1 : X.cell? ⟨p, 1, none⟩ = some (.slice ca N cc) := (bX.cell (p := ⟨p, 1, none⟩) hpr).trans hc1
        have d2 : X.cell? ⟨p, 2, none⟩ = some (.map (some m)) := (bX.cell (p := ⟨p, 2, none⟩) hpr).trans hc2
        have z0 : X.cell? ⟨wr.heap.size + 1, 0, none⟩ = some (.int .i64 (-1)) := cell_of_row _ _ 0 _ _ _ hX1
        have z1 : X.cell? ⟨wr.heap.size + 1, 1, none⟩ = some (.int .i64 k) := cell_of_row _ _ 1 _ _ _ hX1
        have kh := hid (has_any X p ca N cc k d1)
        have GX := hid gX
        have hne : wr.heap.size + 1 ≠ m := by omega
        clear bX hX1 gX hc1 hc2 hCr
        go_wp2_with fail
        rw [GX.out]
        refine kh.out.mono ?_
        rintro e w1 ⟨rfl, rfl⟩
        clear kh
        cases hk : hasB N k with
        | false =>
          have hE : stepF N Fi i pv k = Fi := by unfold stepF; rw [if_neg (by rw [hk]; simp)]
          have HN : Hid (Mp w1 m (cntU N ks F (i + 1))) := by rw [HST.out, hE]; exact HMX
          clear hE
          go_wp2_with fail
          go_roundw
          case rel => exact ⟨i + 1, by omega, by go_num, HN, HUX⟩
          case measure => simp [intOf]; omega
        | true =>
          have hrg : Rg (-1) k := by
            have := rg_of hn (i := i) (prev := pv) hk (.inl HH0.out)
            rwa [if_pos HH0.out] at this
          have hE : stepF N Fi i pv k = incF Fi (-1) k := by unfold stepF; rw [if_pos ⟨hk, .inl HH0.out⟩, if_pos HH0.out]
          have hM0 : Mp w1.drew m Fi := HMX.out
          have hlk : (Instr.lookup 57 (.map (some m)) (.agg #[.int .i64 (-1), .int .i64 k]) false).run Try.prog w1.drew = .ok (.int .i64 (Fi (-1) k)) w1.drew := mp_lookup hM0 (-1) k hrg
          obtain ⟨v0, st, w2, hme, hM1, hU1, w3, hes, hM2, hU2⟩ := mp_entry hM0 (-1) k hrg
          have hlk1 : (Instr.lookup 57 (.map (some m)) (.agg #[.int .i64 (-1), .int .i64 k]) false).run Try.prog w2 = .ok (.int .i64 (Fi (-1) k)) w2 := mp_lookup hM1 (-1) k hrg
          have hme' : (Instr.mapEntry 57 (.map (some m)) (.agg #[.int .i64 (-1), .int .i64 k])).run Try.prog w1.drew = .ok (.tuple #[v0, st]) w2 := hme
          have hfb := HB.out (-1) k
          have hwr : IntKind.i64.wrap ((Fi (-1) k : Int) + 1) = (Fi (-1) k : Int) + 1 := by rw [IntKind.wrap_i64]; omega
          have hpX : p < w1.heap.size := by have := HUX.out.size; omega
          have hzX : wr.heap.size + 1 < w1.heap.size := HZ.out
          have a2 : w2.cell? ⟨p, 2, none⟩ = some (.map (some m)) := (World.cell?_of_block (a := ⟨p, 2, none⟩) (hU1.block p hpX (by omega))).trans d2
          have a0 : w2.cell? ⟨wr.heap.size + 1, 0, none⟩ = some (.int .i64 (-1)) := (World.cell?_of_block (a := ⟨wr.heap.size + 1, 0, none⟩) (hU1.block _ hzX hne)).trans z0
          have a1 : w2.cell? ⟨wr.heap.size + 1, 1, none⟩ = some (.int .i64 k) := (World.cell?_of_block (a := ⟨wr.heap.size + 1, 1, none⟩) (hU1.block _ hzX hne)).trans z1
          have hs2 : w1.heap.size ≤ w2.heap.size := hU1.size
          have b2 : w3.cell? ⟨p, 2, none⟩ = some (.map (some m)) := (World.cell?_of_block (a := ⟨p, 2, none⟩) (hU2.block p (by omega) (by omega))).trans a2
          have b0 : w3.cell? ⟨wr.heap.size + 1, 0, none⟩ = some (.int .i64 (-1)) := (World.cell?_of_block (a := ⟨wr.heap.size + 1, 0, none⟩) (hU2.block (wr.heap.size + 1) (by omega) hne)).trans a0
          have b1 : w3.cell? ⟨wr.heap.size + 1, 1, none⟩ = some (.int .i64 k) := (World.cell?_of_block (a := ⟨wr.heap.size + 1, 1, none⟩) (hU2.block (wr.heap.size + 1) (by omega) hne)).trans a1
          have HN : Hid (Mp w3 m (cntU N ks F (i + 1))) := by rw [HST.out, hE]; exact hid hM2
          have HUN : Hid (Upd (· = m) w w3) := hid ((HUX.out.trans (⟨hU1.os, hU1.tape, hU1.output, hU1.size, hU1.block⟩ : Upd (· = m) w1 w2) (fun _ _ h => h)).trans hU2 (fun _ _ h => h))
          obtain ⟨fi, gfi⟩ : ∃ fi : Int, fi = (Fi (-1) k : Int) := ⟨_, rfl⟩
          rw [← gfi] at hlk hlk1 hes hwr
          clear hE hM0 hM1 hM2 hU1 hU2 hme gfi
          go_wp2_with fail
          go_region_held3 (fun wx => wx.cell? ⟨p, 2, none⟩ = some (.map (some m)) ∧ wx.cell? ⟨wr.heap.size + 1, 0, none⟩ = some (.int .i64 (-1)) ∧ wx.cell? ⟨wr.heap.size + 1, 1, none⟩ = some (.int .i64 k)) (go_keep) (fail)
          all_goals
            go_wp2_with fail
            go_roundw
            case rel => exact ⟨i + 1, by omega, by go_num, HN, HUN⟩
            case measure => simp [intOf]; omega
      · have hi0 : 0 < i := by omega
        have hi0' : (0 : Int) < (i : Int) := by omega
        have hi1 : ¬ (i : Int) = 0 := by omega
        have hpv := HPr.out hi0
        obtain ⟨Y, gY⟩ : ∃ Y, (wr.alloc (.cells #[.int .i64 k, .slice xa xn xc] 80)).alloc (.cells #[.int .i64 (-1), .int .i64 k] 75) = Y := ⟨_, rfl⟩
        have bY : Below wr.heap.size wr Y := by rw [← gY]; exact below_box2 wr _ _
        have hY1 : Y.heap[wr.heap.size + 1]? = some (.cells #[.int .i64 (-1), .int .i64 k] 75 (0, 0)) := by
          have := heap_alloc_new (wr.alloc (.cells #[.int .i64 k, .slice xa xn xc] 80)) (.cells #[.int .i64 (-1), .int .i64 k] 75)
          rw [← gY]; simpa using this
        obtain ⟨X, gX⟩ : ∃ X, (wr.alloc (.cells #[.int .i64 k, .slice xa xn xc] 80)).alloc (.cells #[.int .i64 pv, .int .i64 k] 75) = X := ⟨_, rfl⟩
        have bX : Below wr.heap.size wr X := by rw [← gX]; exact below_box2 wr _ _
        have hX1 : X.heap[wr.heap.size + 1]? = some (.cells #[.int .i64 pv, .int .i64 k] 75 (0, 0)) := by
          have := heap_alloc_new (wr.alloc (.cells #[.int .i64 k, .slice xa xn xc] 80)) (.cells #[.int .i64 pv, .int .i64 k] 75)
          rw [← gX]; simpa using this
        have HZ : Hid (wr.heap.size + 1 < X.heap.size) := hid (Array.getElem?_eq_some_iff.1 hX1).1
        have hpvY : ((wr.alloc (.cells #[.int .i64 k, .slice xa xn xc] 80)).alloc (.cells #[.int .i64 (-1), .int .i64 k] 75)).cell? ⟨b, o + (i - 1) * 2, none⟩ = some (.int .i64 pv) := by
          rw [gY]; exact (bY.cell (p := ⟨b, o + (i - 1) * 2, none⟩) hbl).trans hpv
        clear bY hY1 gY
        have HMX : Hid (Mp X m Fi) := hid (HMi.out.upd (Upd.of_below (F := fun _ => False) bX) (fun h => h))
        have HUX : Hid (Upd (· = m) w X) := hid (HU.out.trans (Upd.of_below (F := (· = m)) bX) (fun _ _ h => h))
        have d1 : X.cell? ⟨p, 1, none⟩ = some (.slice ca N cc) := (bX.cell (p := ⟨p, 1, none⟩) hpr).trans hc1
        have d2 : X.cell? ⟨p, 2, none⟩ = some (.map (some m)) := (bX.cell (p := ⟨p, 2, none⟩) hpr).trans hc2
        have z0 : X.cell? ⟨wr.heap.size + 1, 0, none⟩ = some (.int .i64 pv) := cell_of_row _ _ 0 _ _ _ hX1
        have z1 : X.cell? ⟨wr.heap.size + 1, 1, none⟩ = some (.int .i64 k) := cell_of_row _ _ 1 _ _ _ hX1
        have kh := hid (has_any X p ca N cc k d1)
        have kh2 := hid (has_any X p ca N cc pv d1)
        have GX := hid gX
        have hne : wr.heap.size + 1 ≠ m := by omega
        clear bX hX1 gX hc1 hc2 hCr
        go_wp2_with fail
        rw [GX.out]
        refine kh.out.mono ?_
        rintro e w1 ⟨rfl, rfl⟩
        clear kh
        cases hk : hasB N k with
        | false =>
          have hE : stepF N Fi i pv k = Fi := by unfold stepF; rw [if_neg (by rw [hk]; simp)]
          have HN : Hid (Mp w1 m (cntU N ks F (i + 1))) := by rw [HST.out, hE]; exact HMX
          clear hE
          go_wp2_with fail
          go_roundw
          case rel => exact ⟨i + 1, by omega, by go_num, HN, HUX⟩
          case measure => simp [intOf]; omega
        | true =>
          go_wp2_with fail
          refine kh2.out.mono ?_
          rintro e w1 ⟨rfl, rfl⟩
          clear kh2
          cases hp2 : hasB N pv with
          | false =>
            have hE : stepF N Fi i pv k = Fi := by unfold stepF; rw [if_neg (by rw [hk, hp2]; simp; omega)]
            have HN : Hid (Mp w1 m (cntU N ks F (i + 1))) := by rw [HST.out, hE]; exact HMX
            clear hE
            go_wp2_with fail
            go_roundw
            case rel => exact ⟨i + 1, by omega, by go_num, HN, HUX⟩
            case measure => simp [intOf]; omega
          | true =>
            have hrg : Rg pv k := by
              have := rg_of hn (i := i) (prev := pv) hk (.inr hp2)
              rwa [if_neg h0] at this
            have hE : stepF N Fi i pv k = incF Fi pv k := by unfold stepF; rw [if_pos ⟨hk, .inr hp2⟩, if_neg h0]
            have hM0 : Mp w1.drew m Fi := HMX.out
            have hlk : (Instr.lookup 57 (.map (some m)) (.agg #[.int .i64 pv, .int .i64 k]) false).run Try.prog w1.drew = .ok (.int .i64 (Fi pv k)) w1.drew := mp_lookup hM0 pv k hrg
            obtain ⟨v0, st, w2, hme, hM1, hU1, w3, hes, hM2, hU2⟩ := mp_entry hM0 pv k hrg
            have hlk1 : (Instr.lookup 57 (.map (some m)) (.agg #[.int .i64 pv, .int .i64 k]) false).run Try.prog w2 = .ok (.int .i64 (Fi pv k)) w2 := mp_lookup hM1 pv k hrg
            have hme' : (Instr.mapEntry 57 (.map (some m)) (.agg #[.int .i64 pv, .int .i64 k])).run Try.prog w1.drew = .ok (.tuple #[v0, st]) w2 := hme
            have hfb := HB.out pv k
            have hwr : IntKind.i64.wrap ((Fi pv k : Int) + 1) = (Fi pv k : Int) + 1 := by rw [IntKind.wrap_i64]; omega
            have hpX : p < w1.heap.size := by have := HUX.out.size; omega
            have hzX : wr.heap.size + 1 < w1.heap.size := HZ.out
            have a2 : w2.cell? ⟨p, 2, none⟩ = some (.map (some m)) := (World.cell?_of_block (a := ⟨p, 2, none⟩) (hU1.block p hpX (by omega))).trans d2
            have a0 : w2.cell? ⟨wr.heap.size + 1, 0, none⟩ = some (.int .i64 pv) := (World.cell?_of_block (a := ⟨wr.heap.size + 1, 0, none⟩) (hU1.block _ hzX hne)).trans z0
            have a1 : w2.cell? ⟨wr.heap.size + 1, 1, none⟩ = some (.int .i64 k) := (World.cell?_of_block (a := ⟨wr.heap.size + 1, 1, none⟩) (hU1.block _ hzX hne)).trans z1
            have hs2 : w1.heap.size ≤ w2.heap.size := hU1.size
            have b2 : w3.cell? ⟨p, 2, none⟩ = some (.map (some m)) := (World.cell?_of_block (a := ⟨p, 2, none⟩) (hU2.block p (by omega) (by omega))).trans a2
            have b0 : w3.cell? ⟨wr.heap.size + 1, 0, none⟩ = some (.int .i64 pv) := (World.cell?_of_block (a := ⟨wr.heap.size + 1, 0, none⟩) (hU2.block (wr.heap.size + 1) (by omega) hne)).trans a0
            have b1 : w3.cell? ⟨wr.heap.size + 1, 1, none⟩ = some (.int .i64 k) := (World.cell?_of_block (a := ⟨wr.heap.size + 1, 1, none⟩) (hU2.block (wr.heap.size + 1) (by omega) hne)).trans a1
            have HN : Hid (Mp w3 m (cntU N ks F (i + 1))) := by rw [HST.out, hE]; exact hid hM2
            have HUN : Hid (Upd (· = m) w w3) := hid ((HUX.out.trans (⟨hU1.os, hU1.tape, hU1.output, hU1.size, hU1.block⟩ : Upd (· = m) w1 w2) (fun _ _ h => h)).trans hU2 (fun _ _ h => h))
            obtain ⟨fi, gfi⟩ : ∃ fi : Int, fi = (Fi pv k : Int) := ⟨_, rfl⟩
            rw [← gfi] at hlk hlk1 hes hwr
            clear hE hM0 hM1 hM2 hU1 hU2 hme gfi
            go_wp2_with fail
            go_region_held3 (fun wx => wx.cell? ⟨p, 2, none⟩ = some (.map (some m)) ∧ wx.cell? ⟨wr.heap.size + 1, 0, none⟩ = some (.int .i64 pv) ∧ wx.cell? ⟨wr.heap.size + 1, 1, none⟩ = some (.int .i64 k)) (go_keep) (fail)
            all_goals
              go_wp2_with fail
              go_roundw
              case rel => exact ⟨i + 1, by omega, by go_num, HN, HUN⟩
              case measure => simp [intOf]; omega
    · obtain rfl : i = sn := by omega
      go_wp2_with fail
      go_end0
      exact ⟨rfl, HMi.out, HU.out⟩

end Go.Proofs.Ytmieoihjgckfhaa
