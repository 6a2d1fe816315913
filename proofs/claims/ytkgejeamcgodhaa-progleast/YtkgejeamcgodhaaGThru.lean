/- The walk over a row of arguments, from outside in: what it makes of a number that the visitor keeps. -/
import Derived.Test.YtkgejeamcgodhaaGKids
namespace Go.Proofs.Ytkgejeamcgodhaa
open Go.RowKit
set_option linter.unusedVariables false
set_option maxRecDepth 20000

/-- What a visitor's number comes to over arguments. -/
def thrL (g : Int → Int → Ar → Int) : Int → List Int → List Ar → Int
  | s, t :: ts, a :: qs => thrL g (g s t a) ts qs
  | s, _, _ => s
def thr (f : Int → Ty → Hd → Int × Bool) (l : List Ty) : Nat → Int → Int → Ar → Int
  | 0, s, _, _ => s
  | d + 1, s, n, A => match l[n.toNat]? with
    | none => s
    | some T => if (f s T A.h).2 = true then thrL (thr f l d) (f s T A.h).1 (kidTy T A.h) A.ks else (f s T A.h).1
theorem thr_at (f : Int → Ty → Hd → Int × Bool) (l : List Ty) (d : Nat) (s : Int) (n : Nat) (h : n < l.length) (A : Ar) : thr f l (d + 1) s (n : Int) A = if (f s l[n] A.h).2 = true then thrL (thr f l d) (f s l[n] A.h).1 (kidTy l[n] A.h) A.ks else (f s l[n] A.h).1 := by
  simp only [thr, Int.toNat_natCast, List.getElem?_eq_getElem h]
theorem thrL_more (g : Int → Int → Ar → Int) : ∀ (ts : List Int) (qs : List Ar) (s : Int) (i : Nat) (h1 : i < ts.length) (h2 : i < qs.length), thrL g s (ts.take (i + 1)) (qs.take (i + 1)) = g (thrL g s (ts.take i) (qs.take i)) (ts.getD i 0) qs[i]
  | t :: ts, a :: qs, s, 0, _, _ => by simp [thrL]
  | t :: ts, a :: qs, s, i + 1, h1, h2 => by
    simp only [List.take_succ_cons, thrL]
    rw [thrL_more g ts qs (g s t a) i (by simpa using h1) (by simpa using h2)]
    simp

/-- A cell with a number, alone in its block. -/
def Num (w : World) (p : Nat) (tp : TypeId) (s : Int) : Prop := w.heap[p]? = some (.cells #[.int .i64 s] tp (0, 0))

/-- What a visitor does: it turns its number, and tells whether to go on within. -/
def Visits (w0 : World) (J : World → Prop) (p : Nat) (tp : TypeId) (K : Nat) (caps : Array Value) (f : Int → Ty → Hd → Int × Bool) : Prop :=
  (∀ (args : Array Value) (w : World), (callFunc K args).run Try.prog w = .ok (.enter K args) w) ∧
  ∀ (W : World) (s : Int) (b o : Nat) (n : Int) (T : Ty) (h : Hd) (ra : Option Addr) (rn rc : Nat) (ua : Option Addr) (un uc : Nat) (xa : Option Addr) (xn xc : Nat), Below w0.heap.size w0 W → J W → Num W p tp s → T.Ok W → h.Ok W → b < W.heap.size → b ≠ p → HdAt W b o h →
    Calls Try.prog K (#[.agg #[.pointer (some ⟨b, o, none⟩), .int .i64 n, .int .i64 T.k, .int .i64 T.s, .int .i64 T.lo, .int .i64 T.hi, .int .i64 T.d, .string T.o, .slice T.va T.vn T.vc, .slice T.ta T.tn T.tc, .slice T.ea T.en T.ec, .slice T.na T.nn T.nc, .slice ra rn rc, .slice ua un uc, .slice xa xn xc]] ++ caps) W fun e W' => e = .returned (.bool (f s T h).2) ∧ Num W' p tp (f s T h).1 ∧ Upd (· = p) W W'

theorem Ints.upd {p : Nat} {w w' : World} {a : Option Addr} {l : List Int} (h : Ints w a l) (u : Upd (· = p) w w') (hp : ∀ b o, a = some ⟨b, o, none⟩ → b ≠ p) : Ints w' a l := fun h0 => by
  obtain ⟨b, o, e, hlt, hc⟩ := h h0
  exact ⟨b, o, e, Nat.lt_of_lt_of_le hlt u.size, fun j hj => (World.cell?_of_block (a := ⟨b, o + j, none⟩) (u.block b hlt (hp b o e))).trans (hc j hj)⟩

/-- Arguments lie in a row, apart from a block. -/
def Args (w0 W : World) (p d : Nat) (a : Option Addr) (qs : List Ar) : Prop :=
  0 < qs.length → ∃ b o, a = some ⟨b, o, none⟩ ∧ b < W.heap.size ∧ b ≠ p ∧ ∀ j, ∀ h : j < qs.length, HdAt W b (o + j * 4) qs[j].h ∧ Okd d w0 qs[j]
theorem Args.upd {w0 W W' : World} {p d : Nat} {a : Option Addr} {qs : List Ar} (h : Args w0 W p d a qs) (u : Upd (· = p) W W') : Args w0 W' p d a qs := fun h0 => by
  obtain ⟨b, o, e, hlt, hp, hc⟩ := h h0
  exact ⟨b, o, e, Nat.lt_of_lt_of_le hlt u.size, hp, fun j hj => ⟨(hc j hj).1.blk (u.block b hlt hp), (hc j hj).2⟩⟩
theorem Upd.belowW {p : Nat} {w0 W W' : World} (hb : Below w0.heap.size w0 W) (u : Upd (· = p) W W') (hp : w0.heap.size ≤ p) : Below w0.heap.size w0 W' :=
  hb.trans (u.below hb.size (fun x hx => by subst hx; exact hp))

set_option maxHeartbeats 16000000 in
theorem through (w0 : World) (J : World → Prop) (p : Nat) (tp : TypeId) (K : Nat) (caps : Array Value) (f : Int → Ty → Hd → Int × Bool) (hV : Visits w0 J p tp K caps f) (hp : w0.heap.size ≤ p)
    (hJ : ∀ W W', J W → Upd (· = p) W W' → J W') (a : Option Addr) (m c : Nat) (a2 : Option Addr) (m2 c2 : Nat) (l : List Ty) (hT : Tys w0 a l) (hm : l.length = m) (hmb : m ≤ 9223372036854775807) (hG : Good l)
    (P : Nat → Int → Ar → Prop) (hP : ∀ d (n : Nat) (h : n < l.length) A s, P (d + 1) (n : Int) A → (f s l[n] A.h).2 = true → mis l[n] A.h = 0 ∧ ∀ j (h1 : j < A.ks.length), P d ((kidTy l[n] A.h).getD j 0) A.ks[j]) :
    ∀ (d : Nat) (ra : Option Addr) (rn rc : Nat) (ua : Option Addr) (un uc : Nat) (xa : Option Addr) (xn xc : Nat) (qs : List Ar) (ts : List Int) (W : World) (s : Int), Below w0.heap.size w0 W → J W → Num W p tp s →
      Args w0 W p d ra qs → qs.length = rn → rn ≤ rc → rc ≤ 9223372036854775807 → Ints W ua ts → (∀ b o, ua = some ⟨b, o, none⟩ → b ≠ p) → ts.length = un → un = rn → ahead m ts = true → (∀ j (h : j < qs.length), P d (ts.getD j 0) qs[j]) →
      Calls Try.prog 50 #[.agg #[.slice a m c, .slice a2 m2 c2], .agg #[.slice ra rn rc, .slice ua un uc, .slice xa xn xc], .func (.func K) #[] caps] W fun e W' => e = .returned (.tuple #[]) ∧ Num W' p tp (thrL (thr f l d) s ts qs) ∧ Upd (· = p) W W' := by
  intro d
  induction d with
  | zero =>
    intro ra rn rc ua un uc xa xn xc qs ts W s hW hj hs hA hrn hrc hrb hU hUp hun hur hah hPP
    have h0 : qs.length = 0 := by
      rcases Nat.eq_zero_or_pos qs.length with h | h
      · exact h
      · obtain ⟨_, _, _, _, _, hc⟩ := hA h
        exact (hc 0 h).2.elim
    obtain rfl : qs = [] := List.eq_nil_of_length_eq_zero h0
    obtain rfl : rn = 0 := hrn.symm
    obtain rfl : ts = [] := List.eq_nil_of_length_eq_zero (by omega)
    have HS := hid hs
    clear hs hA hU hUp hT hV hG hP hPP hJ hj hW hah
    go_enter Try.func50, Try.ntmps50
    go_wp2_with fail
    go_loop [11] (fun k => k = .int .i64 0) (fun _ => 0)
    case atStart => rfl
    case round =>
      subst hrel
      go_wp2_with fail
      go_end0
      refine ⟨rfl, ?_, Upd.of_below (below_box2 _ _ _)⟩
      unfold Num
      rw [(below_box2 W _ _).block p (Array.getElem?_eq_some_iff.1 HS.out).1]
      exact HS.out
  | succ d ih =>
    intro ra rn rc ua un uc xa xn xc qs ts W s hW hj hs hA hrn hrc hrb hU hUp hun hur hah hPP
    subst hur
    have hpW : p < W.heap.size := (Array.getElem?_eq_some_iff.1 hs).1
    have HW := hid hW
    have HJ := hid hj
    have HS := hid hs
    have HA := hid hA
    have HU := hid hU
    have HUp := hid hUp
    have HN := hid hrn
    have HTN := hid hun
    have HAH := hid hah
    have HPP := hid hPP
    have HV := hid hV
    have HT := hid hT
    have HG := hid hG
    have HP := hid hP
    have HJJ := hid hJ
    have HM := hid hm
    have IH := hid ih
    clear hs hA hU hUp hT hV hG hP hPP hJ hj hW hah hrn hun ih hm
    go_enter Try.func50, Try.ntmps50
    go_wp2_with fail
    obtain ⟨X, gX⟩ : ∃ X, X = (W.alloc (.cells #[.slice a m c, .slice a2 m2 c2] 25)).alloc (.cells #[.slice ra un rc, .slice ua un uc, .slice xa xn xc] 58) := ⟨_, rfl⟩
    rw [← gX]
    have hXB : Below W.heap.size W X := by rw [gX]; exact below_box2 _ _ _
    have hXs : X.heap.size = W.heap.size + 1 + 1 := by rw [gX]; simp
    have x30 : X.heap[W.heap.size]? = some (.cells #[.slice a m c, .slice a2 m2 c2] 25 (0, 0)) := by
      rw [gX, (below_box _ _).block _ (by simp)]; exact heap_alloc_new _ _
    have x40 : X.heap[W.heap.size + 1]? = some (.cells #[.slice ra un rc, .slice ua un uc, .slice xa xn xc] 58 (0, 0)) := by
      rw [gX]; have := heap_alloc_new (W.alloc (.cells #[.slice a m c, .slice a2 m2 c2] 25)) (.cells #[.slice ra un rc, .slice ua un uc, .slice xa xn xc] 58); simpa using this
    have HXB := hid hXB
    have HXs := hid hXs
    have HX3 := hid x30
    have HX4 := hid x40
    clear gX hXB hXs x30 x40
    go_loopw [11] (fun k wr => ∃ i : Nat, i ≤ un ∧ k = .int .i64 i ∧ Hid (Num wr p tp (thrL (thr f l (d + 1)) s (ts.take i) (qs.take i))) ∧ Hid (Upd (· = p) X wr)) (fun k _ => un - (intOf k).toNat)
    case atStart =>
      refine ⟨0, Nat.zero_le _, rfl, hid ?_, hid (Upd.refl _ _)⟩
      unfold Num
      rw [HXB.out.block p hpW]
      exact HS.out
    case round =>
      obtain ⟨i, hi, rfl, HI, HUX⟩ := hrel
      by_cases hlt : i < un
      · have hil : i < qs.length := by rw [HN.out]; exact hlt
        have hit : i < ts.length := by rw [HTN.out]; exact hlt
        have hx := ahead_at HAH.out i hit
        obtain ⟨n, hn⟩ : ∃ n : Nat, ts.getD i 0 = (n : Int) := ⟨(ts.getD i 0).toNat, by omega⟩
        have hnl : n < l.length := by rw [HM.out]; omega
        have HMore := hid (thrL_more (thr f l (d + 1)) ts qs s i hit hil)
        have HPi := hid (HPP.out i hil)
        rw [hn] at HMore HPi
        obtain ⟨b, o, rfl, hbl, hbp, hcs⟩ := HA.out (by omega)
        have UW : Hid (Upd (· = p) W wr) := hid ((Upd.of_below HXB.out).trans HUX.out (fun _ _ h => h))
        have hBw : Below w0.heap.size w0 wr := UW.out.belowW HW.out hp
        have hAt := (hcs i hil).1.blk (UW.out.block b hbl hbp)
        have hOk := (hcs i hil).2
        generalize qs[i] = A at *
        have kat := hid (at_in b o i n un rc ua un uc xa xn xc a m c a2 m2 c2 l ts wr hlt hrc hrb (HU.out.upd UW.out HUp.out) HTN.out hlt (by omega) hn (HT.out.below hBw) HM.out hnl hmb)
        have y3 := HUX.out.heap HX3.out (show ¬ W.heap.size = p by omega)
        have y4 := HUX.out.heap HX4.out (show ¬ W.heap.size + 1 = p by omega)
        have t0 : wr.cell? ⟨W.heap.size, 0, none⟩ = some (.slice a m c) := cell_of_row wr _ 0 _ _ _ y3
        have t1 : wr.cell? ⟨W.heap.size, 1, none⟩ = some (.slice a2 m2 c2) := cell_of_row wr _ 1 _ _ _ y3
        have r0 : wr.cell? ⟨W.heap.size + 1, 0, none⟩ = some (.slice (some ⟨b, o, none⟩) un rc) := cell_of_row wr _ 0 _ _ _ y4
        have r1 : wr.cell? ⟨W.heap.size + 1, 1, none⟩ = some (.slice ua un uc) := cell_of_row wr _ 1 _ _ _ y4
        have r2 : wr.cell? ⟨W.heap.size + 1, 2, none⟩ = some (.slice xa xn xc) := cell_of_row wr _ 2 _ _ _ y4
        have HY3 := hid y3
        have HBw := hid hBw
        have HAt := hid hAt
        have HOk := hid hOk
        have HGn := hid (HG.out n hnl)
        have hT0 : l[n].Ok w0 := by
          obtain ⟨_, _, _, _, htc⟩ := HT.out (by omega)
          exact (htc n hnl).2
        have HT0 := hid hT0
        have HKid := hid (kid_ok HG.out n hnl A.h hT0.el)
        have HPn := hid (fun S => HP.out d n hnl A S HPi.out)
        have HTh := hid (fun S => thr_at f l d S n hnl A)
        have hnm : n < m := by rw [← HM.out]; exact hnl
        clear hx hn y3 y4 hcs hBw hAt hOk hil hit hT0 HP HPi
        generalize l[n] = T at *
        generalize hS : thrL (thr f l (d + 1)) s (ts.take i) (qs.take i) = S at *
        clear hS
        have hbw : b < wr.heap.size := Nat.lt_of_lt_of_le hbl UW.out.size
        have hww : W.heap.size + 1 < wr.heap.size := by have := HUX.out.size; have := HXs.out; omega
        go_wp2_with fail
        refine kat.out.mono ?_
        rintro e w1 ⟨rfl, hb1⟩
        have hs1 : wr.heap.size ≤ w1.heap.size := hb1.size
        have u1 : Hid (∀ o', Upd (· = p) W (w1.alloc o')) := hid (fun o' => (UW.out.trans (Upd.of_below hb1) (fun _ _ h => h)).trans (Upd.of_below (below_box w1 o')) (fun _ _ h => h))
        have b1 : Hid (∀ o', Below wr.heap.size wr (w1.alloc o')) := hid (fun o' => hb1.trans ((below_box w1 o').mono hs1))
        have n1 : Hid (∀ o', Num (w1.alloc o') p tp S) := hid (fun o' => by
          unfold Num
          rw [(b1.out o').block p (by omega)]
          exact HI.out)
        have kv := hid (fun o' => HV.out.2 (w1.alloc o') S b (o + i * 4) n T A.h (some ⟨b, o, none⟩) un rc ua un uc xa xn xc ((u1.out o').belowW HW.out hp) (HJJ.out _ _ HJ.out (u1.out o')) (n1.out o') (HT0.out.below ((u1.out o').belowW HW.out hp)) (HOk.out.hd.below ((u1.out o').belowW HW.out hp)) (Nat.lt_of_lt_of_le hbw (b1.out o').size) hbp (HAt.out.blk ((b1.out o').block b hbw)))
        have hgo := HV.out.1
        clear hb1 kat t0 t1 r0 r1 r2
        go_wp2_with fail
        refine (kv.out _).mono ?_
        rintro e w2 ⟨rfl, hs2, hu2⟩
        have HS2 := hid hs2
        have U2 := hid ((u1.out _).trans hu2 (fun _ _ h => h))
        have hs12 : w1.heap.size < w2.heap.size := by have := hu2.size; simp at this; omega
        have hq2 := hu2.heap (heap_alloc_new w1 _) (show ¬ w1.heap.size = p by omega)
        have HQ2 := hid hq2
        have ht2 : w2.heap[W.heap.size]? = some (.cells #[.slice a m c, .slice a2 m2 c2] 25 (0, 0)) := (hu2.block _ (by simp; omega) (by omega)).trans (((b1.out _).block _ (by omega)).trans HY3.out)
        have HBl2 : Hid (w2.heap[b]? = wr.heap[b]?) := hid ((hu2.block b (by simp; omega) hbp).trans ((b1.out _).block b hbw))
        have HU2' : Hid (Upd (· = p) X w2) := hid (HUX.out.trans ((Upd.of_below (b1.out _)).trans hu2 (fun _ _ h => h)) (fun _ _ h => h))
        generalize hB : (f S T A.h).2 = B at *
        have HTs := hid (HTh.out S)
        rw [hB] at HTs
        have HPs := hid (HPn.out S)
        rw [hB] at HPs
        generalize (f S T A.h).1 = S2 at *
        clear hs2 hu2 kv hq2 hgo hB
        cases B
        · go_wp2_with fail
          go_roundw
          case rel => exact ⟨i + 1, by omega, by go_num, hid (by rw [HMore.out, HTs.out]; exact HS2.out), HU2'⟩
          case measure => simp [intOf]; omega
        · obtain ⟨hmis, hPk⟩ := HPs.out rfl
          obtain ⟨hkl, hka⟩ := HKid.out hmis
          obtain ⟨hG1, hG2, hG3⟩ := HGn.out
          obtain ⟨ho1, ho2, ho3⟩ := HOk.out
          have HB2 : Hid (Below w0.heap.size w0 w2) := hid (U2.out.belowW HW.out hp)
          have hp2 : p < w2.heap.size := by omega
          have hb2 : b < w2.heap.size := by omega
          have hW2 : W.heap.size < w2.heap.size := by omega
          have hWp : W.heap.size ≠ p := by omega
          have hqp : w1.heap.size ≠ p := by omega
          have kk := hid (fun wx (hx : Below w2.heap.size w2 wx) => kids_any b (o + i * 4) n T A.h (some ⟨b, o, none⟩) un rc ua un uc xa xn xc wx (HT0.out.below (HB2.out.trans (hx.mono HB2.out.size))) (ho1.below (HB2.out.trans (hx.mono HB2.out.size))) (Nat.lt_of_lt_of_le hb2 hx.size) (HAt.out.blk ((hx.block b hb2).trans HBl2.out)) hG2 hG3 hmis)
          have hahm : ahead m (kidTy T A.h) = true := by
            unfold ahead at hka ⊢
            rw [List.all_eq_true] at hka ⊢
            intro x hx
            have := hka x hx
            simp at this ⊢
            omega
          have hargs : ∀ W', Below w0.heap.size w0 W' → Args w0 W' p d A.h.ka A.ks := fun W' hW' h0 => by
            obtain ⟨b', o', e', hl', hc'⟩ := ho3 h0
            exact ⟨b', o', e', Nat.lt_of_lt_of_le hl' hW'.size, by omega, fun j hj => ⟨(hc' j hj).1.blk (hW'.block b' hl'), (hc' j hj).2⟩⟩
          have heab : ∀ b' o'', 0 < T.es.length → T.ea = some ⟨b', o'', none⟩ → b' ≠ p := fun b' o'' h0 e' => by
            obtain ⟨b3, o3, e3, hl3, _⟩ := HT0.out.es h0
            rw [e'] at e3
            cases e3
            omega
          have hkm := ho1.km
          have hkb := ho1.kb
          have HAR := hid hargs
          have HEA := hid heab
          have HAM := hid hahm
          have HKL := hid hkl
          have HO2 := hid ho2
          have HPk := hid hPk
          clear hargs heab hahm hkl ho1 ho2 ho3 hka hG1 hG2 hG3 hmis hPk HPs HKid HGn HOk
          have z00 : w2.cell? ⟨W.heap.size, 0, none⟩ = some (.slice a m c) := cell_of_row w2 _ 0 _ _ _ ht2
          have z01 : w2.cell? ⟨W.heap.size, 1, none⟩ = some (.slice a2 m2 c2) := cell_of_row w2 _ 1 _ _ _ ht2
          have z0 : w2.cell? ⟨w1.heap.size, 0, none⟩ = some (.pointer (some ⟨b, o + i * 4, none⟩)) := cell_of_row w2 _ 0 _ _ _ HQ2.out
          have z1 : w2.cell? ⟨w1.heap.size, 1, none⟩ = some (.int .i64 (n : Int)) := cell_of_row w2 _ 1 _ _ _ HQ2.out
          have z2 : w2.cell? ⟨w1.heap.size, 2, none⟩ = some (.int .i64 T.k) := cell_of_row w2 _ 2 _ _ _ HQ2.out
          have z3 : w2.cell? ⟨w1.heap.size, 3, none⟩ = some (.int .i64 T.s) := cell_of_row w2 _ 3 _ _ _ HQ2.out
          have z4 : w2.cell? ⟨w1.heap.size, 4, none⟩ = some (.int .i64 T.lo) := cell_of_row w2 _ 4 _ _ _ HQ2.out
          have z5 : w2.cell? ⟨w1.heap.size, 5, none⟩ = some (.int .i64 T.hi) := cell_of_row w2 _ 5 _ _ _ HQ2.out
          have z6 : w2.cell? ⟨w1.heap.size, 6, none⟩ = some (.int .i64 T.d) := cell_of_row w2 _ 6 _ _ _ HQ2.out
          have z7 : w2.cell? ⟨w1.heap.size, 7, none⟩ = some (.string T.o) := cell_of_row w2 _ 7 _ _ _ HQ2.out
          have z8 : w2.cell? ⟨w1.heap.size, 8, none⟩ = some (.slice T.va T.vn T.vc) := cell_of_row w2 _ 8 _ _ _ HQ2.out
          have z9 : w2.cell? ⟨w1.heap.size, 9, none⟩ = some (.slice T.ta T.tn T.tc) := cell_of_row w2 _ 9 _ _ _ HQ2.out
          have z10 : w2.cell? ⟨w1.heap.size, 10, none⟩ = some (.slice T.ea T.en T.ec) := cell_of_row w2 _ 10 _ _ _ HQ2.out
          have z11 : w2.cell? ⟨w1.heap.size, 11, none⟩ = some (.slice T.na T.nn T.nc) := cell_of_row w2 _ 11 _ _ _ HQ2.out
          have z12 : w2.cell? ⟨w1.heap.size, 12, none⟩ = some (.slice (some ⟨b, o, none⟩) un rc) := cell_of_row w2 _ 12 _ _ _ HQ2.out
          have z13 : w2.cell? ⟨w1.heap.size, 13, none⟩ = some (.slice ua un uc) := cell_of_row w2 _ 13 _ _ _ HQ2.out
          have z14 : w2.cell? ⟨w1.heap.size, 14, none⟩ = some (.slice xa xn xc) := cell_of_row w2 _ 14 _ _ _ HQ2.out
          clear ht2
          generalize kidTy T A.h = KT at *
          go_wp2_with fail
          go_region_held3 (fun wx => wx.cell? ⟨W.heap.size, 0, none⟩ = some (.slice a m c) ∧ wx.cell? ⟨W.heap.size, 1, none⟩ = some (.slice a2 m2 c2) ∧ wx.cell? ⟨w1.heap.size, 0, none⟩ = some (.pointer (some ⟨b, o + i * 4, none⟩)) ∧ wx.cell? ⟨w1.heap.size, 1, none⟩ = some (.int .i64 (n : Int)) ∧ wx.cell? ⟨w1.heap.size, 2, none⟩ = some (.int .i64 T.k) ∧ wx.cell? ⟨w1.heap.size, 3, none⟩ = some (.int .i64 T.s) ∧ wx.cell? ⟨w1.heap.size, 4, none⟩ = some (.int .i64 T.lo) ∧ wx.cell? ⟨w1.heap.size, 5, none⟩ = some (.int .i64 T.hi) ∧ wx.cell? ⟨w1.heap.size, 6, none⟩ = some (.int .i64 T.d) ∧ wx.cell? ⟨w1.heap.size, 7, none⟩ = some (.string T.o) ∧ wx.cell? ⟨w1.heap.size, 8, none⟩ = some (.slice T.va T.vn T.vc) ∧ wx.cell? ⟨w1.heap.size, 9, none⟩ = some (.slice T.ta T.tn T.tc) ∧ wx.cell? ⟨w1.heap.size, 10, none⟩ = some (.slice T.ea T.en T.ec) ∧ wx.cell? ⟨w1.heap.size, 11, none⟩ = some (.slice T.na T.nn T.nc) ∧ wx.cell? ⟨w1.heap.size, 12, none⟩ = some (.slice (some ⟨b, o, none⟩) un rc) ∧ wx.cell? ⟨w1.heap.size, 13, none⟩ = some (.slice ua un uc) ∧ wx.cell? ⟨w1.heap.size, 14, none⟩ = some (.slice xa xn xc)) (go_keep) (first
            | (go_at_call 80; refine (kk.out _ (below_hp (Below.refl _ w2) (by rfl) (by rfl) (by rfl) (by rfl))).mono ?_; rintro e w3 ⟨ta, tn, tc, ya, yn, yc, rfl, hI3, hl3, hn3, hfr3, hb3⟩; have y3 : ∀ b o, b < w2.heap.size → w3.cell? ⟨b, o, none⟩ = w2.cell? ⟨b, o, none⟩ := cell_like hb3 (by rfl); have HB3 : Hid (Below w2.heap.size w2 w3) := hid ((below_hp (Below.refl _ w2) (by rfl) (by rfl) (by rfl) (by rfl)).trans hb3); have kr := hid (fun wx (hx : Below w3.heap.size w3 wx) => IH.out A.h.ka A.h.kn A.h.kc ta tn tc ya yn yc A.ks KT wx S2 (HB2.out.trans ((HB3.out.trans (hx.mono HB3.out.size)).mono HB2.out.size)) (HJJ.out _ _ HJ.out (U2.out.trans (Upd.of_below (HB3.out.trans (hx.mono HB3.out.size))) (fun _ _ h => h))) (by unfold Num; rw [(HB3.out.trans (hx.mono HB3.out.size)).block p hp2]; exact HS2.out) (HAR.out wx (HB2.out.trans ((HB3.out.trans (hx.mono HB3.out.size)).mono HB2.out.size))) HO2.out hkm hkb (hI3.below hx) (fun b' o' e' => by rcases hfr3 b' o' e' with h | ⟨h, o'', h'⟩; exact (by have h2 : w2.heap.size ≤ b' := h; omega); exact HEA.out b' o'' h h') hl3 (by rw [← hl3]; exact HKL.out) HAM.out HPk.out); have hs23 : w2.heap.size ≤ w3.heap.size := HB3.out.size; clear hb3 hI3 hfr3)
            | (go_at_call 50; refine (kr.out _ (below_hp (Below.refl _ w3) (by rfl) (by rfl) (by rfl) (by rfl))).mono ?_; rintro e w4 ⟨rfl, hs4, hu4⟩; have y4 : ∀ b o, b < w2.heap.size → b ≠ p → w4.cell? ⟨b, o, none⟩ = w2.cell? ⟨b, o, none⟩ := fun b' o' h h' => (World.cell?_of_block (a := ⟨b', o', none⟩) (hu4.block b' (Nat.lt_of_lt_of_le h hs23) h')).trans (y3 b' o' h); have HS4 := hid hs4; have HU4 : Hid (Upd (· = p) w2 w4) := hid ((Upd.of_below (below_hp (b := World.mk _ _ _ _ _) HB3.out rfl rfl rfl rfl)).trans hu4 (fun _ _ h => h)); clear hs4 hu4))
          go_wp2_with fail
          go_roundw
          case rel => exact ⟨i + 1, by omega, by go_num, hid (by rw [HMore.out, HTs.out]; exact HS4.out), hid (HU2'.out.trans HU4.out (fun _ _ h => h))⟩
          case measure => simp [intOf]; omega
      · obtain rfl : i = un := by omega
        go_wp2_with fail
        go_end0
        refine ⟨rfl, ?_, (Upd.of_below HXB.out).trans HUX.out (fun _ _ h => h)⟩
        have := HI.out
        rw [List.take_of_length_le (by rw [HTN.out]; exact Nat.le_refl _), List.take_of_length_le (by rw [HN.out]; exact Nat.le_refl _)] at this
        exact this

end Go.Proofs.Ytkgejeamcgodhaa
