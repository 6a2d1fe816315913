/- Nodes as they lie; what numbersOf, fits and Opens do. -/
import Derived.Test.YtgbikncpmgikaaaOWith
namespace Go.Proofs.Ytgbikncpmgikaaa
open Go.RowKit
set_option linter.unusedVariables false
set_option maxRecDepth 20000

/-- A node, with where its lists lie. -/
structure Nd where
  (n k l s h : Int)
  ba : Option Addr
  bs : List Int
  bc : Nat
  na : Option Addr
  (nn nc : Nat)
  oa : Option Addr
  (on oc : Nat)
def nd0 : Nd := ⟨0, 0, 0, 0, 0, none, [], 0, none, 0, 0, none, 0, 0⟩
structure Nd.Ok (w : World) (d : Nd) : Prop where
  wn : W64 d.n
  ws : W64 d.s
  bs : IntL w d.ba d.bs
  bn : d.bs.length ≤ 9223372036854775807
structure NdAt (w : World) (b o : Nat) (d : Nd) : Prop where
  c0 : w.cell? ⟨b, o, none⟩ = some (.int .i64 d.n)
  c1 : w.cell? ⟨b, o + 1, none⟩ = some (.int .i64 d.k)
  c2 : w.cell? ⟨b, o + 2, none⟩ = some (.int .i64 d.l)
  c3 : w.cell? ⟨b, o + 3, none⟩ = some (.int .i64 d.s)
  c4 : w.cell? ⟨b, o + 4, none⟩ = some (.int .i64 d.h)
  c5 : w.cell? ⟨b, o + 5, none⟩ = some (.slice d.ba d.bs.length d.bc)
  c6 : w.cell? ⟨b, o + 6, none⟩ = some (.slice d.na d.nn d.nc)
  c7 : w.cell? ⟨b, o + 7, none⟩ = some (.slice d.oa d.on d.oc)
theorem NdAt.of {w w' : World} {b o : Nat} {d : Nd} (h : NdAt w b o d) (e : w'.heap[b]? = w.heap[b]?) : NdAt w' b o d :=
  have f : ∀ j, w'.cell? ⟨b, j, none⟩ = w.cell? ⟨b, j, none⟩ := fun j => World.cell?_of_block (a := ⟨b, j, none⟩) e
  ⟨(f _).trans h.c0, (f _).trans h.c1, (f _).trans h.c2, (f _).trans h.c3, (f _).trans h.c4, (f _).trans h.c5, (f _).trans h.c6, (f _).trans h.c7⟩
/-- Nodes as they lie. -/
structure Nds (w : World) (a : Option Addr) (l : List Nd) : Prop where
  ok : ∀ d ∈ l, d.Ok w
  ex : 0 < l.length → ∃ b o, a = some ⟨b, o, none⟩ ∧ b < w.heap.size ∧ ∀ j, j < l.length → NdAt w b (o + j * 8) (l.getD j nd0)
/-- Blocks that are not among those that were there before. -/
theorem Nds.upd {G : Nat → Prop} {w0 w w' : World} {a : Option Addr} {l : List Nd} (h : Nds w0 a l) (u0 : Upd G w0 w') (hG : ∀ b, b < w0.heap.size → ¬ G b) : Nds w' a l :=
  ⟨fun d hd => ⟨(h.ok d hd).wn, (h.ok d hd).ws, (h.ok d hd).bs.upd u0 (fun b _ _ hb _ => hG b hb), (h.ok d hd).bn⟩, fun hn => by
    obtain ⟨b, o, e, hb, hc⟩ := h.ex hn
    exact ⟨b, o, e, Nat.lt_of_lt_of_le hb u0.size, fun j hj => (hc j hj).of (u0.block b hb (hG b hb))⟩⟩

set_option maxHeartbeats 2000000 in
theorem nums_any (w : World) (a : Option Addr) (l : List Nd) (c : Nat) (hR : Nds w a l) (hl : l.length ≤ 35184372088832) :
    Calls Try.prog 20 #[.slice a l.length c] w fun e w' => ∃ N, e = .returned (.map (some w.heap.size)) ∧ Oc w' w.heap.size l.length N (cn (l.map Nd.n)) ∧ Upd (fun _ => False) w w' := by
  have HR := hid hR
  obtain ⟨n, gn⟩ : ∃ n, n = l.length := ⟨_, rfl⟩
  have GN := hid gn
  rw [← gn] at hl ⊢
  clear hR gn
  have hmm := @run_makeMap Try.prog
  go_enter Try.func20, Try.ntmps20
  go_wp2_with fail
  clear hmm
  go_loopw [9] (fun k wr => ∃ (i : Nat), i ≤ n ∧ k = .int .i64 i ∧ Hid (∃ N, Oc wr w.heap.size i N (cn ((l.take i).map Nd.n))) ∧ Hid (Upd (fun _ => False) w wr)) (fun k _ => n - (intOf k).toNat)
  case atStart => exact ⟨0, by omega, rfl, hid ⟨0, Oc.none w⟩, hid (Upd.alloc _ _ _)⟩
  case round =>
    obtain ⟨i, hi, rfl, HM, HU⟩ := hrel
    rename World => wr
    by_cases hlt : i < n
    · have hln : i < l.length := by rw [← GN.out]; exact hlt
      obtain ⟨b, o, rfl, hbl, hc⟩ := (HR.out.upd (w := wr) HU.out (fun _ _ h => h)).ex (by omega)
      have hw := (HR.out.ok _ (getD_mem l i nd0 hln)).wn
      have HT : Hid ((l.take (i + 1)).map Nd.n = (l.take i).map Nd.n ++ [(l.getD i nd0).n]) := hid (by rw [take_snoc l i nd0 hln, List.map_append]; rfl)
      obtain ⟨c0, c1, c2, c3, c4, c5, c6, c7⟩ := hc i hln
      have W2 := hid hw
      generalize l.getD i nd0 = d at *
      obtain ⟨x, x1, x2, x3, x4, ba, bs, bc, na, nn, nc, oa, on, oc⟩ := d
      dsimp only at *
      generalize bs.length = bn at c5
      clear hc hw
      obtain ⟨N, hO⟩ := HM.out
      have HO := hid hO
      clear hO HM
      have hle := Nat.le_trans (cn_le ((l.take i).map Nd.n) x) (by rw [List.length_map]; exact List.length_take_le i l)
      generalize (l.take i).map Nd.n = L at *
      have hms := HO.out.lt
      have HTn : Hid (cn ((l.take (i + 1)).map Nd.n) = inc (cn L) x) := hid (by rw [HT.out, cn_snoc])
      have hX : Upd (fun _ => False) wr (wr.alloc (.cells #[.int .i64 x, .int .i64 x1, .int .i64 x2, .int .i64 x3, .int .i64 x4, .slice ba bn bc, .slice na nn nc, .slice oa on oc] 47)) := Upd.alloc _ _ _
      have hOX := HO.out.upd hX (fun h => h)
      have hlk := oc_look hOX W2.out
      obtain ⟨w3, hup, hO3, hU3⟩ := oc_inc hOX W2.out (by show i < maxLen; unfold maxLen; omega) (by omega)
      have hwr : IntKind.i64.wrap ((cn L x : Int) + 1) = (cn L x : Int) + 1 := by rw [IntKind.wrap_i64]; omega
      have HO3 : Hid (∃ N, Oc w3 w.heap.size (i + 1) N (cn ((l.take (i + 1)).map Nd.n))) := hid ⟨_, by rw [HTn.out]; exact hO3⟩
      have HU3 : Hid (Upd (fun _ => False) w w3) := hid ((HU.out.trans hX (fun _ _ h => h)).trans hU3 (fun x h1 h2 => by omega))
      generalize (cn L x : Int) = fi at hlk hup hwr
      clear hOX hX hO3 hU3 hle
      go_wp2_with fail
      go_roundw
      case rel => exact ⟨i + 1, by omega, by go_num, HO3, HU3⟩
      case measure => simp [intOf]; omega
    · have hin : i = n := by omega
      subst hin
      have HE : Hid (∃ N, Oc wr w.heap.size i N (cn (l.map Nd.n))) := by
        have := HM.out
        rw [List.take_of_length_le (by rw [← GN.out]; exact Nat.le_refl _)] at this
        exact hid this
      clear HM
      go_wp2_with fail
      go_ret
      obtain ⟨N, hN⟩ := HE.out
      exact ⟨N, rfl, hN, HU.out⟩

/-- As many blocks as the size needs. -/
def fitB (d : Nd) : Bool := decide (0 ≤ d.s) && decide (d.s ≤ 1099511627776) && ((d.bs.length : Int) == (d.s + 15) / 16)

set_option maxHeartbeats 2000000 in
theorem fits_any (w : World) (d : Nd) (hs : W64 d.s) :
    Calls Try.prog 16 #[.agg #[.int .i64 d.n, .int .i64 d.k, .int .i64 d.l, .int .i64 d.s, .int .i64 d.h, .slice d.ba d.bs.length d.bc, .slice d.na d.nn d.nc, .slice d.oa d.on d.oc]] w fun e w' => e = .returned (.bool (fitB d)) ∧ Upd (fun _ => False) w w' := by
  obtain ⟨x, x1, x2, s, x4, ba, bs, bc, na, nn, nc, oa, on, oc⟩ := d
  unfold fitB
  dsimp only at *
  generalize bs.length = bn
  have hX : Hid (Upd (fun _ => False) w (w.alloc (.cells #[.int .i64 x, .int .i64 x1, .int .i64 x2, .int .i64 s, .int .i64 x4, .slice ba bn bc, .slice na nn nc, .slice oa on oc] 47))) := hid (Upd.alloc _ _ _)
  by_cases h0 : 0 ≤ s
  · by_cases h1 : s ≤ 1099511627776
    · have e1 : IntKind.i64.wrap (s + 16) = s + 16 := by rw [IntKind.wrap_i64]; omega
      have e2 : IntKind.i64.wrap (s + 16 - 1) = s + 15 := by rw [IntKind.wrap_i64]; omega
      have e3 : (s + 15).tdiv 16 = (s + 15) / 16 := Int.tdiv_eq_ediv_of_nonneg (by omega)
      have e4 : IntKind.i64.wrap ((s + 15) / 16) = (s + 15) / 16 := by rw [IntKind.wrap_i64]; omega
      have d0 : decide (0 ≤ s) = true := decide_eq_true h0
      have d1 : decide (s ≤ 1099511627776) = true := decide_eq_true h1
      rw [d0, d1]
      go_enter Try.func16, Try.ntmps16
      go_wp2_with fail
      go_ret
      exact ⟨by simp, hX.out⟩
    · have d0 : decide (0 ≤ s) = true := decide_eq_true h0
      have d1 : decide (s ≤ 1099511627776) = false := decide_eq_false h1
      rw [d0, d1]
      go_enter Try.func16, Try.ntmps16
      go_wp2_with fail
      go_ret
      exact ⟨by simp, hX.out⟩
  · have d0 : decide (0 ≤ s) = false := decide_eq_false h0
    rw [d0]
    go_enter Try.func16, Try.ntmps16
    go_wp2_with fail
    go_ret
    exact ⟨by simp, hX.out⟩

/-- A node is held as often as open files are of it, and not without links and holders. -/
def nodeB (F : Int → Nat) (d : Nd) : Bool := (d.h == (F d.n : Int)) && !((d.k == 1) && (d.l == 0) && (d.h == 0))
/-- The rule of open nodes. -/
noncomputable def opensB (l : List Nd) (F : Int → Nat) : Bool := l.all (nodeB F) && wiB F (cn (l.map Nd.n))

set_option maxHeartbeats 8000000 in
theorem opens_any (w : World) (a : Option Addr) (l : List Nd) (c : Nat) (a2 : Option Addr) (r : List Rec) (c2 : Nat) (hN : Nds w a l) (hl : l.length ≤ 35184372088832) (hR : Recs w 6 a2 r) (hr : r.length ≤ 35184372088832) :
    Calls Try.prog 14 #[.slice a l.length c, .slice a2 r.length c2] w fun e w' => e = .returned (.bool (opensB l (cn (opn 1 r)))) ∧ Upd (fun _ => False) w w' := by
  have HN := hid hN
  have KO := hid (opened_any w a2 r c2 1 hR hr)
  obtain ⟨n, gn⟩ : ∃ n, n = l.length := ⟨_, rfl⟩
  have GN := hid gn
  have HLN := hid hl
  rw [← gn] at hl ⊢
  generalize r.length = rn at *
  generalize opn 1 r = R at *
  clear hN gn hR
  go_enter Try.func14, Try.ntmps14
  go_wp2_with fail
  refine KO.out.mono ?_
  rintro e w1 ⟨N, rfl, hO, hU⟩
  have HO := hid hO
  have HU1 := hid hU
  clear KO hO hU
  go_wp2_with fail
  go_loopw [13] (fun k wr => ∃ (i : Nat), i ≤ n ∧ k = .int .i64 i ∧ Hid ((l.take i).all (nodeB (cn R)) = true) ∧ Hid (Upd (fun _ => False) w1 wr)) (fun k _ => n - (intOf k).toNat)
  case atStart => exact ⟨0, by omega, rfl, hid rfl, hid (Upd.refl _ _)⟩
  case round =>
    obtain ⟨i, hi, rfl, HA, HU⟩ := hrel
    rename_i wr
    have HUr : Hid (Upd (fun _ => False) w wr) := hid (HU1.out.trans HU.out (fun _ _ h => h))
    by_cases hlt : i < n
    · have hln : i < l.length := by rw [← GN.out]; exact hlt
      obtain ⟨b, o, rfl, hbl, hc⟩ := (HN.out.upd (w := wr) HUr.out (fun _ _ h => h)).ex (by omega)
      have W2 := hid (HN.out.ok _ (getD_mem l i nd0 hln)).wn
      have HT : Hid ((l.take (i + 1)).all (nodeB (cn R)) = nodeB (cn R) (l.getD i nd0)) := hid (by rw [take_snoc l i nd0 hln, List.all_append, HA.out]; simp)
      have HF : Hid (nodeB (cn R) (l.getD i nd0) = false → opensB l (cn R) = false) := hid fun h => by
        unfold opensB
        have : l.all (nodeB (cn R)) = false := by
          rw [List.all_eq_false]
          exact ⟨_, getD_mem l i nd0 hln, by rw [h]; simp⟩
        rw [this]; rfl
      obtain ⟨c0, c1, c2, c3, c4, c5, c6, c7⟩ := hc i hln
      generalize l.getD i nd0 = d at *
      obtain ⟨x, x1, x2, x3, x4, ba, bs, bc, na, nn, nc, oa, on, oc⟩ := d
      unfold nodeB at HT HF
      dsimp only at *
      generalize bs.length = bn at c5
      clear hc
      have hX : Upd (fun _ => False) wr (wr.alloc (.cells #[.int .i64 x, .int .i64 x1, .int .i64 x2, .int .i64 x3, .int .i64 x4, .slice ba bn bc, .slice na nn nc, .slice oa on oc] 47)) := Upd.alloc _ _ _
      have hlk := oc_look ((HO.out.upd HU.out (fun h => h)).upd hX (fun h => h)) W2.out
      have HU3 : Hid (Upd (fun _ => False) w1 (wr.alloc (.cells #[.int .i64 x, .int .i64 x1, .int .i64 x2, .int .i64 x3, .int .i64 x4, .slice ba bn bc, .slice na nn nc, .slice oa on oc] 47))) := hid (HU.out.trans hX (fun _ _ h => h))
      have HU4 : Hid (Upd (fun _ => False) w (wr.alloc (.cells #[.int .i64 x, .int .i64 x1, .int .i64 x2, .int .i64 x3, .int .i64 x4, .slice ba bn bc, .slice na nn nc, .slice oa on oc] 47))) := hid (HUr.out.trans hX (fun _ _ h => h))
      clear hX
      generalize (cn R x : Int) = f at *
      cases b1 : x1 == 1 <;> cases b2 : x2 == 0 <;> cases b3 : x4 == 0 <;> cases b4 : x4 == f
      all_goals
        have b5 : (x4 != f) = !(x4 == f) := rfl
        rw [b4] at b5
        rw [b1, b2, b3, b4] at HT HF
        go_wp2_with fail
        first
          | (go_roundw
             case rel => exact ⟨i + 1, by omega, by go_num, hid (HT.out.trans rfl), HU3⟩
             case measure => simp [intOf]; omega)
          | (go_ret
             rw [HF.out rfl]
             exact ⟨rfl, HU4.out⟩)
    · have hin : i = n := by omega
      subst hin
      have HA' : Hid (opensB l (cn R) = wiB (cn R) (cn (l.map Nd.n))) := by
        have := HA.out
        rw [List.take_of_length_le (by rw [← GN.out]; exact Nat.le_refl _)] at this
        exact hid (by unfold opensB; rw [this]; rfl)
      have KN := hid (nums_any wr a l c (HN.out.upd (w := wr) HUr.out (fun _ _ h => h)) HLN.out)
      rw [← GN.out] at KN
      clear HA
      go_wp2_with fail
      refine KN.out.mono ?_
      rintro e w2 ⟨N2, rfl, hO2, hU2⟩
      have KW := hid (within_any w2 w.heap.size wr.heap.size _ _ _ _ _ _ ((HO.out.upd HU.out (fun h => h)).upd hU2 (fun h => h)) hO2)
      have HU2 : Hid (Upd (fun _ => False) w w2) := hid (HUr.out.trans hU2 (fun _ _ h => h))
      clear KN hO2 hU2
      go_wp2_with fail
      refine KW.out.mono ?_
      rintro e w3 ⟨rfl, hU3⟩
      have HU3 : Hid (Upd (fun _ => False) w w3) := hid (HU2.out.trans hU3 (fun _ _ h => h))
      clear KW hU3
      go_wp2_with fail
      go_ret
      rw [HA'.out]
      exact ⟨rfl, HU3.out⟩

end Go.Proofs.Ytgbikncpmgikaaa
