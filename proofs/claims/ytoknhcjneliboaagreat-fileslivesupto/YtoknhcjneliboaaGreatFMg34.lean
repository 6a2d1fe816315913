/- Texts of this seat, merged. -/
import Derived.Test.YtoknhcjneliboaaGreatFMg33
import Derived.Test.YtoknhcjneliboaaGreatFMg3
import Derived.Test.YtoknhcjneliboaaGreatFMg4
import Derived.Test.YtoknhcjneliboaaGreatFMg24
import Derived.Test.YtoknhcjneliboaaGreatFMg10
import Derived.Deep.RegionHeld3
import Derived.Deep.DeepCutAuto
import Derived.Deep.CutBlock

/- Both tables with what else lies beside them, through a call of the law's 'does'. -/
namespace Go.Proofs.YtoknhcjneliboaaGreat
open Go.RowKit Go.ChangeMaps Go.MapKept
set_option linter.unusedVariables false
set_option maxRecDepth 20000

/-- What is true behind a call. -/
def Ok3 (T T' : Ft) (m : Int) : Prop := TOk T' ∧ LB T'.F (m + 1) ∧ T'.F.d = T.F.d
section
variable {T : Ft} {m : Int}
theorem Ok3.refl (H : TOk T) (hL : LB T.F m) : Ok3 T T m := ⟨H, hL.mono (by omega), rfl⟩
theorem lb_node {F : Fs} (hL : LB F m) (hm : 1 ≤ m) (l : List UInt8) (g : Int) : LB (Ft.node F l g).1 m := by
  unfold Ft.node
  split
  · exact hL
  split
  · exact hL.make hm l 1
  split
  · exact hL
  · exact hL
theorem lb_cutF {F : Fs} (hL : LB F m) (n : Nat) (g : Int) : LB (Ft.cutF F n g).1 m := by
  unfold Ft.cutF
  split
  · exact hL
  split
  · exact hL
  split
  · exact hL
  · exact hL.resize _ _
theorem openN_F (H : TOk T) (hL : LB T.F m) (hm : 1 ≤ m) (l : List UInt8) (g : Int) : LB (T.openN l g).1 m ∧ (T.openN l g).1.d = T.F.d := by
  obtain ⟨f1, s1⟩ := Ft.node_ok H.F l g
  obtain ⟨f2, s2⟩ := Ft.cutF_ok f1 (Ft.node T.F l g).2.1 g
  have l1 := lb_node hL hm l g
  have l2 := lb_cutF l1 (Ft.node T.F l g).2.1 g
  have d2 := s2.1.trans s1.1
  unfold Ft.openN
  split
  · exact ⟨l1, s1.1⟩
  split
  · exact ⟨l2, d2⟩
  · exact ⟨l2.hold _, (hold_d _ _).trans d2⟩
theorem Ok3.open_ (H : TOk T) (hL : LB T.F m) (hm : 1 ≤ m) (l : List UInt8) (g : Int) : Ok3 T (T.open_ l g).1 m := by
  obtain ⟨a, b⟩ := openN_F H hL hm l g
  refine ⟨H.open_ l g, ?_⟩
  unfold Ft.open_
  split
  · exact ⟨hL.mono (by omega), rfl⟩
  split
  · exact ⟨hL.mono (by omega), rfl⟩
  split
  · exact ⟨a.mono (by omega), b⟩
  · exact ⟨a.mono (by omega), b⟩
theorem Ok3.pipe (H : TOk T) (hL : LB T.F m) : Ok3 T T.pipe.1 m := by
  refine ⟨H.pipe, ?_⟩
  unfold Ft.pipe
  split
  · split
    · exact ⟨hL.mono (by omega), rfl⟩
    · exact ⟨hL.mono (by omega), rfl⟩
  · exact ⟨hL.mono (by omega), rfl⟩
theorem Ok3.read (H : TOk T) (hL : LB T.F m) (n c : Int) : Ok3 T (T.read n c).1 m := by
  refine ⟨H.read n c, ?_⟩
  unfold Ft.read
  split
  · exact ⟨hL.mono (by omega), rfl⟩
  split
  · exact ⟨hL.mono (by omega), rfl⟩
  · exact ⟨hL.mono (by omega), rfl⟩
theorem Ok3.write (H : TOk T) (hL : LB T.F m) (n : Int) (b : List Int) (hb : ∀ z ∈ b, 0 ≤ z ∧ z < 256) : Ok3 T (T.write n b).1 m := by
  refine ⟨H.write n b hb, ?_⟩
  unfold Ft.write
  split
  · exact ⟨hL.mono (by omega), rfl⟩
  split
  · exact ⟨hL.mono (by omega), rfl⟩
  split
  · exact ⟨hL.mono (by omega), rfl⟩
  · exact ⟨(hL.write _ _ _).mono (by omega), (SH.write _ _ _ _).1⟩
theorem Ok3.seek (H : TOk T) (hL : LB T.F m) (n off wh : Int) : Ok3 T (T.seek n off wh).1 m := by
  refine ⟨H.seek n off wh, ?_⟩
  unfold Ft.seek
  split
  · exact ⟨hL.mono (by omega), rfl⟩
  split
  · exact ⟨hL.mono (by omega), rfl⟩
  split
  · exact ⟨hL.mono (by omega), rfl⟩
  · exact ⟨hL.mono (by omega), rfl⟩
theorem Ok3.hold (H : TOk T) (hL : LB T.F m) (n : Int) : Ok3 T (T.hold n).1 m := by
  refine ⟨H.hold n, ?_⟩
  unfold Ft.hold
  split
  · exact ⟨hL.mono (by omega), rfl⟩
  split
  · exact ⟨hL.mono (by omega), rfl⟩
  · exact ⟨hL.mono (by omega), rfl⟩
theorem Ok3.drop (H : TOk T) (hL : LB T.F m) (hm : 1 ≤ m) (n : Int) : Ok3 T (T.drop n).1 m := by
  refine ⟨H.drop n, ?_⟩
  unfold Ft.drop
  split
  · exact ⟨hL.mono (by omega), rfl⟩
  split
  · exact ⟨hL.mono (by omega), rfl⟩
  split
  · exact ⟨(hL.drop hm _).mono (by omega), drop_d _ _⟩
  · exact ⟨hL.mono (by omega), rfl⟩
theorem Ok3.name (H : TOk T) (hL : LB T.F m) (hm : 1 ≤ m) (c : Int) (l l2 : List UInt8) : Ok3 T (T.name c l l2).1 m := by
  refine ⟨H.name c l l2, ?_, (Ft.nameF_ok H.F c l l2).2.1⟩
  show LB (Ft.nameF T.F c l l2).1 (m + 1)
  unfold Ft.nameF
  split
  · exact (hL.unlink hm l).mono (by omega)
  split
  · exact (hL.make hm l 2).mono (by omega)
  split
  · exact (hL.rmdir hm l).mono (by omega)
  split
  · exact hL.link l l2
  split
  · exact (hL.rename hm l l2).mono (by omega)
  · exact hL.mono (by omega)
theorem Ok3.trunc (H : TOk T) (hL : LB T.F m) (l : List UInt8) (z : Int) : Ok3 T (T.trunc l z).1 m := by
  refine ⟨H.trunc l z, ?_⟩
  unfold Ft.trunc
  split
  · exact ⟨hL.mono (by omega), rfl⟩
  · exact ⟨(hL.resize _ _).mono (by omega), (SH.resize _ _ _).1⟩
end

theorem tread_len {T : Ft} (H : TOk T) (n c : Int) : (T.read n c).2.1.length ≤ 96 := by
  unfold Ft.read
  split
  · exact Nat.zero_le _
  split
  · show (Pi.readL T.P _ c).length ≤ 96
    unfold Pi.readL
    split
    · split
      · have := (H.pq ((T.O n.toNat).of).toNat).1
        rw [List.length_take]
        omega
      · exact Nat.zero_le _
    · exact Nat.zero_le _
  · exact read_len H.F _ _ _

/-- wF is a world, blocks kb .. of it are kept; the pair has TP and TD in w, which is behind wF. -/
structure Sf (wF : World) (B kb : Nat) (G D : Nat → Prop) (pp t x : Nat) (TP TD : Ft) (w : World) : Prop where
  pr : Pt w B G D pp t x TP TD
  up : Upd (fun b => B ≤ b ∧ b < kb) wF w
  ot : ∀ b, kb ≤ b → b < wF.heap.size → Oty w G D pp b

section
variable {wF w w' : World} {B kb : Nat} {G D : Nat → Prop} {pp t x : Nat} {TP TD T' : Ft}
theorem Sf.prog (h : Sf wF B kb G D pp t x TP TD w) (k : TpTo w t T' G w') : ∃ G', Sf wF B kb G' D pp t x T' TD w' := by
  obtain ⟨a, b, c⟩ := h.pr.prog k
  exact ⟨_, a, h.up.trans k.2 (fun b hb hG => ⟨(h.pr.gG b hG).1, Nat.lt_of_not_le fun hk => (h.ot b hk hb).2.2.1 hG⟩), fun b hk hb => (c b (h.ot b hk hb)).2⟩
theorem Sf.progIn (h : Sf wF B kb G D pp t x TP TD w) (k : TpIn w t T' G w') : Sf wF B kb G D pp t x T' TD w' := by
  obtain ⟨t1, t2⟩ := k
  refine ⟨⟨t2.heap h.pr.box (fun e => (h.pr.gG pp e).2.2.1 rfl), t1, h.pr.td.upd t2 (fun b _ hD hG => (h.pr.gG b hG).2.2.2 hD), fun b hb => ⟨(h.pr.gG b hb).1, Nat.lt_of_lt_of_le (h.pr.gG b hb).2.1 t2.size, (h.pr.gG b hb).2.2⟩, fun b hb => ⟨(h.pr.gD b hb).1, Nat.lt_of_lt_of_le (h.pr.gD b hb).2.1 t2.size, (h.pr.gD b hb).2.2⟩, h.pr.gp⟩, h.up.trans t2 (fun b hb hG => ⟨(h.pr.gG b hG).1, Nat.lt_of_not_le fun hk => (h.ot b hk hb).2.2.1 hG⟩), fun b hk hb => ?_⟩
  obtain ⟨a1, a2, a3, a4⟩ := h.ot b hk hb
  exact ⟨Nat.lt_of_lt_of_le a1 t2.size, a2, a3, a4⟩
theorem Sf.doc (h : Sf wF B kb G D pp t x TP TD w) (k : TdTo w x T' D w') : ∃ D', Sf wF B kb G D' pp t x TP T' w' ∧ (∀ b, Oty w G D pp b → Oty w' G D' pp b) ∧ Upd D w w' := by
  obtain ⟨a, b, c⟩ := h.pr.doc k
  exact ⟨_, ⟨a, h.up.trans k.2 (fun b hb hG => ⟨(h.pr.gD b hG).1, Nat.lt_of_not_le fun hk => (h.ot b hk hb).2.2.2 hG⟩), fun b hk hb => (c b (h.ot b hk hb)).2⟩, fun b hb => (c b hb).2, k.2⟩
theorem Sf.doc1 (h : Sf wF B kb G D pp t x TP TD w) (k : TdTo w x T' D w') : ∃ D', Sf wF B kb G D' pp t x TP T' w' := by
  obtain ⟨D', a, _⟩ := h.doc k
  exact ⟨D', a⟩
theorem Sf.grow (h : Sf wF B kb G D pp t x TP TD w) (q : Below w.heap.size w w') : Sf wF B kb G D pp t x TP TD w' :=
  ⟨h.pr.grow q, h.up.trans (Upd.of_below (F := fun _ => False) q) (fun _ _ h => h.elim), fun b hk hb => (h.ot b hk hb).grow q⟩
theorem Sf.drew (h : Sf wF B kb G D pp t x TP TD w) : Sf wF B kb G D pp t x TP TD w.drew := h.grow (Below.refl _ _).drew
/-- What is neither side's turns. -/
theorem Sf.upd {U : Nat → Prop} (h : Sf wF B kb G D pp t x TP TD w) (q : Upd U w w') (hU : ∀ b, b < w.heap.size → U b → Oty w G D pp b) (hB : ∀ b, U b → wF.heap.size ≤ b) : Sf wF B kb G D pp t x TP TD w' :=
  ⟨h.pr.upd q hU, h.up.trans q (fun b hb hb2 => absurd (hB b hb2) (Nat.not_le_of_lt hb)), fun b hk hb => ⟨Nat.lt_of_lt_of_le (h.ot b hk hb).1 q.size, (h.ot b hk hb).2⟩⟩
theorem Sf.c0 (h : Sf wF B kb G D pp t x TP TD w) : w.cell? ⟨pp, 0, none⟩ = some (.pointer (some ⟨t, 0, none⟩)) := h.pr.c0
theorem Sf.c1 (h : Sf wF B kb G D pp t x TP TD w) : w.cell? ⟨pp, 1, none⟩ = some (.pointer (some ⟨x, 0, none⟩)) := h.pr.c1
theorem Sf.k (h : Sf wF B kb G D pp t x TP TD w) {b o : Nat} {v : Value} (hk : kb ≤ b) (hb : b < wF.heap.size) (hc : wF.cell? ⟨b, o, none⟩ = some v) : w.cell? ⟨b, o, none⟩ = some v :=
  (World.cell?_of_block (a := ⟨b, o, none⟩) (h.up.block b hb (fun q => absurd q.2 (Nat.not_lt_of_le hk)))).trans hc
/-- What is new behind a world is neither side's. -/
theorem Sf.new (h : Sf wF B kb G D pp t x TP TD w) {b : Nat} (h1 : w.heap.size ≤ b) (h2 : b < w'.heap.size) : Oty w' G D pp b :=
  ⟨h2, fun e => by have := h.pr.lt; omega, fun hG => by have := (h.pr.gG b hG).2.1; omega, fun hD => by have := (h.pr.gD b hD).2.1; omega⟩
end

/-- What 'does' leaves. -/
def DoF (w : World) (B : Nat) (pp t x : Nat) (m : Int) (T : Ft) (e : Ending) (w' : World) : Prop :=
  e = .returned (.bool true) ∧ ∃ G' D' T', Pt w' B G' D' pp t x T' T' ∧ Ok3 T T' m ∧ Below B w w'
theorem Sf.done {wF w w' : World} {B kb : Nat} {G D : Nat → Prop} {pp t x : Nat} {T T' : Ft} {m : Int} (h : Sf wF B kb G D pp t x T' T' w') (hb : Below w.heap.size w wF) (hB : B ≤ w.heap.size) (hT : Ok3 T T' m) : DoF w B pp t x m T (.returned (.bool true)) w' :=
  ⟨rfl, G, D, T', h.pr, hT, (hb.mono hB).trans (h.up.below (Nat.le_trans hB hb.size) (fun _ h => h.1))⟩
/-- A row of the call's own is written into at the end. -/
theorem Sf.doneU {wF w w1 w' : World} {B kb : Nat} {U G D : Nat → Prop} {pp t x : Nat} {T T' : Ft} {m : Int} (h : Sf wF B kb G D pp t x T' T' w1) (q : Upd U w1 w') (hU : ∀ b, b < w1.heap.size → U b → Oty w1 G D pp b) (hUB : ∀ b, U b → B ≤ b) (hb : Below w.heap.size w wF) (hB : B ≤ w.heap.size) (hT : Ok3 T T' m) : DoF w B pp t x m T (.returned (.bool true)) w' :=
  ⟨rfl, G, D, T', h.pr.upd q hU, hT, ((hb.mono hB).trans (h.up.below (Nat.le_trans hB hb.size) (fun _ h => h.1))).trans (q.below (Nat.le_trans hB (Nat.le_trans hb.size h.up.size)) hUB)⟩

end Go.Proofs.YtoknhcjneliboaaGreat

/- What the files' 'does' does: cases 0, 2, 6 (written by gen_tdo.py). -/
namespace Go.Proofs.YtoknhcjneliboaaGreat
open Go.RowKit Go.ChangeMaps Go.MapKept
set_option linter.unusedVariables false
set_option maxRecDepth 20000

set_option maxHeartbeats 8000000 in
theorem dof_0 (pp t x B : Nat) (G D : Nat → Prop) (T : Ft) (m : Int) (x0 x1 x2 x3 : Int) (t4 t5 : ByteArray) (ab : Option Addr) (lb cb : Nat) (bz : List Int) (w : World) (H : Pt w B G D pp t x T T) (hT : TOk T) (hL : LB T.F m) (hm : 1 ≤ m ∧ m ≤ 900000)
    (h4 : t4.size ≤ 1048576) (h5 : t5.size ≤ 1048576) (hx3n : -9223372036854775808 ≤ x3) (hx3 : x3 ≤ 9223372036854775807) (hb : Src w ab lb bz) (hbz : ∀ z ∈ bz, 0 ≤ z ∧ z < 256) (hlb : lb ≤ 140737488355328) (hcb : lb ≤ cb) (hbn : ab = none → lb = 0 ∧ cb = 0) (hbB : 0 < lb → ∀ b o, ab = some ⟨b, o, none⟩ → b < B)
    (hq : wrap64 ((IntKind.u64.wrap x0).tmod 12) = 0) :
    Calls Tryz.prog 7 #[.pointer (some ⟨pp, 0, none⟩), .agg #[.int .i64 x0, .int .i64 x1, .int .i64 x2, .int .i64 x3, .string t4, .string t5, .slice ab lb cb]] w (DoF w B pp t x m T) := by
  have hpl := H.lt
  have HB : Hid (B ≤ w.heap.size) := hid (Nat.le_trans H.gp (Nat.le_of_lt hpl))
  have HT := hid hT
  have HL := hid hL
  have HM := hid hm
  have H4 := hid h4
  have H5 := hid h5
  have HX3 := hid (And.intro hx3n hx3)
  have HSB := hid hb
  have HBZ := hid hbz
  have HBB := hid hbB
  have HBN := hid hbn
  have HLC := hid hcb
  have HLL := hid hlb
  have HML : Hid (∀ i, (T.F.P i).l ≤ 1000000) := hid (fun i => Int.le_trans (hL i) (by omega))
  have HQ := hid hq
  have HP := hid H
  have kc : Hid (∀ wx, Below w.heap.size w wx → Calls Tryz.prog 16 #[.slice ab lb cb] wx fun e w' => ∃ (av : Option Addr) (cv : Nat), e = .returned (.slice av lb cv) ∧ w'.ownsRow wx.heap.size 5 1 (.slice av lb cv) lb (bz.map (Value.int .u8)) ∧ Below wx.heap.size wx w') := hid (fun wx hbx => clone_opt ab lb cb bz wx (hb.below hbx) hlb hbn)
  clear H hT hL hm h4 h5 hx3n hx3 hb hbz hlb hcb hbn hbB hq
  go_enter Tryz.func7, Tryz.ntmps7
  go_upto_region 1 with fail
  obtain ⟨W1, gW1⟩ : ∃ W1, W1 = w.alloc (.cells #[.int .i64 x0, .int .i64 x1, .int .i64 x2, .int .i64 x3, .string t4, .string t5, .slice ab lb cb] 32) := ⟨_, rfl⟩
  rw [← gW1]
  have hb1 : Below w.heap.size w W1 := by rw [gW1]; exact (Below.refl _ _).alloc (Nat.le_refl _) _
  have hs1 : w.heap.size < W1.heap.size := by rw [gW1]; simp
  have e0 : W1.cell? ⟨w.heap.size, 0, none⟩ = some (.int .i64 x0) := by rw [gW1]; simp [go_sem]
  have e1 : W1.cell? ⟨w.heap.size, 1, none⟩ = some (.int .i64 x1) := by rw [gW1]; simp [go_sem]
  have e2 : W1.cell? ⟨w.heap.size, 2, none⟩ = some (.int .i64 x2) := by rw [gW1]; simp [go_sem]
  have e3 : W1.cell? ⟨w.heap.size, 3, none⟩ = some (.int .i64 x3) := by rw [gW1]; simp [go_sem]
  have e4 : W1.cell? ⟨w.heap.size, 4, none⟩ = some (.string t4) := by rw [gW1]; simp [go_sem]
  have e5 : W1.cell? ⟨w.heap.size, 5, none⟩ = some (.string t5) := by rw [gW1]; simp [go_sem]
  have e6 : W1.cell? ⟨w.heap.size, 6, none⟩ = some (.slice ab lb cb) := by rw [gW1]; simp [go_sem]
  have HB1 := hid hb1
  clear gW1 hb1
  go_upto_block 0 with (go_at_call 16; refine (kc.out _ HB1.out).mono ?_; rintro e wF ⟨av, cv, rfl, hG, hbF⟩; have f0 := (hbF.cell (p := ⟨w.heap.size, 0, none⟩) hs1).trans e0; have HG := hid hG; have HBF := hid hbF; clear hG hbF)
  rw [HQ.out]
  have hsF : w.heap.size < wF.heap.size := Nat.lt_of_lt_of_le hs1 HBF.out.size
  have f1 := (HBF.out.cell (p := ⟨w.heap.size, 1, none⟩) hs1).trans e1
  have f2 := (HBF.out.cell (p := ⟨w.heap.size, 2, none⟩) hs1).trans e2
  have f3 := (HBF.out.cell (p := ⟨w.heap.size, 3, none⟩) hs1).trans e3
  have f4 := (HBF.out.cell (p := ⟨w.heap.size, 4, none⟩) hs1).trans e4
  have f5 := (HBF.out.cell (p := ⟨w.heap.size, 5, none⟩) hs1).trans e5
  have f6 := (HBF.out.cell (p := ⟨w.heap.size, 6, none⟩) hs1).trans e6
  have HWF : Hid (Below w.heap.size w wF) := hid (HB1.out.trans (HBF.out.mono HB1.out.size))
  obtain ⟨kb, gkb⟩ : ∃ kb, kb = w.heap.size := ⟨_, rfl⟩
  rw [← gkb] at f0 f1 f2 f3 f4 f5 f6 hsF ⊢
  have hS0 : Sf wF B kb G D pp t x T T wF := by
    have h := HP.out.grow HWF.out
    refine ⟨h, Upd.refl _ _, fun b hk hb => ⟨hb, fun e => ?_, fun hG => ?_, fun hR => ?_⟩⟩
    · omega
    · have h1 := (HP.out.gG b hG).2.1
      omega
    · have h1 := (HP.out.gD b hR).2.1
      omega
  have q0 := hS0.c0
  have q1 := hS0.c1
  have HS0 := hid hS0
  have GKB := hid gkb
  have HKB : Hid (kb ≤ kb) := hid (Nat.le_refl _)
  clear e0 e1 e2 e3 e4 e5 e6 kc hS0 gkb
  obtain ⟨R, gR⟩ : ∃ R, R = T.open_ (bl t4) x3 := ⟨_, rfl⟩
  have HE : Hid (Ok3 T R.1 m) := by rw [gR]; exact hid (Ok3.open_ HT.out HL.out HM.out.1 _ _)
  have KP : Hid (∀ W G D TD, Sf wF B kb G D pp t x T TD W → Calls Tryz.prog 17 #[.pointer (some ⟨t, 0, none⟩), .string t4, .int .i64 x3] W fun e w' => e = .returned (.tuple #[.int .i64 (R.2.1 : Int), .int .i64 R.2.2]) ∧ ∃ G', Sf wF B kb G' D pp t x R.1 TD w') := by
    rw [gR]
    exact hid (fun W G D TD hs => (tpopen W t T G hs.pr.tp HT.out t4 (Nat.le_trans H4.out (by omega)) x3).mono (by rintro e w' ⟨he, k⟩; exact ⟨he, hs.prog k⟩))
  have KD : Hid (∀ W G D TP, Sf wF B kb G D pp t x TP T W → Calls Tryz.prog 18 #[.pointer (some ⟨x, 0, none⟩), .string t4, .int .i64 x3] W fun e w' => e = .returned (.tuple #[.int .i64 (R.2.1 : Int), .int .i64 R.2.2]) ∧ ∃ D', Sf wF B kb G D' pp t x TP R.1 w') := by
    rw [gR]
    exact hid (fun W G D TP hs => (tdopen W x T D hs.pr.td HT.out t4 H4.out x3 HX3.out.1 HX3.out.2).mono (by rintro e w' ⟨he, k⟩; exact ⟨he, hs.doc1 k⟩))
  clear gR
  go_wp2_with fail
  go_region_held3 (fun W => W.cell? ⟨pp, 0, none⟩ = some (.pointer (some ⟨t, 0, none⟩)) ∧ W.cell? ⟨pp, 1, none⟩ = some (.pointer (some ⟨x, 0, none⟩)) ∧ W.cell? ⟨kb, 3, none⟩ = some (.int .i64 x3) ∧ W.cell? ⟨kb, 4, none⟩ = some (.string t4)) (first | (refine ⟨?_, ?_, ?_, ?_⟩ <;> assumption) | go_keep) (first
    | (go_at_call 17; refine (KP.out _ _ _ _ (by first | exact HS0.out.drew | exact HS0.out)).mono ?_; rintro e w1 ⟨rfl, G1, hS1⟩; have z0 := hS1.c0; have z1 := hS1.c1; have zk3 := hS1.k HKB.out hsF f3; have zk4 := hS1.k HKB.out hsF f4; have HS1 := hid hS1; clear hS1)
    | fail)
  go_wp2_with fail
  go_region_held3 (fun W => W.cell? ⟨pp, 0, none⟩ = some (.pointer (some ⟨t, 0, none⟩)) ∧ W.cell? ⟨pp, 1, none⟩ = some (.pointer (some ⟨x, 0, none⟩)) ∧ W.cell? ⟨kb, 3, none⟩ = some (.int .i64 x3) ∧ W.cell? ⟨kb, 4, none⟩ = some (.string t4)) (first | (refine ⟨?_, ?_, ?_, ?_⟩ <;> assumption) | go_keep) (first
    | (go_at_call 18; refine (KD.out _ _ _ _ (by first | exact HS1.out.drew | exact HS1.out)).mono ?_; rintro e w2 ⟨rfl, D2, hS2⟩; have y0 := hS2.c0; have y1 := hS2.c1; have yk3 := hS2.k HKB.out hsF f3; have yk4 := hS2.k HKB.out hsF f4; have HS2 := hid hS2; clear hS2)
    | fail)
  go_wp2_with fail
  go_ret
  first
  | exact HS2.out.done HWF.out HB.out HE.out
  | exact HS2.out.drew.done HWF.out HB.out HE.out

set_option maxHeartbeats 8000000 in
theorem dof_2 (pp t x B : Nat) (G D : Nat → Prop) (T : Ft) (m : Int) (x0 x1 x2 x3 : Int) (t4 t5 : ByteArray) (ab : Option Addr) (lb cb : Nat) (bz : List Int) (w : World) (H : Pt w B G D pp t x T T) (hT : TOk T) (hL : LB T.F m) (hm : 1 ≤ m ∧ m ≤ 900000)
    (h4 : t4.size ≤ 1048576) (h5 : t5.size ≤ 1048576) (hx3n : -9223372036854775808 ≤ x3) (hx3 : x3 ≤ 9223372036854775807) (hb : Src w ab lb bz) (hbz : ∀ z ∈ bz, 0 ≤ z ∧ z < 256) (hlb : lb ≤ 140737488355328) (hcb : lb ≤ cb) (hbn : ab = none → lb = 0 ∧ cb = 0) (hbB : 0 < lb → ∀ b o, ab = some ⟨b, o, none⟩ → b < B)
    (hq : wrap64 ((IntKind.u64.wrap x0).tmod 12) = 2) :
    Calls Tryz.prog 7 #[.pointer (some ⟨pp, 0, none⟩), .agg #[.int .i64 x0, .int .i64 x1, .int .i64 x2, .int .i64 x3, .string t4, .string t5, .slice ab lb cb]] w (DoF w B pp t x m T) := by
  have hpl := H.lt
  have HB : Hid (B ≤ w.heap.size) := hid (Nat.le_trans H.gp (Nat.le_of_lt hpl))
  have HT := hid hT
  have HL := hid hL
  have HM := hid hm
  have H4 := hid h4
  have H5 := hid h5
  have HX3 := hid (And.intro hx3n hx3)
  have HSB := hid hb
  have HBZ := hid hbz
  have HBB := hid hbB
  have HBN := hid hbn
  have HLC := hid hcb
  have HLL := hid hlb
  have HML : Hid (∀ i, (T.F.P i).l ≤ 1000000) := hid (fun i => Int.le_trans (hL i) (by omega))
  have HQ := hid hq
  have HP := hid H
  have kc : Hid (∀ wx, Below w.heap.size w wx → Calls Tryz.prog 16 #[.slice ab lb cb] wx fun e w' => ∃ (av : Option Addr) (cv : Nat), e = .returned (.slice av lb cv) ∧ w'.ownsRow wx.heap.size 5 1 (.slice av lb cv) lb (bz.map (Value.int .u8)) ∧ Below wx.heap.size wx w') := hid (fun wx hbx => clone_opt ab lb cb bz wx (hb.below hbx) hlb hbn)
  clear H hT hL hm h4 h5 hx3n hx3 hb hbz hlb hcb hbn hbB hq
  go_enter Tryz.func7, Tryz.ntmps7
  go_upto_region 1 with fail
  obtain ⟨W1, gW1⟩ : ∃ W1, W1 = w.alloc (.cells #[.int .i64 x0, .int .i64 x1, .int .i64 x2, .int .i64 x3, .string t4, .string t5, .slice ab lb cb] 32) := ⟨_, rfl⟩
  rw [← gW1]
  have hb1 : Below w.heap.size w W1 := by rw [gW1]; exact (Below.refl _ _).alloc (Nat.le_refl _) _
  have hs1 : w.heap.size < W1.heap.size := by rw [gW1]; simp
  have e0 : W1.cell? ⟨w.heap.size, 0, none⟩ = some (.int .i64 x0) := by rw [gW1]; simp [go_sem]
  have e1 : W1.cell? ⟨w.heap.size, 1, none⟩ = some (.int .i64 x1) := by rw [gW1]; simp [go_sem]
  have e2 : W1.cell? ⟨w.heap.size, 2, none⟩ = some (.int .i64 x2) := by rw [gW1]; simp [go_sem]
  have e3 : W1.cell? ⟨w.heap.size, 3, none⟩ = some (.int .i64 x3) := by rw [gW1]; simp [go_sem]
  have e4 : W1.cell? ⟨w.heap.size, 4, none⟩ = some (.string t4) := by rw [gW1]; simp [go_sem]
  have e5 : W1.cell? ⟨w.heap.size, 5, none⟩ = some (.string t5) := by rw [gW1]; simp [go_sem]
  have e6 : W1.cell? ⟨w.heap.size, 6, none⟩ = some (.slice ab lb cb) := by rw [gW1]; simp [go_sem]
  have HB1 := hid hb1
  clear gW1 hb1
  go_upto_block 0 with (go_at_call 16; refine (kc.out _ HB1.out).mono ?_; rintro e wF ⟨av, cv, rfl, hG, hbF⟩; have f0 := (hbF.cell (p := ⟨w.heap.size, 0, none⟩) hs1).trans e0; have HG := hid hG; have HBF := hid hbF; clear hG hbF)
  rw [HQ.out]
  have hsF : w.heap.size < wF.heap.size := Nat.lt_of_lt_of_le hs1 HBF.out.size
  have f1 := (HBF.out.cell (p := ⟨w.heap.size, 1, none⟩) hs1).trans e1
  have f2 := (HBF.out.cell (p := ⟨w.heap.size, 2, none⟩) hs1).trans e2
  have f3 := (HBF.out.cell (p := ⟨w.heap.size, 3, none⟩) hs1).trans e3
  have f4 := (HBF.out.cell (p := ⟨w.heap.size, 4, none⟩) hs1).trans e4
  have f5 := (HBF.out.cell (p := ⟨w.heap.size, 5, none⟩) hs1).trans e5
  have f6 := (HBF.out.cell (p := ⟨w.heap.size, 6, none⟩) hs1).trans e6
  have HWF : Hid (Below w.heap.size w wF) := hid (HB1.out.trans (HBF.out.mono HB1.out.size))
  obtain ⟨kb, gkb⟩ : ∃ kb, kb = w.heap.size := ⟨_, rfl⟩
  rw [← gkb] at f0 f1 f2 f3 f4 f5 f6 hsF ⊢
  have hS0 : Sf wF B kb G D pp t x T T wF := by
    have h := HP.out.grow HWF.out
    refine ⟨h, Upd.refl _ _, fun b hk hb => ⟨hb, fun e => ?_, fun hG => ?_, fun hR => ?_⟩⟩
    · omega
    · have h1 := (HP.out.gG b hG).2.1
      omega
    · have h1 := (HP.out.gD b hR).2.1
      omega
  have q0 := hS0.c0
  have q1 := hS0.c1
  have HS0 := hid hS0
  have GKB := hid gkb
  have HKB : Hid (kb ≤ kb) := hid (Nat.le_refl _)
  clear e0 e1 e2 e3 e4 e5 e6 kc hS0 gkb
  obtain ⟨R, gR⟩ : ∃ R, R = T.pipe := ⟨_, rfl⟩
  have HE : Hid (Ok3 T R.1 m) := by rw [gR]; exact hid (Ok3.pipe HT.out HL.out)
  have KP : Hid (∀ W G D TD, Sf wF B kb G D pp t x T TD W → Calls Tryz.prog 19 #[.pointer (some ⟨t, 0, none⟩)] W fun e w' => e = .returned (.tuple #[.int .i64 (R.2.1 : Int), .int .i64 (R.2.2.1 : Int), .int .i64 R.2.2.2]) ∧ ∃ G', Sf wF B kb G' D pp t x R.1 TD w') := by
    rw [gR]
    exact hid (fun W G D TD hs => (tppipe W t T G hs.pr.tp HT.out).mono (by rintro e w' ⟨he, k⟩; exact ⟨he, hs.prog k⟩))
  have KD : Hid (∀ W G D TP, Sf wF B kb G D pp t x TP T W → Calls Tryz.prog 20 #[.pointer (some ⟨x, 0, none⟩)] W fun e w' => e = .returned (.tuple #[.int .i64 (R.2.1 : Int), .int .i64 (R.2.2.1 : Int), .int .i64 R.2.2.2]) ∧ ∃ D', Sf wF B kb G D' pp t x TP R.1 w') := by
    rw [gR]
    exact hid (fun W G D TP hs => (tdpipe W x T D hs.pr.td HT.out).mono (by rintro e w' ⟨he, k⟩; exact ⟨he, hs.doc1 k⟩))
  clear gR
  have k1 := hid (KP.out _ _ _ _ HS0.out)
  go_wp2_with fail
  refine k1.out.mono ?_
  rintro e w1 ⟨rfl, G1, hS1⟩
  have z0 := hS1.c0
  have z1 := hS1.c1
  have k2 := hid (KD.out _ _ _ _ hS1)
  have HS1 := hid hS1
  clear hS1 k1
  go_wp2_with fail
  refine k2.out.mono ?_
  rintro e w2 ⟨rfl, D2, hS2⟩
  have y0 := hS2.c0
  have y1 := hS2.c1
  have HS2 := hid hS2
  clear hS2 k2
  go_wp2_with fail
  go_ret
  first
  | exact HS2.out.done HWF.out HB.out HE.out
  | exact HS2.out.drew.done HWF.out HB.out HE.out

set_option maxHeartbeats 8000000 in
theorem dof_6 (pp t x B : Nat) (G D : Nat → Prop) (T : Ft) (m : Int) (x0 x1 x2 x3 : Int) (t4 t5 : ByteArray) (ab : Option Addr) (lb cb : Nat) (bz : List Int) (w : World) (H : Pt w B G D pp t x T T) (hT : TOk T) (hL : LB T.F m) (hm : 1 ≤ m ∧ m ≤ 900000)
    (h4 : t4.size ≤ 1048576) (h5 : t5.size ≤ 1048576) (hx3n : -9223372036854775808 ≤ x3) (hx3 : x3 ≤ 9223372036854775807) (hb : Src w ab lb bz) (hbz : ∀ z ∈ bz, 0 ≤ z ∧ z < 256) (hlb : lb ≤ 140737488355328) (hcb : lb ≤ cb) (hbn : ab = none → lb = 0 ∧ cb = 0) (hbB : 0 < lb → ∀ b o, ab = some ⟨b, o, none⟩ → b < B)
    (hq : wrap64 ((IntKind.u64.wrap x0).tmod 12) = 6) :
    Calls Tryz.prog 7 #[.pointer (some ⟨pp, 0, none⟩), .agg #[.int .i64 x0, .int .i64 x1, .int .i64 x2, .int .i64 x3, .string t4, .string t5, .slice ab lb cb]] w (DoF w B pp t x m T) := by
  have hpl := H.lt
  have HB : Hid (B ≤ w.heap.size) := hid (Nat.le_trans H.gp (Nat.le_of_lt hpl))
  have HT := hid hT
  have HL := hid hL
  have HM := hid hm
  have H4 := hid h4
  have H5 := hid h5
  have HX3 := hid (And.intro hx3n hx3)
  have HSB := hid hb
  have HBZ := hid hbz
  have HBB := hid hbB
  have HBN := hid hbn
  have HLC := hid hcb
  have HLL := hid hlb
  have HML : Hid (∀ i, (T.F.P i).l ≤ 1000000) := hid (fun i => Int.le_trans (hL i) (by omega))
  have HQ := hid hq
  have HP := hid H
  have kc : Hid (∀ wx, Below w.heap.size w wx → Calls Tryz.prog 16 #[.slice ab lb cb] wx fun e w' => ∃ (av : Option Addr) (cv : Nat), e = .returned (.slice av lb cv) ∧ w'.ownsRow wx.heap.size 5 1 (.slice av lb cv) lb (bz.map (Value.int .u8)) ∧ Below wx.heap.size wx w') := hid (fun wx hbx => clone_opt ab lb cb bz wx (hb.below hbx) hlb hbn)
  clear H hT hL hm h4 h5 hx3n hx3 hb hbz hlb hcb hbn hbB hq
  go_enter Tryz.func7, Tryz.ntmps7
  go_upto_region 1 with fail
  obtain ⟨W1, gW1⟩ : ∃ W1, W1 = w.alloc (.cells #[.int .i64 x0, .int .i64 x1, .int .i64 x2, .int .i64 x3, .string t4, .string t5, .slice ab lb cb] 32) := ⟨_, rfl⟩
  rw [← gW1]
  have hb1 : Below w.heap.size w W1 := by rw [gW1]; exact (Below.refl _ _).alloc (Nat.le_refl _) _
  have hs1 : w.heap.size < W1.heap.size := by rw [gW1]; simp
  have e0 : W1.cell? ⟨w.heap.size, 0, none⟩ = some (.int .i64 x0) := by rw [gW1]; simp [go_sem]
  have e1 : W1.cell? ⟨w.heap.size, 1, none⟩ = some (.int .i64 x1) := by rw [gW1]; simp [go_sem]
  have e2 : W1.cell? ⟨w.heap.size, 2, none⟩ = some (.int .i64 x2) := by rw [gW1]; simp [go_sem]
  have e3 : W1.cell? ⟨w.heap.size, 3, none⟩ = some (.int .i64 x3) := by rw [gW1]; simp [go_sem]
  have e4 : W1.cell? ⟨w.heap.size, 4, none⟩ = some (.string t4) := by rw [gW1]; simp [go_sem]
  have e5 : W1.cell? ⟨w.heap.size, 5, none⟩ = some (.string t5) := by rw [gW1]; simp [go_sem]
  have e6 : W1.cell? ⟨w.heap.size, 6, none⟩ = some (.slice ab lb cb) := by rw [gW1]; simp [go_sem]
  have HB1 := hid hb1
  clear gW1 hb1
  go_upto_block 0 with (go_at_call 16; refine (kc.out _ HB1.out).mono ?_; rintro e wF ⟨av, cv, rfl, hG, hbF⟩; have f0 := (hbF.cell (p := ⟨w.heap.size, 0, none⟩) hs1).trans e0; have HG := hid hG; have HBF := hid hbF; clear hG hbF)
  rw [HQ.out]
  have hsF : w.heap.size < wF.heap.size := Nat.lt_of_lt_of_le hs1 HBF.out.size
  have f1 := (HBF.out.cell (p := ⟨w.heap.size, 1, none⟩) hs1).trans e1
  have f2 := (HBF.out.cell (p := ⟨w.heap.size, 2, none⟩) hs1).trans e2
  have f3 := (HBF.out.cell (p := ⟨w.heap.size, 3, none⟩) hs1).trans e3
  have f4 := (HBF.out.cell (p := ⟨w.heap.size, 4, none⟩) hs1).trans e4
  have f5 := (HBF.out.cell (p := ⟨w.heap.size, 5, none⟩) hs1).trans e5
  have f6 := (HBF.out.cell (p := ⟨w.heap.size, 6, none⟩) hs1).trans e6
  have HWF : Hid (Below w.heap.size w wF) := hid (HB1.out.trans (HBF.out.mono HB1.out.size))
  obtain ⟨kb, gkb⟩ : ∃ kb, kb = w.heap.size := ⟨_, rfl⟩
  rw [← gkb] at f0 f1 f2 f3 f4 f5 f6 hsF ⊢
  have hS0 : Sf wF B kb G D pp t x T T wF := by
    have h := HP.out.grow HWF.out
    refine ⟨h, Upd.refl _ _, fun b hk hb => ⟨hb, fun e => ?_, fun hG => ?_, fun hR => ?_⟩⟩
    · omega
    · have h1 := (HP.out.gG b hG).2.1
      omega
    · have h1 := (HP.out.gD b hR).2.1
      omega
  have q0 := hS0.c0
  have q1 := hS0.c1
  have HS0 := hid hS0
  have GKB := hid gkb
  have HKB : Hid (kb ≤ kb) := hid (Nat.le_refl _)
  clear e0 e1 e2 e3 e4 e5 e6 kc hS0 gkb
  obtain ⟨R, gR⟩ : ∃ R, R = T.seek x1 x2 x3 := ⟨_, rfl⟩
  have HE : Hid (Ok3 T R.1 m) := by rw [gR]; exact hid (Ok3.seek HT.out HL.out _ _ _)
  have KP : Hid (∀ W G D TD, Sf wF B kb G D pp t x T TD W → Calls Tryz.prog 27 #[.pointer (some ⟨t, 0, none⟩), .int .i64 x1, .int .i64 x2, .int .i64 x3] W fun e w' => e = .returned (.tuple #[.int .i64 R.2.1, .int .i64 R.2.2]) ∧ ∃ G', Sf wF B kb G' D pp t x R.1 TD w') := by
    rw [gR]
    exact hid (fun W G D TD hs => (tpseek W t T G hs.pr.tp HT.out x1 x2 x3).mono (by rintro e w' ⟨he, k⟩; exact ⟨he, hs.prog k⟩))
  have KD : Hid (∀ W G D TP, Sf wF B kb G D pp t x TP T W → Calls Tryz.prog 28 #[.pointer (some ⟨x, 0, none⟩), .int .i64 x1, .int .i64 x2, .int .i64 x3] W fun e w' => e = .returned (.tuple #[.int .i64 R.2.1, .int .i64 R.2.2]) ∧ ∃ D', Sf wF B kb G D' pp t x TP R.1 w') := by
    rw [gR]
    exact hid (fun W G D TP hs => (tdseek W x T D hs.pr.td HT.out x1 x2 x3).mono (by rintro e w' ⟨he, k⟩; exact ⟨he, hs.doc1 k⟩))
  clear gR
  go_wp2_with fail
  go_region_held3 (fun W => W.cell? ⟨pp, 0, none⟩ = some (.pointer (some ⟨t, 0, none⟩)) ∧ W.cell? ⟨pp, 1, none⟩ = some (.pointer (some ⟨x, 0, none⟩)) ∧ W.cell? ⟨kb, 1, none⟩ = some (.int .i64 x1) ∧ W.cell? ⟨kb, 2, none⟩ = some (.int .i64 x2) ∧ W.cell? ⟨kb, 3, none⟩ = some (.int .i64 x3)) (first | (refine ⟨?_, ?_, ?_, ?_, ?_⟩ <;> assumption) | go_keep) (first
    | (go_at_call 27; refine (KP.out _ _ _ _ (by first | exact HS0.out.drew | exact HS0.out)).mono ?_; rintro e w1 ⟨rfl, G1, hS1⟩; have z0 := hS1.c0; have z1 := hS1.c1; have zk1 := hS1.k HKB.out hsF f1; have zk2 := hS1.k HKB.out hsF f2; have zk3 := hS1.k HKB.out hsF f3; have HS1 := hid hS1; clear hS1)
    | fail)
  go_wp2_with fail
  go_region_held3 (fun W => W.cell? ⟨pp, 0, none⟩ = some (.pointer (some ⟨t, 0, none⟩)) ∧ W.cell? ⟨pp, 1, none⟩ = some (.pointer (some ⟨x, 0, none⟩)) ∧ W.cell? ⟨kb, 1, none⟩ = some (.int .i64 x1) ∧ W.cell? ⟨kb, 2, none⟩ = some (.int .i64 x2) ∧ W.cell? ⟨kb, 3, none⟩ = some (.int .i64 x3)) (first | (refine ⟨?_, ?_, ?_, ?_, ?_⟩ <;> assumption) | go_keep) (first
    | (go_at_call 28; refine (KD.out _ _ _ _ (by first | exact HS1.out.drew | exact HS1.out)).mono ?_; rintro e w2 ⟨rfl, D2, hS2⟩; have y0 := hS2.c0; have y1 := hS2.c1; have yk1 := hS2.k HKB.out hsF f1; have yk2 := hS2.k HKB.out hsF f2; have yk3 := hS2.k HKB.out hsF f3; have HS2 := hid hS2; clear hS2)
    | fail)
  go_wp2_with fail
  go_ret
  first
  | exact HS2.out.done HWF.out HB.out HE.out
  | exact HS2.out.drew.done HWF.out HB.out HE.out

end Go.Proofs.YtoknhcjneliboaaGreat

/- What the files' 'does' does: cases 1, 7, 8 (written by gen_tdo.py). -/
namespace Go.Proofs.YtoknhcjneliboaaGreat
open Go.RowKit Go.ChangeMaps Go.MapKept
set_option linter.unusedVariables false
set_option maxRecDepth 20000

set_option maxHeartbeats 8000000 in
theorem dof_1 (pp t x B : Nat) (G D : Nat → Prop) (T : Ft) (m : Int) (x0 x1 x2 x3 : Int) (t4 t5 : ByteArray) (ab : Option Addr) (lb cb : Nat) (bz : List Int) (w : World) (H : Pt w B G D pp t x T T) (hT : TOk T) (hL : LB T.F m) (hm : 1 ≤ m ∧ m ≤ 900000)
    (h4 : t4.size ≤ 1048576) (h5 : t5.size ≤ 1048576) (hx3n : -9223372036854775808 ≤ x3) (hx3 : x3 ≤ 9223372036854775807) (hb : Src w ab lb bz) (hbz : ∀ z ∈ bz, 0 ≤ z ∧ z < 256) (hlb : lb ≤ 140737488355328) (hcb : lb ≤ cb) (hbn : ab = none → lb = 0 ∧ cb = 0) (hbB : 0 < lb → ∀ b o, ab = some ⟨b, o, none⟩ → b < B)
    (hq : wrap64 ((IntKind.u64.wrap x0).tmod 12) = 1) :
    Calls Tryz.prog 7 #[.pointer (some ⟨pp, 0, none⟩), .agg #[.int .i64 x0, .int .i64 x1, .int .i64 x2, .int .i64 x3, .string t4, .string t5, .slice ab lb cb]] w (DoF w B pp t x m T) := by
  have hpl := H.lt
  have HB : Hid (B ≤ w.heap.size) := hid (Nat.le_trans H.gp (Nat.le_of_lt hpl))
  have HT := hid hT
  have HL := hid hL
  have HM := hid hm
  have H4 := hid h4
  have H5 := hid h5
  have HX3 := hid (And.intro hx3n hx3)
  have HSB := hid hb
  have HBZ := hid hbz
  have HBB := hid hbB
  have HBN := hid hbn
  have HLC := hid hcb
  have HLL := hid hlb
  have HML : Hid (∀ i, (T.F.P i).l ≤ 1000000) := hid (fun i => Int.le_trans (hL i) (by omega))
  have HQ := hid hq
  have HP := hid H
  have kc : Hid (∀ wx, Below w.heap.size w wx → Calls Tryz.prog 16 #[.slice ab lb cb] wx fun e w' => ∃ (av : Option Addr) (cv : Nat), e = .returned (.slice av lb cv) ∧ w'.ownsRow wx.heap.size 5 1 (.slice av lb cv) lb (bz.map (Value.int .u8)) ∧ Below wx.heap.size wx w') := hid (fun wx hbx => clone_opt ab lb cb bz wx (hb.below hbx) hlb hbn)
  clear H hT hL hm h4 h5 hx3n hx3 hb hbz hlb hcb hbn hbB hq
  go_enter Tryz.func7, Tryz.ntmps7
  go_upto_region 1 with fail
  obtain ⟨W1, gW1⟩ : ∃ W1, W1 = w.alloc (.cells #[.int .i64 x0, .int .i64 x1, .int .i64 x2, .int .i64 x3, .string t4, .string t5, .slice ab lb cb] 32) := ⟨_, rfl⟩
  rw [← gW1]
  have hb1 : Below w.heap.size w W1 := by rw [gW1]; exact (Below.refl _ _).alloc (Nat.le_refl _) _
  have hs1 : w.heap.size < W1.heap.size := by rw [gW1]; simp
  have e0 : W1.cell? ⟨w.heap.size, 0, none⟩ = some (.int .i64 x0) := by rw [gW1]; simp [go_sem]
  have e1 : W1.cell? ⟨w.heap.size, 1, none⟩ = some (.int .i64 x1) := by rw [gW1]; simp [go_sem]
  have e2 : W1.cell? ⟨w.heap.size, 2, none⟩ = some (.int .i64 x2) := by rw [gW1]; simp [go_sem]
  have e3 : W1.cell? ⟨w.heap.size, 3, none⟩ = some (.int .i64 x3) := by rw [gW1]; simp [go_sem]
  have e4 : W1.cell? ⟨w.heap.size, 4, none⟩ = some (.string t4) := by rw [gW1]; simp [go_sem]
  have e5 : W1.cell? ⟨w.heap.size, 5, none⟩ = some (.string t5) := by rw [gW1]; simp [go_sem]
  have e6 : W1.cell? ⟨w.heap.size, 6, none⟩ = some (.slice ab lb cb) := by rw [gW1]; simp [go_sem]
  have HB1 := hid hb1
  clear gW1 hb1
  go_upto_block 0 with (go_at_call 16; refine (kc.out _ HB1.out).mono ?_; rintro e wF ⟨av, cv, rfl, hG, hbF⟩; have f0 := (hbF.cell (p := ⟨w.heap.size, 0, none⟩) hs1).trans e0; have HG := hid hG; have HBF := hid hbF; clear hG hbF)
  rw [HQ.out]
  have hsF : w.heap.size < wF.heap.size := Nat.lt_of_lt_of_le hs1 HBF.out.size
  have f1 := (HBF.out.cell (p := ⟨w.heap.size, 1, none⟩) hs1).trans e1
  have f2 := (HBF.out.cell (p := ⟨w.heap.size, 2, none⟩) hs1).trans e2
  have f3 := (HBF.out.cell (p := ⟨w.heap.size, 3, none⟩) hs1).trans e3
  have f4 := (HBF.out.cell (p := ⟨w.heap.size, 4, none⟩) hs1).trans e4
  have f5 := (HBF.out.cell (p := ⟨w.heap.size, 5, none⟩) hs1).trans e5
  have f6 := (HBF.out.cell (p := ⟨w.heap.size, 6, none⟩) hs1).trans e6
  have HWF : Hid (Below w.heap.size w wF) := hid (HB1.out.trans (HBF.out.mono HB1.out.size))
  obtain ⟨kb, gkb⟩ : ∃ kb, kb = w.heap.size := ⟨_, rfl⟩
  rw [← gkb] at f0 f1 f2 f3 f4 f5 f6 hsF ⊢
  have hS0 : Sf wF B kb G D pp t x T T wF := by
    have h := HP.out.grow HWF.out
    refine ⟨h, Upd.refl _ _, fun b hk hb => ⟨hb, fun e => ?_, fun hG => ?_, fun hR => ?_⟩⟩
    · omega
    · have h1 := (HP.out.gG b hG).2.1
      omega
    · have h1 := (HP.out.gD b hR).2.1
      omega
  have q0 := hS0.c0
  have q1 := hS0.c1
  have HS0 := hid hS0
  have GKB := hid gkb
  have HKB : Hid (kb ≤ kb) := hid (Nat.le_refl _)
  clear e0 e1 e2 e3 e4 e5 e6 kc hS0 gkb
  obtain ⟨R, gR⟩ : ∃ R, R = T.open_ (bl t4) x3 := ⟨_, rfl⟩
  have HE : Hid (Ok3 T R.1 m) := by rw [gR]; exact hid (Ok3.open_ HT.out HL.out HM.out.1 _ _)
  have KP : Hid (∀ W G D TD, Sf wF B kb G D pp t x T TD W → Calls Tryz.prog 17 #[.pointer (some ⟨t, 0, none⟩), .string t4, .int .i64 x3] W fun e w' => e = .returned (.tuple #[.int .i64 (R.2.1 : Int), .int .i64 R.2.2]) ∧ ∃ G', Sf wF B kb G' D pp t x R.1 TD w') := by
    rw [gR]
    exact hid (fun W G D TD hs => (tpopen W t T G hs.pr.tp HT.out t4 (Nat.le_trans H4.out (by omega)) x3).mono (by rintro e w' ⟨he, k⟩; exact ⟨he, hs.prog k⟩))
  have KD : Hid (∀ W G D TP, Sf wF B kb G D pp t x TP T W → Calls Tryz.prog 18 #[.pointer (some ⟨x, 0, none⟩), .string t4, .int .i64 x3] W fun e w' => e = .returned (.tuple #[.int .i64 (R.2.1 : Int), .int .i64 R.2.2]) ∧ ∃ D', Sf wF B kb G D' pp t x TP R.1 w') := by
    rw [gR]
    exact hid (fun W G D TP hs => (tdopen W x T D hs.pr.td HT.out t4 H4.out x3 HX3.out.1 HX3.out.2).mono (by rintro e w' ⟨he, k⟩; exact ⟨he, hs.doc1 k⟩))
  clear gR
  go_wp2_with fail
  go_region_held3 (fun W => W.cell? ⟨pp, 0, none⟩ = some (.pointer (some ⟨t, 0, none⟩)) ∧ W.cell? ⟨pp, 1, none⟩ = some (.pointer (some ⟨x, 0, none⟩)) ∧ W.cell? ⟨kb, 3, none⟩ = some (.int .i64 x3) ∧ W.cell? ⟨kb, 4, none⟩ = some (.string t4)) (first | (refine ⟨?_, ?_, ?_, ?_⟩ <;> assumption) | go_keep) (first
    | (go_at_call 17; refine (KP.out _ _ _ _ (by first | exact HS0.out.drew | exact HS0.out)).mono ?_; rintro e w1 ⟨rfl, G1, hS1⟩; have z0 := hS1.c0; have z1 := hS1.c1; have zk3 := hS1.k HKB.out hsF f3; have zk4 := hS1.k HKB.out hsF f4; have HS1 := hid hS1; clear hS1)
    | fail)
  go_wp2_with fail
  go_region_held3 (fun W => W.cell? ⟨pp, 0, none⟩ = some (.pointer (some ⟨t, 0, none⟩)) ∧ W.cell? ⟨pp, 1, none⟩ = some (.pointer (some ⟨x, 0, none⟩)) ∧ W.cell? ⟨kb, 3, none⟩ = some (.int .i64 x3) ∧ W.cell? ⟨kb, 4, none⟩ = some (.string t4)) (first | (refine ⟨?_, ?_, ?_, ?_⟩ <;> assumption) | go_keep) (first
    | (go_at_call 18; refine (KD.out _ _ _ _ (by first | exact HS1.out.drew | exact HS1.out)).mono ?_; rintro e w2 ⟨rfl, D2, hS2⟩; have y0 := hS2.c0; have y1 := hS2.c1; have yk3 := hS2.k HKB.out hsF f3; have yk4 := hS2.k HKB.out hsF f4; have HS2 := hid hS2; clear hS2)
    | fail)
  go_wp2_with fail
  go_ret
  first
  | exact HS2.out.done HWF.out HB.out HE.out
  | exact HS2.out.drew.done HWF.out HB.out HE.out

set_option maxHeartbeats 8000000 in
theorem dof_7 (pp t x B : Nat) (G D : Nat → Prop) (T : Ft) (m : Int) (x0 x1 x2 x3 : Int) (t4 t5 : ByteArray) (ab : Option Addr) (lb cb : Nat) (bz : List Int) (w : World) (H : Pt w B G D pp t x T T) (hT : TOk T) (hL : LB T.F m) (hm : 1 ≤ m ∧ m ≤ 900000)
    (h4 : t4.size ≤ 1048576) (h5 : t5.size ≤ 1048576) (hx3n : -9223372036854775808 ≤ x3) (hx3 : x3 ≤ 9223372036854775807) (hb : Src w ab lb bz) (hbz : ∀ z ∈ bz, 0 ≤ z ∧ z < 256) (hlb : lb ≤ 140737488355328) (hcb : lb ≤ cb) (hbn : ab = none → lb = 0 ∧ cb = 0) (hbB : 0 < lb → ∀ b o, ab = some ⟨b, o, none⟩ → b < B)
    (hq : wrap64 ((IntKind.u64.wrap x0).tmod 12) = 7) :
    Calls Tryz.prog 7 #[.pointer (some ⟨pp, 0, none⟩), .agg #[.int .i64 x0, .int .i64 x1, .int .i64 x2, .int .i64 x3, .string t4, .string t5, .slice ab lb cb]] w (DoF w B pp t x m T) := by
  have hpl := H.lt
  have HB : Hid (B ≤ w.heap.size) := hid (Nat.le_trans H.gp (Nat.le_of_lt hpl))
  have HT := hid hT
  have HL := hid hL
  have HM := hid hm
  have H4 := hid h4
  have H5 := hid h5
  have HX3 := hid (And.intro hx3n hx3)
  have HSB := hid hb
  have HBZ := hid hbz
  have HBB := hid hbB
  have HBN := hid hbn
  have HLC := hid hcb
  have HLL := hid hlb
  have HML : Hid (∀ i, (T.F.P i).l ≤ 1000000) := hid (fun i => Int.le_trans (hL i) (by omega))
  have HQ := hid hq
  have HP := hid H
  have kc : Hid (∀ wx, Below w.heap.size w wx → Calls Tryz.prog 16 #[.slice ab lb cb] wx fun e w' => ∃ (av : Option Addr) (cv : Nat), e = .returned (.slice av lb cv) ∧ w'.ownsRow wx.heap.size 5 1 (.slice av lb cv) lb (bz.map (Value.int .u8)) ∧ Below wx.heap.size wx w') := hid (fun wx hbx => clone_opt ab lb cb bz wx (hb.below hbx) hlb hbn)
  clear H hT hL hm h4 h5 hx3n hx3 hb hbz hlb hcb hbn hbB hq
  go_enter Tryz.func7, Tryz.ntmps7
  go_upto_region 1 with fail
  obtain ⟨W1, gW1⟩ : ∃ W1, W1 = w.alloc (.cells #[.int .i64 x0, .int .i64 x1, .int .i64 x2, .int .i64 x3, .string t4, .string t5, .slice ab lb cb] 32) := ⟨_, rfl⟩
  rw [← gW1]
  have hb1 : Below w.heap.size w W1 := by rw [gW1]; exact (Below.refl _ _).alloc (Nat.le_refl _) _
  have hs1 : w.heap.size < W1.heap.size := by rw [gW1]; simp
  have e0 : W1.cell? ⟨w.heap.size, 0, none⟩ = some (.int .i64 x0) := by rw [gW1]; simp [go_sem]
  have e1 : W1.cell? ⟨w.heap.size, 1, none⟩ = some (.int .i64 x1) := by rw [gW1]; simp [go_sem]
  have e2 : W1.cell? ⟨w.heap.size, 2, none⟩ = some (.int .i64 x2) := by rw [gW1]; simp [go_sem]
  have e3 : W1.cell? ⟨w.heap.size, 3, none⟩ = some (.int .i64 x3) := by rw [gW1]; simp [go_sem]
  have e4 : W1.cell? ⟨w.heap.size, 4, none⟩ = some (.string t4) := by rw [gW1]; simp [go_sem]
  have e5 : W1.cell? ⟨w.heap.size, 5, none⟩ = some (.string t5) := by rw [gW1]; simp [go_sem]
  have e6 : W1.cell? ⟨w.heap.size, 6, none⟩ = some (.slice ab lb cb) := by rw [gW1]; simp [go_sem]
  have HB1 := hid hb1
  clear gW1 hb1
  go_upto_block 0 with (go_at_call 16; refine (kc.out _ HB1.out).mono ?_; rintro e wF ⟨av, cv, rfl, hG, hbF⟩; have f0 := (hbF.cell (p := ⟨w.heap.size, 0, none⟩) hs1).trans e0; have HG := hid hG; have HBF := hid hbF; clear hG hbF)
  rw [HQ.out]
  have hsF : w.heap.size < wF.heap.size := Nat.lt_of_lt_of_le hs1 HBF.out.size
  have f1 := (HBF.out.cell (p := ⟨w.heap.size, 1, none⟩) hs1).trans e1
  have f2 := (HBF.out.cell (p := ⟨w.heap.size, 2, none⟩) hs1).trans e2
  have f3 := (HBF.out.cell (p := ⟨w.heap.size, 3, none⟩) hs1).trans e3
  have f4 := (HBF.out.cell (p := ⟨w.heap.size, 4, none⟩) hs1).trans e4
  have f5 := (HBF.out.cell (p := ⟨w.heap.size, 5, none⟩) hs1).trans e5
  have f6 := (HBF.out.cell (p := ⟨w.heap.size, 6, none⟩) hs1).trans e6
  have HWF : Hid (Below w.heap.size w wF) := hid (HB1.out.trans (HBF.out.mono HB1.out.size))
  obtain ⟨kb, gkb⟩ : ∃ kb, kb = w.heap.size := ⟨_, rfl⟩
  rw [← gkb] at f0 f1 f2 f3 f4 f5 f6 hsF ⊢
  have hS0 : Sf wF B kb G D pp t x T T wF := by
    have h := HP.out.grow HWF.out
    refine ⟨h, Upd.refl _ _, fun b hk hb => ⟨hb, fun e => ?_, fun hG => ?_, fun hR => ?_⟩⟩
    · omega
    · have h1 := (HP.out.gG b hG).2.1
      omega
    · have h1 := (HP.out.gD b hR).2.1
      omega
  have q0 := hS0.c0
  have q1 := hS0.c1
  have HS0 := hid hS0
  have GKB := hid gkb
  have HKB : Hid (kb ≤ kb) := hid (Nat.le_refl _)
  clear e0 e1 e2 e3 e4 e5 e6 kc hS0 gkb
  obtain ⟨R, gR⟩ : ∃ R, R = T.hold x1 := ⟨_, rfl⟩
  have HE : Hid (Ok3 T R.1 m) := by rw [gR]; exact hid (Ok3.hold HT.out HL.out _)
  have KP : Hid (∀ W G D TD, Sf wF B kb G D pp t x T TD W → Calls Tryz.prog 29 #[.pointer (some ⟨t, 0, none⟩), .int .i64 x1] W fun e w' => e = .returned (.int .i64 R.2) ∧ ∃ G', Sf wF B kb G' D pp t x R.1 TD w') := by
    rw [gR]
    exact hid (fun W G D TD hs => (tphold W t T G hs.pr.tp HT.out x1).mono (by rintro e w' ⟨he, k⟩; exact ⟨he, hs.prog k⟩))
  have KD : Hid (∀ W G D TP, Sf wF B kb G D pp t x TP T W → Calls Tryz.prog 30 #[.pointer (some ⟨x, 0, none⟩), .int .i64 x1] W fun e w' => e = .returned (.int .i64 R.2) ∧ ∃ D', Sf wF B kb G D' pp t x TP R.1 w') := by
    rw [gR]
    exact hid (fun W G D TP hs => (tdhold W x T D hs.pr.td HT.out x1).mono (by rintro e w' ⟨he, k⟩; exact ⟨he, hs.doc1 k⟩))
  clear gR
  go_wp2_with fail
  go_region_held3 (fun W => W.cell? ⟨pp, 0, none⟩ = some (.pointer (some ⟨t, 0, none⟩)) ∧ W.cell? ⟨pp, 1, none⟩ = some (.pointer (some ⟨x, 0, none⟩)) ∧ W.cell? ⟨kb, 1, none⟩ = some (.int .i64 x1)) (first | (refine ⟨?_, ?_, ?_⟩ <;> assumption) | go_keep) (first
    | (go_at_call 29; refine (KP.out _ _ _ _ (by first | exact HS2.out | exact HS0.out.drew | exact HS0.out)).mono ?_; rintro e w1 ⟨rfl, G1, hS1⟩; have z0 := hS1.c0; have z1 := hS1.c1; have zk1 := hS1.k HKB.out hsF f1; have HS1 := hid hS1; clear hS1)
    | (go_at_call 30; refine (KD.out _ _ _ _ (by first | exact HS1.out | exact HS0.out.drew | exact HS0.out)).mono ?_; rintro e w2 ⟨rfl, D2, hS2⟩; have y0 := hS2.c0; have y1 := hS2.c1; have yk1 := hS2.k HKB.out hsF f1; have HS2 := hid hS2; clear hS2)
    | fail)
  all_goals
    go_wp2_with fail
    go_ret
    first
    | exact HS1.out.done HWF.out HB.out HE.out
    | exact HS2.out.done HWF.out HB.out HE.out
    | exact HS1.out.drew.done HWF.out HB.out HE.out
    | exact HS2.out.drew.done HWF.out HB.out HE.out

set_option maxHeartbeats 8000000 in
theorem dof_8 (pp t x B : Nat) (G D : Nat → Prop) (T : Ft) (m : Int) (x0 x1 x2 x3 : Int) (t4 t5 : ByteArray) (ab : Option Addr) (lb cb : Nat) (bz : List Int) (w : World) (H : Pt w B G D pp t x T T) (hT : TOk T) (hL : LB T.F m) (hm : 1 ≤ m ∧ m ≤ 900000)
    (h4 : t4.size ≤ 1048576) (h5 : t5.size ≤ 1048576) (hx3n : -9223372036854775808 ≤ x3) (hx3 : x3 ≤ 9223372036854775807) (hb : Src w ab lb bz) (hbz : ∀ z ∈ bz, 0 ≤ z ∧ z < 256) (hlb : lb ≤ 140737488355328) (hcb : lb ≤ cb) (hbn : ab = none → lb = 0 ∧ cb = 0) (hbB : 0 < lb → ∀ b o, ab = some ⟨b, o, none⟩ → b < B)
    (hq : wrap64 ((IntKind.u64.wrap x0).tmod 12) = 8) :
    Calls Tryz.prog 7 #[.pointer (some ⟨pp, 0, none⟩), .agg #[.int .i64 x0, .int .i64 x1, .int .i64 x2, .int .i64 x3, .string t4, .string t5, .slice ab lb cb]] w (DoF w B pp t x m T) := by
  have hpl := H.lt
  have HB : Hid (B ≤ w.heap.size) := hid (Nat.le_trans H.gp (Nat.le_of_lt hpl))
  have HT := hid hT
  have HL := hid hL
  have HM := hid hm
  have H4 := hid h4
  have H5 := hid h5
  have HX3 := hid (And.intro hx3n hx3)
  have HSB := hid hb
  have HBZ := hid hbz
  have HBB := hid hbB
  have HBN := hid hbn
  have HLC := hid hcb
  have HLL := hid hlb
  have HML : Hid (∀ i, (T.F.P i).l ≤ 1000000) := hid (fun i => Int.le_trans (hL i) (by omega))
  have HQ := hid hq
  have HP := hid H
  have kc : Hid (∀ wx, Below w.heap.size w wx → Calls Tryz.prog 16 #[.slice ab lb cb] wx fun e w' => ∃ (av : Option Addr) (cv : Nat), e = .returned (.slice av lb cv) ∧ w'.ownsRow wx.heap.size 5 1 (.slice av lb cv) lb (bz.map (Value.int .u8)) ∧ Below wx.heap.size wx w') := hid (fun wx hbx => clone_opt ab lb cb bz wx (hb.below hbx) hlb hbn)
  clear H hT hL hm h4 h5 hx3n hx3 hb hbz hlb hcb hbn hbB hq
  go_enter Tryz.func7, Tryz.ntmps7
  go_upto_region 1 with fail
  obtain ⟨W1, gW1⟩ : ∃ W1, W1 = w.alloc (.cells #[.int .i64 x0, .int .i64 x1, .int .i64 x2, .int .i64 x3, .string t4, .string t5, .slice ab lb cb] 32) := ⟨_, rfl⟩
  rw [← gW1]
  have hb1 : Below w.heap.size w W1 := by rw [gW1]; exact (Below.refl _ _).alloc (Nat.le_refl _) _
  have hs1 : w.heap.size < W1.heap.size := by rw [gW1]; simp
  have e0 : W1.cell? ⟨w.heap.size, 0, none⟩ = some (.int .i64 x0) := by rw [gW1]; simp [go_sem]
  have e1 : W1.cell? ⟨w.heap.size, 1, none⟩ = some (.int .i64 x1) := by rw [gW1]; simp [go_sem]
  have e2 : W1.cell? ⟨w.heap.size, 2, none⟩ = some (.int .i64 x2) := by rw [gW1]; simp [go_sem]
  have e3 : W1.cell? ⟨w.heap.size, 3, none⟩ = some (.int .i64 x3) := by rw [gW1]; simp [go_sem]
  have e4 : W1.cell? ⟨w.heap.size, 4, none⟩ = some (.string t4) := by rw [gW1]; simp [go_sem]
  have e5 : W1.cell? ⟨w.heap.size, 5, none⟩ = some (.string t5) := by rw [gW1]; simp [go_sem]
  have e6 : W1.cell? ⟨w.heap.size, 6, none⟩ = some (.slice ab lb cb) := by rw [gW1]; simp [go_sem]
  have HB1 := hid hb1
  clear gW1 hb1
  go_upto_block 0 with (go_at_call 16; refine (kc.out _ HB1.out).mono ?_; rintro e wF ⟨av, cv, rfl, hG, hbF⟩; have f0 := (hbF.cell (p := ⟨w.heap.size, 0, none⟩) hs1).trans e0; have HG := hid hG; have HBF := hid hbF; clear hG hbF)
  rw [HQ.out]
  have hsF : w.heap.size < wF.heap.size := Nat.lt_of_lt_of_le hs1 HBF.out.size
  have f1 := (HBF.out.cell (p := ⟨w.heap.size, 1, none⟩) hs1).trans e1
  have f2 := (HBF.out.cell (p := ⟨w.heap.size, 2, none⟩) hs1).trans e2
  have f3 := (HBF.out.cell (p := ⟨w.heap.size, 3, none⟩) hs1).trans e3
  have f4 := (HBF.out.cell (p := ⟨w.heap.size, 4, none⟩) hs1).trans e4
  have f5 := (HBF.out.cell (p := ⟨w.heap.size, 5, none⟩) hs1).trans e5
  have f6 := (HBF.out.cell (p := ⟨w.heap.size, 6, none⟩) hs1).trans e6
  have HWF : Hid (Below w.heap.size w wF) := hid (HB1.out.trans (HBF.out.mono HB1.out.size))
  obtain ⟨kb, gkb⟩ : ∃ kb, kb = w.heap.size := ⟨_, rfl⟩
  rw [← gkb] at f0 f1 f2 f3 f4 f5 f6 hsF ⊢
  have hS0 : Sf wF B kb G D pp t x T T wF := by
    have h := HP.out.grow HWF.out
    refine ⟨h, Upd.refl _ _, fun b hk hb => ⟨hb, fun e => ?_, fun hG => ?_, fun hR => ?_⟩⟩
    · omega
    · have h1 := (HP.out.gG b hG).2.1
      omega
    · have h1 := (HP.out.gD b hR).2.1
      omega
  have q0 := hS0.c0
  have q1 := hS0.c1
  have HS0 := hid hS0
  have GKB := hid gkb
  have HKB : Hid (kb ≤ kb) := hid (Nat.le_refl _)
  clear e0 e1 e2 e3 e4 e5 e6 kc hS0 gkb
  obtain ⟨R, gR⟩ : ∃ R, R = T.drop x1 := ⟨_, rfl⟩
  have HE : Hid (Ok3 T R.1 m) := by rw [gR]; exact hid (Ok3.drop HT.out HL.out HM.out.1 _)
  have KP : Hid (∀ W G D TD, Sf wF B kb G D pp t x T TD W → Calls Tryz.prog 31 #[.pointer (some ⟨t, 0, none⟩), .int .i64 x1] W fun e w' => e = .returned (.int .i64 R.2) ∧ ∃ G', Sf wF B kb G' D pp t x R.1 TD w') := by
    rw [gR]
    exact hid (fun W G D TD hs => (tpdrop W t T G hs.pr.tp HT.out x1).mono (by rintro e w' ⟨he, k⟩; exact ⟨he, hs.prog k⟩))
  have KD : Hid (∀ W G D TP, Sf wF B kb G D pp t x TP T W → Calls Tryz.prog 32 #[.pointer (some ⟨x, 0, none⟩), .int .i64 x1] W fun e w' => e = .returned (.int .i64 R.2) ∧ ∃ D', Sf wF B kb G D' pp t x TP R.1 w') := by
    rw [gR]
    exact hid (fun W G D TP hs => (tddrop W x T D hs.pr.td HT.out x1).mono (by rintro e w' ⟨he, k⟩; exact ⟨he, hs.doc1 k⟩))
  clear gR
  go_wp2_with fail
  go_region_held3 (fun W => W.cell? ⟨pp, 0, none⟩ = some (.pointer (some ⟨t, 0, none⟩)) ∧ W.cell? ⟨pp, 1, none⟩ = some (.pointer (some ⟨x, 0, none⟩)) ∧ W.cell? ⟨kb, 1, none⟩ = some (.int .i64 x1)) (first | (refine ⟨?_, ?_, ?_⟩ <;> assumption) | go_keep) (first
    | (go_at_call 31; refine (KP.out _ _ _ _ (by first | exact HS2.out | exact HS0.out.drew | exact HS0.out)).mono ?_; rintro e w1 ⟨rfl, G1, hS1⟩; have z0 := hS1.c0; have z1 := hS1.c1; have zk1 := hS1.k HKB.out hsF f1; have HS1 := hid hS1; clear hS1)
    | (go_at_call 32; refine (KD.out _ _ _ _ (by first | exact HS1.out | exact HS0.out.drew | exact HS0.out)).mono ?_; rintro e w2 ⟨rfl, D2, hS2⟩; have y0 := hS2.c0; have y1 := hS2.c1; have yk1 := hS2.k HKB.out hsF f1; have HS2 := hid hS2; clear hS2)
    | fail)
  all_goals
    go_wp2_with fail
    go_ret
    first
    | exact HS1.out.done HWF.out HB.out HE.out
    | exact HS2.out.done HWF.out HB.out HE.out
    | exact HS1.out.drew.done HWF.out HB.out HE.out
    | exact HS2.out.drew.done HWF.out HB.out HE.out

end Go.Proofs.YtoknhcjneliboaaGreat
