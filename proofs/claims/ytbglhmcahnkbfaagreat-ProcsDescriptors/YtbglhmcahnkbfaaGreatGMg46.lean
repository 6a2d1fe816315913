/- Texts of this seat, merged. -/
import Derived.Test.YtbglhmcahnkbfaaGreatGMg42
import Derived.Deep.RegionHeld3
import Derived.Deep.DeepCutAuto
import Derived.Deep.CutBlock

/- Both sides' processes with what else lies beside them, through a call of the law's 'does'. -/
namespace Go.Proofs.YtbglhmcahnkbfaaGreat
open Go.RowKit Go.ChangeMaps Go.MapKept
set_option linter.unusedVariables false
set_option maxRecDepth 20000

/-- wF is a world, blocks kb .. of it are kept; the pair has TP and TD in w, which is behind wF. -/
structure S9 (wF : World) (B kb : Nat) (G D : Nat → Prop) (pp f x t y L : Nat) (TP TD : Gt) (w : World) : Prop where
  pr : P9 w B G D pp f x t y L TP TD
  up : Upd (fun b => B ≤ b ∧ b < kb) wF w
  ot : ∀ b, kb ≤ b → b < wF.heap.size → Ot9 w G D pp b

section
variable {wF w w' : World} {B kb : Nat} {G D : Nat → Prop} {pp f x t y L : Nat} {TP TD T' : Gt}
theorem S9.prog (h : S9 wF B kb G D pp f x t y L TP TD w) (k : ZpTo w t f T' G w') : ∃ G', S9 wF B kb G' D pp f x t y L T' TD w' := by
  obtain ⟨a, b, c⟩ := h.pr.prog k
  exact ⟨_, a, h.up.trans k.2.1 (fun b hb hG => ⟨(h.pr.gG b hG).1, Nat.lt_of_not_le fun hk => (h.ot b hk hb).2.2.1 hG⟩), fun b hk hb => (c b (h.ot b hk hb)).2⟩
theorem S9.doc (h : S9 wF B kb G D pp f x t y L TP TD w) (k : YpTo w y x L T' D w') : ∃ D', S9 wF B kb G D' pp f x t y L TP T' w' ∧ (∀ b, Ot9 w G D pp b → Ot9 w' G D' pp b) ∧ Upd D w w' := by
  obtain ⟨a, b, c⟩ := h.pr.doc k
  exact ⟨_, ⟨a, h.up.trans k.2.1 (fun b hb hG => ⟨(h.pr.gD b hG).1, Nat.lt_of_not_le fun hk => (h.ot b hk hb).2.2.2 hG⟩), fun b hk hb => (c b (h.ot b hk hb)).2⟩, fun b hb => (c b hb).2, k.2.1⟩
theorem S9.doc1 (h : S9 wF B kb G D pp f x t y L TP TD w) (k : YpTo w y x L T' D w') : ∃ D', S9 wF B kb G D' pp f x t y L TP T' w' := by
  obtain ⟨D', a, _⟩ := h.doc k
  exact ⟨D', a⟩
theorem S9.grow (h : S9 wF B kb G D pp f x t y L TP TD w) (q : Below w.heap.size w w') : S9 wF B kb G D pp f x t y L TP TD w' :=
  ⟨h.pr.grow q, h.up.trans (Upd.of_below (F := fun _ => False) q) (fun _ _ h => h.elim), fun b hk hb => (h.ot b hk hb).grow q⟩
theorem S9.drew (h : S9 wF B kb G D pp f x t y L TP TD w) : S9 wF B kb G D pp f x t y L TP TD w.drew := h.grow (Below.refl _ _).drew
/-- What is neither side's turns. -/
theorem S9.upd {U : Nat → Prop} (h : S9 wF B kb G D pp f x t y L TP TD w) (q : Upd U w w') (hU : ∀ b, b < w.heap.size → U b → Ot9 w G D pp b) (hB : ∀ b, U b → wF.heap.size ≤ b) : S9 wF B kb G D pp f x t y L TP TD w' :=
  ⟨h.pr.upd q hU, h.up.trans q (fun b hb hb2 => absurd (hB b hb2) (Nat.not_le_of_lt hb)), fun b hk hb => ⟨Nat.lt_of_lt_of_le (h.ot b hk hb).1 q.size, (h.ot b hk hb).2⟩⟩
theorem S9.c0 (h : S9 wF B kb G D pp f x t y L TP TD w) : w.cell? ⟨pp, 0, none⟩ = some (.pointer (some ⟨f, 0, none⟩)) := h.pr.c0
theorem S9.c2 (h : S9 wF B kb G D pp f x t y L TP TD w) : w.cell? ⟨pp, 2, none⟩ = some (.pointer (some ⟨t, 0, none⟩)) := h.pr.c2
theorem S9.c3 (h : S9 wF B kb G D pp f x t y L TP TD w) : w.cell? ⟨pp, 3, none⟩ = some (.pointer (some ⟨y, 0, none⟩)) := h.pr.c3
theorem S9.c1 (h : S9 wF B kb G D pp f x t y L TP TD w) : w.cell? ⟨pp, 1, none⟩ = some (.pointer (some ⟨x, 0, none⟩)) := h.pr.c1
theorem S9.k (h : S9 wF B kb G D pp f x t y L TP TD w) {b o : Nat} {v : Value} (hk : kb ≤ b) (hb : b < wF.heap.size) (hc : wF.cell? ⟨b, o, none⟩ = some v) : w.cell? ⟨b, o, none⟩ = some v :=
  (World.cell?_of_block (a := ⟨b, o, none⟩) (h.up.block b hb (fun q => absurd q.2 (Nat.not_lt_of_le hk)))).trans hc
/-- What is new behind a world is neither side's. -/
theorem S9.new (h : S9 wF B kb G D pp f x t y L TP TD w) {b : Nat} (h1 : w.heap.size ≤ b) (h2 : b < w'.heap.size) : Ot9 w' G D pp b :=
  ⟨h2, fun e => by have := h.pr.lt; omega, fun hG => by have := (h.pr.gG b hG).2.1; omega, fun hD => by have := (h.pr.gD b hD).2.1; omega⟩
end


/-- What is true behind a call. -/
def K3 (g g' : Gt) : Prop := GOk g' ∧ g'.T.F.d = g.T.F.d
/-- What 'does' leaves. -/
def Do9 (w : World) (B : Nat) (pp f x t y L : Nat) (g : Gt) (e : Ending) (w' : World) : Prop :=
  e = .returned (.bool true) ∧ ∃ G' D' g', P9 w' B G' D' pp f x t y L g' g' ∧ K3 g g' ∧ Below B w w'
theorem S9.done {wF w w' : World} {B kb : Nat} {G D : Nat → Prop} {pp f x t y L : Nat} {g g' : Gt} (h : S9 wF B kb G D pp f x t y L g' g' w') (hb : Below w.heap.size w wF) (hB : B ≤ w.heap.size) (hT : K3 g g') : Do9 w B pp f x t y L g (.returned (.bool true)) w' :=
  ⟨rfl, G, D, g', h.pr, hT, (hb.mono hB).trans (h.up.below (Nat.le_trans hB hb.size) (fun _ h => h.1))⟩

theorem empty_d (g : Gt) (q i : Nat) : (g.empty q i).T.F.d = g.T.F.d := by
  unfold Gt.empty
  split
  · rfl
  · exact ftdrop_d _ _
theorem empties_d (g : Gt) (q : Nat) : ∀ n, (g.empties q n).T.F.d = g.T.F.d
  | 0 => rfl
  | n + 1 => (empty_d _ _ _).trans (empties_d g q n)
theorem holdAll_d (T : Ft) (f : Nat → Int) : ∀ n, (Gt.holdAll T f n).F.d = T.F.d
  | 0 => rfl
  | n + 1 => by
    unfold Gt.holdAll
    split
    · exact holdAll_d T f n
    · exact (fthold_d _ _).trans (holdAll_d T f n)
section
variable {g : Gt}
theorem K3.fork (H : GOk g) (n : Int) : K3 g (g.fork n).1 := by
  refine ⟨H.fork n, ?_⟩
  unfold Gt.fork
  split
  · rfl
  split
  · rfl
  · show (if _ then _ else _ : Ft).F.d = _
    split
    · rfl
    · exact holdAll_d _ _ _
theorem ended_T (g : Gt) (p : Nat) (co : Int) : (g.ended p co).T = g.T := rfl
theorem exit_d (g : Gt) (n co : Int) : (g.exit n co).1.T.F.d = g.T.F.d := by
  unfold Gt.exit
  split
  · rfl
  · show (Gt.ended _ _ _).T.F.d = _
    rw [ended_T]
    exact empties_d _ _ _
theorem K3.exit (H : GOk g) (n co : Int) : K3 g (g.exit n co).1 := ⟨H.exit n co, exit_d g n co⟩
theorem K3.kill (H : GOk g) (n t : Int) : K3 g (g.kill n t).1 := by
  refine ⟨H.kill n t, ?_⟩
  unfold Gt.kill
  split
  · rfl
  split
  · rfl
  split
  · rfl
  · exact exit_d _ _ _
theorem K3.wait (H : GOk g) (n : Int) : K3 g (g.wait n).1 := by
  refine ⟨H.wait n, ?_⟩
  unfold Gt.wait
  split
  · rfl
  split
  · rfl
  · split <;> rfl
theorem K3.install (H : GOk g) (n v : Int) : K3 g (g.install n v).1 := by
  refine ⟨H.install n v, ?_⟩
  unfold Gt.install
  split
  · rfl
  split
  · rfl
  split <;> rfl
theorem close_d (g : Gt) (n fd : Int) : (g.close n fd).1.T.F.d = g.T.F.d := by
  unfold Gt.close
  split
  · rfl
  · exact empty_d _ _ _
theorem K3.close (H : GOk g) (n fd : Int) : K3 g (g.close n fd).1 := ⟨H.close n fd, close_d g n fd⟩
theorem K3.dup (H : GOk g) (n fd : Int) : K3 g (g.dup n fd).1 := by
  refine ⟨H.dup n fd, ?_⟩
  unfold Gt.dup
  split
  · rfl
  split
  · rfl
  · exact fthold_d _ _
theorem K3.dup2 (H : GOk g) (n fd t0 : Int) : K3 g (g.dup2 n fd t0).1 := by
  refine ⟨H.dup2 n fd t0, ?_⟩
  unfold Gt.dup2
  split
  · rfl
  split
  · rfl
  split
  · rfl
  · dsimp only
    refine (fthold_d _ _).trans ?_
    split
    · rfl
    · exact empty_d _ _ _
theorem open_d {T : Ft} (H : TOk T) (l : List UInt8) (fl : Int) : (T.open_ l fl).1.F.d = T.F.d := by
  obtain ⟨f1, s1⟩ := Ft.node_ok H.F l fl
  obtain ⟨f2, s2⟩ := Ft.cutF_ok f1 (Ft.node T.F l fl).2.1 fl
  have h : (T.openN l fl).1.d = T.F.d := by
    unfold Ft.openN
    split
    · exact s1.1
    split
    · exact s2.1.trans s1.1
    · exact (hold_d _ _).trans (s2.1.trans s1.1)
  unfold Ft.open_
  split
  · rfl
  split
  · rfl
  split
  · exact h
  · exact h
theorem pipe_d (T : Ft) : T.pipe.1.F.d = T.F.d := by
  unfold Ft.pipe
  split
  · split <;> rfl
  · rfl
theorem K3.open_ (H : GOk g) (l : List UInt8) (fl : Int) : K3 g { g with T := (g.T.open_ l fl).1 } := ⟨H.tbl (H.T.open_ l fl), open_d H.T l fl⟩
theorem K3.pipe (H : GOk g) : K3 g { g with T := g.T.pipe.1 } := ⟨H.tbl H.T.pipe, pipe_d _⟩
theorem K3.trans {g1 g2 : Gt} (h : K3 g g1) (k : K3 g1 g2) : K3 g g2 := ⟨k.1, k.2.trans h.2⟩
theorem K3.refl (H : GOk g) : K3 g g := ⟨H, rfl⟩
end

section
variable {w0 w : World} {p f y x L : Nat} {g : Gt} {G D : Nat → Prop}
theorem ZpTo.open_ (h : ZpTo w0 p f g G w) (hT : TOk g.T) (l : ByteArray) (hs : l.size ≤ 140737488355328) (fl : Int) :
    Calls Tryz.prog 16 #[.pointer (some ⟨f, 0, none⟩), .string l, .int .i64 fl] w fun e w' => e = .returned (.tuple #[.int .i64 ((g.T.open_ (bl l) fl).2.1 : Int), .int .i64 (g.T.open_ (bl l) fl).2.2]) ∧ ZpTo w0 p f { g with T := (g.T.open_ (bl l) fl).1 } G w' := by
  obtain ⟨Gn, h1, h3⟩ := h.parts
  refine (tpopen w f g.T Gn h1.tp hT l hs fl).mono ?_
  rintro e w' ⟨rfl, k⟩
  exact ⟨rfl, h.fil h1 h3 k (open_d hT _ _)⟩
theorem ZpTo.pipe (h : ZpTo w0 p f g G w) (hT : TOk g.T) :
    Calls Tryz.prog 74 #[.pointer (some ⟨f, 0, none⟩)] w fun e w' => e = .returned (.tuple #[.int .i64 (g.T.pipe.2.1 : Int), .int .i64 (g.T.pipe.2.2.1 : Int), .int .i64 g.T.pipe.2.2.2]) ∧ ZpTo w0 p f { g with T := g.T.pipe.1 } G w' := by
  obtain ⟨Gn, h1, h3⟩ := h.parts
  refine (tppipe w f g.T Gn h1.tp hT).mono ?_
  rintro e w' ⟨rfl, k⟩
  exact ⟨rfl, h.fil h1 h3 k (pipe_d _)⟩
theorem YpTo.open_ (h : YpTo w0 y x L g D w) (hT : TOk g.T) (l : ByteArray) (hs : l.size ≤ 1048576) (fl : Int) (hg1 : -9223372036854775808 ≤ fl) (hg2 : fl ≤ 9223372036854775807) :
    Calls Tryz.prog 73 #[.pointer (some ⟨x, 0, none⟩), .string l, .int .i64 fl] w fun e w' => e = .returned (.tuple #[.int .i64 ((g.T.open_ (bl l) fl).2.1 : Int), .int .i64 (g.T.open_ (bl l) fl).2.2]) ∧ YpTo w0 y x L { g with T := (g.T.open_ (bl l) fl).1 } D w' := by
  obtain ⟨Gn, h1, h3⟩ := h.parts
  refine (tdopen w x g.T Gn h1.td hT l hs fl hg1 hg2).mono ?_
  rintro e w' ⟨rfl, k⟩
  exact ⟨rfl, h.fil h1 h3 k (open_d hT _ _)⟩
theorem YpTo.pipe (h : YpTo w0 y x L g D w) (hT : TOk g.T) :
    Calls Tryz.prog 75 #[.pointer (some ⟨x, 0, none⟩)] w fun e w' => e = .returned (.tuple #[.int .i64 (g.T.pipe.2.1 : Int), .int .i64 (g.T.pipe.2.2.1 : Int), .int .i64 g.T.pipe.2.2.2]) ∧ YpTo w0 y x L { g with T := g.T.pipe.1 } D w' := by
  obtain ⟨Gn, h1, h3⟩ := h.parts
  refine (tdpipe w x g.T Gn h1.td hT).mono ?_
  rintro e w' ⟨rfl, k⟩
  exact ⟨rfl, h.fil h1 h3 k (pipe_d _)⟩
end

end Go.Proofs.YtbglhmcahnkbfaaGreat

/- What the processes' 'does' does: cases 0, 1 (written by gen_gdo.py). -/
namespace Go.Proofs.YtbglhmcahnkbfaaGreat
open Go.RowKit Go.ChangeMaps Go.MapKept
set_option linter.unusedVariables false
set_option maxRecDepth 20000

set_option maxHeartbeats 8000000 in
theorem do9_0 (pp f x t y L B : Nat) (G D : Nat → Prop) (g : Gt) (x0 x1 x2 x3 : Int) (w : World) (H : P9 w B G D pp f x t y L g g) (H0 : GOk g)
    (hq : wrap64 ((IntKind.u64.wrap x0).tmod 11) = 0) :
    Calls Tryz.prog 8 #[.pointer (some ⟨pp, 0, none⟩), .agg #[.int .i64 x0, .int .i64 x1, .int .i64 x2, .int .i64 x3]] w (Do9 w B pp f x t y L g) := by
  have hpl := H.lt
  have HB : Hid (B ≤ w.heap.size) := hid (Nat.le_trans H.gp (Nat.le_of_lt hpl))
  have HO := hid H0
  have HQ := hid hq
  have HP := hid H
  clear H H0 hq
  go_enter Tryz.func8, Tryz.ntmps8
  go_upto_region 1 with fail
  obtain ⟨wF, gwF⟩ : ∃ wF, wF = w.alloc (.cells #[.int .i64 x0, .int .i64 x1, .int .i64 x2, .int .i64 x3] 26) := ⟨_, rfl⟩
  rw [← gwF]
  have hb1 : Below w.heap.size w wF := by rw [gwF]; exact (Below.refl _ _).alloc (Nat.le_refl _) _
  have hsF : w.heap.size < wF.heap.size := by rw [gwF]; simp
  have f0 : wF.cell? ⟨w.heap.size, 0, none⟩ = some (.int .i64 x0) := by rw [gwF]; simp [go_sem]
  have f1 : wF.cell? ⟨w.heap.size, 1, none⟩ = some (.int .i64 x1) := by rw [gwF]; simp [go_sem]
  have f2 : wF.cell? ⟨w.heap.size, 2, none⟩ = some (.int .i64 x2) := by rw [gwF]; simp [go_sem]
  have f3 : wF.cell? ⟨w.heap.size, 3, none⟩ = some (.int .i64 x3) := by rw [gwF]; simp [go_sem]
  have HWF := hid hb1
  clear gwF hb1
  go_upto_block 0 with fail
  rw [HQ.out]
  obtain ⟨kb, gkb⟩ : ∃ kb, kb = w.heap.size := ⟨_, rfl⟩
  rw [← gkb] at f0 f1 f2 f3 hsF ⊢
  have hS0 : S9 wF B kb G D pp f x t y L g g wF := by
    have h := HP.out.grow HWF.out
    refine ⟨h, Upd.refl _ _, fun b hk hb => ⟨hb, fun e => ?_, fun hG => ?_, fun hR => ?_⟩⟩
    · omega
    · have h1 := (HP.out.gG b hG).2.1
      omega
    · have h1 := (HP.out.gD b hR).2.1
      omega
  have q0 := hS0.c0
  have q1 := hS0.c1
  have q2 := hS0.c2
  have q3 := hS0.c3
  have HS0 := hid hS0
  have GKB := hid gkb
  have HKB : Hid (kb ≤ kb) := hid (Nat.le_refl _)
  clear hS0 gkb
  obtain ⟨R, gR⟩ : ∃ R, R = g.fork x1 := ⟨_, rfl⟩
  have HE : Hid (K3 g R.1) := by rw [gR]; exact hid (K3.fork HO.out _)
  have KP : Hid (∀ W G D gD, S9 wF B kb G D pp f x t y L g gD W → Calls Tryz.prog 26 #[.pointer (some ⟨t, 0, none⟩), .int .i64 x1] W fun e w' => e = .returned (.tuple #[.int .i64 R.2.1, .int .i64 R.2.2]) ∧ ∃ G', S9 wF B kb G' D pp f x t y L R.1 gD w') := by
    rw [gR]
    exact hid (fun W G D gD hs => (gfork_any hs.pr.tp.to HO.out x1).mono (by rintro e w' ⟨he, k⟩; exact ⟨he, hs.prog k⟩))
  have KD : Hid (∀ W G D gP, S9 wF B kb G D pp f x t y L gP g W → Calls Tryz.prog 27 #[.pointer (some ⟨y, 0, none⟩), .int .i64 x1] W fun e w' => e = .returned (.tuple #[.int .i64 R.2.1, .int .i64 R.2.2]) ∧ ∃ D', S9 wF B kb G D' pp f x t y L gP R.1 w') := by
    rw [gR]
    exact hid (fun W G D gP hs => (r9fork_any hs.pr.td.to HO.out x1).mono (by rintro e w' ⟨he, k⟩; exact ⟨he, hs.doc1 k⟩))
  clear gR
  go_wp2_with fail
  go_region_held3 (fun W => W.cell? ⟨pp, 0, none⟩ = some (.pointer (some ⟨f, 0, none⟩)) ∧ W.cell? ⟨pp, 1, none⟩ = some (.pointer (some ⟨x, 0, none⟩)) ∧ W.cell? ⟨pp, 2, none⟩ = some (.pointer (some ⟨t, 0, none⟩)) ∧ W.cell? ⟨pp, 3, none⟩ = some (.pointer (some ⟨y, 0, none⟩)) ∧ W.cell? ⟨kb, 1, none⟩ = some (.int .i64 x1)) (first | (refine ⟨?_, ?_, ?_, ?_, ?_⟩ <;> assumption) | go_keep) (first
    | (go_at_call 26; refine (KP.out _ _ _ _ (by first | exact HS0.out.drew | exact HS0.out)).mono ?_; rintro e w1 ⟨rfl, G1, hS1⟩; have zq0 := hS1.c0; have zq1 := hS1.c1; have zq2 := hS1.c2; have zq3 := hS1.c3; have zk1 := hS1.k HKB.out hsF f1; have HS1 := hid hS1; clear hS1)
    | fail)
  go_wp2_with fail
  go_region_held3 (fun W => W.cell? ⟨pp, 0, none⟩ = some (.pointer (some ⟨f, 0, none⟩)) ∧ W.cell? ⟨pp, 1, none⟩ = some (.pointer (some ⟨x, 0, none⟩)) ∧ W.cell? ⟨pp, 2, none⟩ = some (.pointer (some ⟨t, 0, none⟩)) ∧ W.cell? ⟨pp, 3, none⟩ = some (.pointer (some ⟨y, 0, none⟩)) ∧ W.cell? ⟨kb, 1, none⟩ = some (.int .i64 x1)) (first | (refine ⟨?_, ?_, ?_, ?_, ?_⟩ <;> assumption) | go_keep) (first
    | (go_at_call 27; refine (KD.out _ _ _ _ (by first | exact HS1.out.drew | exact HS1.out)).mono ?_; rintro e w2 ⟨rfl, D2, hS2⟩; have yq0 := hS2.c0; have yq1 := hS2.c1; have yq2 := hS2.c2; have yq3 := hS2.c3; have yk1 := hS2.k HKB.out hsF f1; have HS2 := hid hS2; clear hS2)
    | fail)
  go_wp2_with fail
  go_ret
  first
  | exact HS2.out.done HWF.out HB.out HE.out
  | exact HS2.out.drew.done HWF.out HB.out HE.out

set_option maxHeartbeats 8000000 in
theorem do9_1 (pp f x t y L B : Nat) (G D : Nat → Prop) (g : Gt) (x0 x1 x2 x3 : Int) (w : World) (H : P9 w B G D pp f x t y L g g) (H0 : GOk g)
    (hq : wrap64 ((IntKind.u64.wrap x0).tmod 11) = 1) :
    Calls Tryz.prog 8 #[.pointer (some ⟨pp, 0, none⟩), .agg #[.int .i64 x0, .int .i64 x1, .int .i64 x2, .int .i64 x3]] w (Do9 w B pp f x t y L g) := by
  have hpl := H.lt
  have HB : Hid (B ≤ w.heap.size) := hid (Nat.le_trans H.gp (Nat.le_of_lt hpl))
  have HO := hid H0
  have HQ := hid hq
  have HP := hid H
  clear H H0 hq
  go_enter Tryz.func8, Tryz.ntmps8
  go_upto_region 1 with fail
  obtain ⟨wF, gwF⟩ : ∃ wF, wF = w.alloc (.cells #[.int .i64 x0, .int .i64 x1, .int .i64 x2, .int .i64 x3] 26) := ⟨_, rfl⟩
  rw [← gwF]
  have hb1 : Below w.heap.size w wF := by rw [gwF]; exact (Below.refl _ _).alloc (Nat.le_refl _) _
  have hsF : w.heap.size < wF.heap.size := by rw [gwF]; simp
  have f0 : wF.cell? ⟨w.heap.size, 0, none⟩ = some (.int .i64 x0) := by rw [gwF]; simp [go_sem]
  have f1 : wF.cell? ⟨w.heap.size, 1, none⟩ = some (.int .i64 x1) := by rw [gwF]; simp [go_sem]
  have f2 : wF.cell? ⟨w.heap.size, 2, none⟩ = some (.int .i64 x2) := by rw [gwF]; simp [go_sem]
  have f3 : wF.cell? ⟨w.heap.size, 3, none⟩ = some (.int .i64 x3) := by rw [gwF]; simp [go_sem]
  have HWF := hid hb1
  clear gwF hb1
  go_upto_block 0 with fail
  rw [HQ.out]
  obtain ⟨kb, gkb⟩ : ∃ kb, kb = w.heap.size := ⟨_, rfl⟩
  rw [← gkb] at f0 f1 f2 f3 hsF ⊢
  have hS0 : S9 wF B kb G D pp f x t y L g g wF := by
    have h := HP.out.grow HWF.out
    refine ⟨h, Upd.refl _ _, fun b hk hb => ⟨hb, fun e => ?_, fun hG => ?_, fun hR => ?_⟩⟩
    · omega
    · have h1 := (HP.out.gG b hG).2.1
      omega
    · have h1 := (HP.out.gD b hR).2.1
      omega
  have q0 := hS0.c0
  have q1 := hS0.c1
  have q2 := hS0.c2
  have q3 := hS0.c3
  have HS0 := hid hS0
  have GKB := hid gkb
  have HKB : Hid (kb ≤ kb) := hid (Nat.le_refl _)
  clear hS0 gkb
  obtain ⟨R, gR⟩ : ∃ R, R = g.exit x1 x2 := ⟨_, rfl⟩
  have HE : Hid (K3 g R.1) := by rw [gR]; exact hid (K3.exit HO.out _ _)
  have KP : Hid (∀ W G D gD, S9 wF B kb G D pp f x t y L g gD W → Calls Tryz.prog 15 #[.pointer (some ⟨t, 0, none⟩), .int .i64 x1, .int .i64 x2] W fun e w' => e = .returned (.int .i64 R.2) ∧ ∃ G', S9 wF B kb G' D pp f x t y L R.1 gD w') := by
    rw [gR]
    exact hid (fun W G D gD hs => (gexit_any hs.pr.tp.to HO.out x1 x2).mono (by rintro e w' ⟨he, k⟩; exact ⟨he, hs.prog k⟩))
  have KD : Hid (∀ W G D gP, S9 wF B kb G D pp f x t y L gP g W → Calls Tryz.prog 28 #[.pointer (some ⟨y, 0, none⟩), .int .i64 x1, .int .i64 x2] W fun e w' => e = .returned (.int .i64 R.2) ∧ ∃ D', S9 wF B kb G D' pp f x t y L gP R.1 w') := by
    rw [gR]
    exact hid (fun W G D gP hs => (r9exit_any hs.pr.td.to HO.out x1 x2).mono (by rintro e w' ⟨he, k⟩; exact ⟨he, hs.doc1 k⟩))
  clear gR
  go_wp2_with fail
  go_region_held3 (fun W => W.cell? ⟨pp, 0, none⟩ = some (.pointer (some ⟨f, 0, none⟩)) ∧ W.cell? ⟨pp, 1, none⟩ = some (.pointer (some ⟨x, 0, none⟩)) ∧ W.cell? ⟨pp, 2, none⟩ = some (.pointer (some ⟨t, 0, none⟩)) ∧ W.cell? ⟨pp, 3, none⟩ = some (.pointer (some ⟨y, 0, none⟩)) ∧ W.cell? ⟨kb, 1, none⟩ = some (.int .i64 x1) ∧ W.cell? ⟨kb, 2, none⟩ = some (.int .i64 x2)) (first | (refine ⟨?_, ?_, ?_, ?_, ?_, ?_⟩ <;> assumption) | go_keep) (first
    | (go_at_call 15; refine (KP.out _ _ _ _ (by first | exact HS2.out | exact HS0.out.drew | exact HS0.out)).mono ?_; rintro e w1 ⟨rfl, G1, hS1⟩; have zq0 := hS1.c0; have zq1 := hS1.c1; have zq2 := hS1.c2; have zq3 := hS1.c3; have zk1 := hS1.k HKB.out hsF f1; have zk2 := hS1.k HKB.out hsF f2; have HS1 := hid hS1; clear hS1)
    | (go_at_call 28; refine (KD.out _ _ _ _ (by first | exact HS1.out | exact HS0.out.drew | exact HS0.out)).mono ?_; rintro e w2 ⟨rfl, D2, hS2⟩; have yq0 := hS2.c0; have yq1 := hS2.c1; have yq2 := hS2.c2; have yq3 := hS2.c3; have yk1 := hS2.k HKB.out hsF f1; have yk2 := hS2.k HKB.out hsF f2; have HS2 := hid hS2; clear hS2)
    | fail)
  all_goals
    go_wp2_with fail
    go_ret
    first
    | exact HS1.out.done HWF.out HB.out HE.out
    | exact HS2.out.done HWF.out HB.out HE.out
    | exact HS1.out.drew.done HWF.out HB.out HE.out
    | exact HS2.out.drew.done HWF.out HB.out HE.out

end Go.Proofs.YtbglhmcahnkbfaaGreat

/- What the processes' 'does' does: cases 2, 3 (written by gen_gdo.py). -/
namespace Go.Proofs.YtbglhmcahnkbfaaGreat
open Go.RowKit Go.ChangeMaps Go.MapKept
set_option linter.unusedVariables false
set_option maxRecDepth 20000

set_option maxHeartbeats 8000000 in
theorem do9_2 (pp f x t y L B : Nat) (G D : Nat → Prop) (g : Gt) (x0 x1 x2 x3 : Int) (w : World) (H : P9 w B G D pp f x t y L g g) (H0 : GOk g)
    (hq : wrap64 ((IntKind.u64.wrap x0).tmod 11) = 2) :
    Calls Tryz.prog 8 #[.pointer (some ⟨pp, 0, none⟩), .agg #[.int .i64 x0, .int .i64 x1, .int .i64 x2, .int .i64 x3]] w (Do9 w B pp f x t y L g) := by
  have hpl := H.lt
  have HB : Hid (B ≤ w.heap.size) := hid (Nat.le_trans H.gp (Nat.le_of_lt hpl))
  have HO := hid H0
  have HQ := hid hq
  have HP := hid H
  clear H H0 hq
  go_enter Tryz.func8, Tryz.ntmps8
  go_upto_region 1 with fail
  obtain ⟨wF, gwF⟩ : ∃ wF, wF = w.alloc (.cells #[.int .i64 x0, .int .i64 x1, .int .i64 x2, .int .i64 x3] 26) := ⟨_, rfl⟩
  rw [← gwF]
  have hb1 : Below w.heap.size w wF := by rw [gwF]; exact (Below.refl _ _).alloc (Nat.le_refl _) _
  have hsF : w.heap.size < wF.heap.size := by rw [gwF]; simp
  have f0 : wF.cell? ⟨w.heap.size, 0, none⟩ = some (.int .i64 x0) := by rw [gwF]; simp [go_sem]
  have f1 : wF.cell? ⟨w.heap.size, 1, none⟩ = some (.int .i64 x1) := by rw [gwF]; simp [go_sem]
  have f2 : wF.cell? ⟨w.heap.size, 2, none⟩ = some (.int .i64 x2) := by rw [gwF]; simp [go_sem]
  have f3 : wF.cell? ⟨w.heap.size, 3, none⟩ = some (.int .i64 x3) := by rw [gwF]; simp [go_sem]
  have HWF := hid hb1
  clear gwF hb1
  go_upto_block 0 with fail
  rw [HQ.out]
  obtain ⟨kb, gkb⟩ : ∃ kb, kb = w.heap.size := ⟨_, rfl⟩
  rw [← gkb] at f0 f1 f2 f3 hsF ⊢
  have hS0 : S9 wF B kb G D pp f x t y L g g wF := by
    have h := HP.out.grow HWF.out
    refine ⟨h, Upd.refl _ _, fun b hk hb => ⟨hb, fun e => ?_, fun hG => ?_, fun hR => ?_⟩⟩
    · omega
    · have h1 := (HP.out.gG b hG).2.1
      omega
    · have h1 := (HP.out.gD b hR).2.1
      omega
  have q0 := hS0.c0
  have q1 := hS0.c1
  have q2 := hS0.c2
  have q3 := hS0.c3
  have HS0 := hid hS0
  have GKB := hid gkb
  have HKB : Hid (kb ≤ kb) := hid (Nat.le_refl _)
  clear hS0 gkb
  obtain ⟨R, gR⟩ : ∃ R, R = g.wait x1 := ⟨_, rfl⟩
  have HE : Hid (K3 g R.1) := by rw [gR]; exact hid (K3.wait HO.out _)
  have KP : Hid (∀ W G D gD, S9 wF B kb G D pp f x t y L g gD W → Calls Tryz.prog 29 #[.pointer (some ⟨t, 0, none⟩), .int .i64 x1] W fun e w' => e = .returned (.tuple #[.int .i64 R.2.1, .int .i64 R.2.2.1, .bool R.2.2.2.1, .int .i64 R.2.2.2.2]) ∧ ∃ G', S9 wF B kb G' D pp f x t y L R.1 gD w') := by
    rw [gR]
    exact hid (fun W G D gD hs => (gwait_any hs.pr.tp.to HO.out x1).mono (by rintro e w' ⟨he, k⟩; exact ⟨he, hs.prog k⟩))
  have KD : Hid (∀ W G D gP, S9 wF B kb G D pp f x t y L gP g W → Calls Tryz.prog 30 #[.pointer (some ⟨y, 0, none⟩), .int .i64 x1] W fun e w' => e = .returned (.tuple #[.int .i64 R.2.1, .int .i64 R.2.2.1, .bool R.2.2.2.1, .int .i64 R.2.2.2.2]) ∧ ∃ D', S9 wF B kb G D' pp f x t y L gP R.1 w') := by
    rw [gR]
    exact hid (fun W G D gP hs => (r9wait_any hs.pr.td.to HO.out x1).mono (by rintro e w' ⟨he, k⟩; exact ⟨he, hs.doc1 k⟩))
  clear gR
  go_wp2_with fail
  go_region_held3 (fun W => W.cell? ⟨pp, 0, none⟩ = some (.pointer (some ⟨f, 0, none⟩)) ∧ W.cell? ⟨pp, 1, none⟩ = some (.pointer (some ⟨x, 0, none⟩)) ∧ W.cell? ⟨pp, 2, none⟩ = some (.pointer (some ⟨t, 0, none⟩)) ∧ W.cell? ⟨pp, 3, none⟩ = some (.pointer (some ⟨y, 0, none⟩)) ∧ W.cell? ⟨kb, 1, none⟩ = some (.int .i64 x1)) (first | (refine ⟨?_, ?_, ?_, ?_, ?_⟩ <;> assumption) | go_keep) (first
    | (go_at_call 29; refine (KP.out _ _ _ _ (by first | exact HS0.out.drew | exact HS0.out)).mono ?_; rintro e w1 ⟨rfl, G1, hS1⟩; have zq0 := hS1.c0; have zq1 := hS1.c1; have zq2 := hS1.c2; have zq3 := hS1.c3; have zk1 := hS1.k HKB.out hsF f1; have HS1 := hid hS1; clear hS1)
    | fail)
  go_wp2_with fail
  go_region_held3 (fun W => W.cell? ⟨pp, 0, none⟩ = some (.pointer (some ⟨f, 0, none⟩)) ∧ W.cell? ⟨pp, 1, none⟩ = some (.pointer (some ⟨x, 0, none⟩)) ∧ W.cell? ⟨pp, 2, none⟩ = some (.pointer (some ⟨t, 0, none⟩)) ∧ W.cell? ⟨pp, 3, none⟩ = some (.pointer (some ⟨y, 0, none⟩)) ∧ W.cell? ⟨kb, 1, none⟩ = some (.int .i64 x1)) (first | (refine ⟨?_, ?_, ?_, ?_, ?_⟩ <;> assumption) | go_keep) (first
    | (go_at_call 30; refine (KD.out _ _ _ _ (by first | exact HS1.out.drew | exact HS1.out)).mono ?_; rintro e w2 ⟨rfl, D2, hS2⟩; have yq0 := hS2.c0; have yq1 := hS2.c1; have yq2 := hS2.c2; have yq3 := hS2.c3; have yk1 := hS2.k HKB.out hsF f1; have HS2 := hid hS2; clear hS2)
    | fail)
  go_wp2_with fail
  go_ret
  first
  | exact HS2.out.done HWF.out HB.out HE.out
  | exact HS2.out.drew.done HWF.out HB.out HE.out

set_option maxHeartbeats 8000000 in
theorem do9_3 (pp f x t y L B : Nat) (G D : Nat → Prop) (g : Gt) (x0 x1 x2 x3 : Int) (w : World) (H : P9 w B G D pp f x t y L g g) (H0 : GOk g)
    (hq : wrap64 ((IntKind.u64.wrap x0).tmod 11) = 3) :
    Calls Tryz.prog 8 #[.pointer (some ⟨pp, 0, none⟩), .agg #[.int .i64 x0, .int .i64 x1, .int .i64 x2, .int .i64 x3]] w (Do9 w B pp f x t y L g) := by
  have hpl := H.lt
  have HB : Hid (B ≤ w.heap.size) := hid (Nat.le_trans H.gp (Nat.le_of_lt hpl))
  have HO := hid H0
  have HQ := hid hq
  have HP := hid H
  clear H H0 hq
  go_enter Tryz.func8, Tryz.ntmps8
  go_upto_region 1 with fail
  obtain ⟨wF, gwF⟩ : ∃ wF, wF = w.alloc (.cells #[.int .i64 x0, .int .i64 x1, .int .i64 x2, .int .i64 x3] 26) := ⟨_, rfl⟩
  rw [← gwF]
  have hb1 : Below w.heap.size w wF := by rw [gwF]; exact (Below.refl _ _).alloc (Nat.le_refl _) _
  have hsF : w.heap.size < wF.heap.size := by rw [gwF]; simp
  have f0 : wF.cell? ⟨w.heap.size, 0, none⟩ = some (.int .i64 x0) := by rw [gwF]; simp [go_sem]
  have f1 : wF.cell? ⟨w.heap.size, 1, none⟩ = some (.int .i64 x1) := by rw [gwF]; simp [go_sem]
  have f2 : wF.cell? ⟨w.heap.size, 2, none⟩ = some (.int .i64 x2) := by rw [gwF]; simp [go_sem]
  have f3 : wF.cell? ⟨w.heap.size, 3, none⟩ = some (.int .i64 x3) := by rw [gwF]; simp [go_sem]
  have HWF := hid hb1
  clear gwF hb1
  go_upto_block 0 with fail
  rw [HQ.out]
  obtain ⟨kb, gkb⟩ : ∃ kb, kb = w.heap.size := ⟨_, rfl⟩
  rw [← gkb] at f0 f1 f2 f3 hsF ⊢
  have hS0 : S9 wF B kb G D pp f x t y L g g wF := by
    have h := HP.out.grow HWF.out
    refine ⟨h, Upd.refl _ _, fun b hk hb => ⟨hb, fun e => ?_, fun hG => ?_, fun hR => ?_⟩⟩
    · omega
    · have h1 := (HP.out.gG b hG).2.1
      omega
    · have h1 := (HP.out.gD b hR).2.1
      omega
  have q0 := hS0.c0
  have q1 := hS0.c1
  have q2 := hS0.c2
  have q3 := hS0.c3
  have HS0 := hid hS0
  have GKB := hid gkb
  have HKB : Hid (kb ≤ kb) := hid (Nat.le_refl _)
  clear hS0 gkb
  obtain ⟨R, gR⟩ : ∃ R, R = g.kill x1 x2 := ⟨_, rfl⟩
  have HE : Hid (K3 g R.1) := by rw [gR]; exact hid (K3.kill HO.out _ _)
  have KP : Hid (∀ W G D gD, S9 wF B kb G D pp f x t y L g gD W → Calls Tryz.prog 31 #[.pointer (some ⟨t, 0, none⟩), .int .i64 x1, .int .i64 x2] W fun e w' => e = .returned (.int .i64 R.2) ∧ ∃ G', S9 wF B kb G' D pp f x t y L R.1 gD w') := by
    rw [gR]
    exact hid (fun W G D gD hs => (gkill_any hs.pr.tp.to HO.out x1 x2).mono (by rintro e w' ⟨he, k⟩; exact ⟨he, hs.prog k⟩))
  have KD : Hid (∀ W G D gP, S9 wF B kb G D pp f x t y L gP g W → Calls Tryz.prog 32 #[.pointer (some ⟨y, 0, none⟩), .int .i64 x1, .int .i64 x2] W fun e w' => e = .returned (.int .i64 R.2) ∧ ∃ D', S9 wF B kb G D' pp f x t y L gP R.1 w') := by
    rw [gR]
    exact hid (fun W G D gP hs => (r9kill_any hs.pr.td.to HO.out x1 x2).mono (by rintro e w' ⟨he, k⟩; exact ⟨he, hs.doc1 k⟩))
  clear gR
  go_wp2_with fail
  go_region_held3 (fun W => W.cell? ⟨pp, 0, none⟩ = some (.pointer (some ⟨f, 0, none⟩)) ∧ W.cell? ⟨pp, 1, none⟩ = some (.pointer (some ⟨x, 0, none⟩)) ∧ W.cell? ⟨pp, 2, none⟩ = some (.pointer (some ⟨t, 0, none⟩)) ∧ W.cell? ⟨pp, 3, none⟩ = some (.pointer (some ⟨y, 0, none⟩)) ∧ W.cell? ⟨kb, 1, none⟩ = some (.int .i64 x1) ∧ W.cell? ⟨kb, 2, none⟩ = some (.int .i64 x2)) (first | (refine ⟨?_, ?_, ?_, ?_, ?_, ?_⟩ <;> assumption) | go_keep) (first
    | (go_at_call 31; refine (KP.out _ _ _ _ (by first | exact HS2.out | exact HS0.out.drew | exact HS0.out)).mono ?_; rintro e w1 ⟨rfl, G1, hS1⟩; have zq0 := hS1.c0; have zq1 := hS1.c1; have zq2 := hS1.c2; have zq3 := hS1.c3; have zk1 := hS1.k HKB.out hsF f1; have zk2 := hS1.k HKB.out hsF f2; have HS1 := hid hS1; clear hS1)
    | (go_at_call 32; refine (KD.out _ _ _ _ (by first | exact HS1.out | exact HS0.out.drew | exact HS0.out)).mono ?_; rintro e w2 ⟨rfl, D2, hS2⟩; have yq0 := hS2.c0; have yq1 := hS2.c1; have yq2 := hS2.c2; have yq3 := hS2.c3; have yk1 := hS2.k HKB.out hsF f1; have yk2 := hS2.k HKB.out hsF f2; have HS2 := hid hS2; clear hS2)
    | fail)
  all_goals
    go_wp2_with fail
    go_ret
    first
    | exact HS1.out.done HWF.out HB.out HE.out
    | exact HS2.out.done HWF.out HB.out HE.out
    | exact HS1.out.drew.done HWF.out HB.out HE.out
    | exact HS2.out.drew.done HWF.out HB.out HE.out

end Go.Proofs.YtbglhmcahnkbfaaGreat

/- What the processes' 'does' does: cases 6, 8 (written by gen_gdo.py). -/
namespace Go.Proofs.YtbglhmcahnkbfaaGreat
open Go.RowKit Go.ChangeMaps Go.MapKept
set_option linter.unusedVariables false
set_option maxRecDepth 20000

set_option maxHeartbeats 8000000 in
theorem do9_6 (pp f x t y L B : Nat) (G D : Nat → Prop) (g : Gt) (x0 x1 x2 x3 : Int) (w : World) (H : P9 w B G D pp f x t y L g g) (H0 : GOk g)
    (hq : wrap64 ((IntKind.u64.wrap x0).tmod 11) = 6) :
    Calls Tryz.prog 8 #[.pointer (some ⟨pp, 0, none⟩), .agg #[.int .i64 x0, .int .i64 x1, .int .i64 x2, .int .i64 x3]] w (Do9 w B pp f x t y L g) := by
  have hpl := H.lt
  have HB : Hid (B ≤ w.heap.size) := hid (Nat.le_trans H.gp (Nat.le_of_lt hpl))
  have HO := hid H0
  have HQ := hid hq
  have HP := hid H
  clear H H0 hq
  go_enter Tryz.func8, Tryz.ntmps8
  go_upto_region 1 with fail
  obtain ⟨wF, gwF⟩ : ∃ wF, wF = w.alloc (.cells #[.int .i64 x0, .int .i64 x1, .int .i64 x2, .int .i64 x3] 26) := ⟨_, rfl⟩
  rw [← gwF]
  have hb1 : Below w.heap.size w wF := by rw [gwF]; exact (Below.refl _ _).alloc (Nat.le_refl _) _
  have hsF : w.heap.size < wF.heap.size := by rw [gwF]; simp
  have f0 : wF.cell? ⟨w.heap.size, 0, none⟩ = some (.int .i64 x0) := by rw [gwF]; simp [go_sem]
  have f1 : wF.cell? ⟨w.heap.size, 1, none⟩ = some (.int .i64 x1) := by rw [gwF]; simp [go_sem]
  have f2 : wF.cell? ⟨w.heap.size, 2, none⟩ = some (.int .i64 x2) := by rw [gwF]; simp [go_sem]
  have f3 : wF.cell? ⟨w.heap.size, 3, none⟩ = some (.int .i64 x3) := by rw [gwF]; simp [go_sem]
  have HWF := hid hb1
  clear gwF hb1
  go_upto_block 0 with fail
  rw [HQ.out]
  obtain ⟨kb, gkb⟩ : ∃ kb, kb = w.heap.size := ⟨_, rfl⟩
  rw [← gkb] at f0 f1 f2 f3 hsF ⊢
  have hS0 : S9 wF B kb G D pp f x t y L g g wF := by
    have h := HP.out.grow HWF.out
    refine ⟨h, Upd.refl _ _, fun b hk hb => ⟨hb, fun e => ?_, fun hG => ?_, fun hR => ?_⟩⟩
    · omega
    · have h1 := (HP.out.gG b hG).2.1
      omega
    · have h1 := (HP.out.gD b hR).2.1
      omega
  have q0 := hS0.c0
  have q1 := hS0.c1
  have q2 := hS0.c2
  have q3 := hS0.c3
  have HS0 := hid hS0
  have GKB := hid gkb
  have HKB : Hid (kb ≤ kb) := hid (Nat.le_refl _)
  clear hS0 gkb
  obtain ⟨R, gR⟩ : ∃ R, R = g.install x1 x2 := ⟨_, rfl⟩
  have HE : Hid (K3 g R.1) := by rw [gR]; exact hid (K3.install HO.out _ _)
  have KP : Hid (∀ W G D gD, S9 wF B kb G D pp f x t y L g gD W → Calls Tryz.prog 17 #[.pointer (some ⟨t, 0, none⟩), .int .i64 x1, .int .i64 x2] W fun e w' => e = .returned (.tuple #[.int .i64 R.2.1, .int .i64 R.2.2]) ∧ ∃ G', S9 wF B kb G' D pp f x t y L R.1 gD w') := by
    rw [gR]
    exact hid (fun W G D gD hs => (ginstall_any hs.pr.tp.to HO.out.T x1 x2).mono (by rintro e w' ⟨he, k⟩; exact ⟨he, hs.prog k⟩))
  have KD : Hid (∀ W G D gP, S9 wF B kb G D pp f x t y L gP g W → Calls Tryz.prog 34 #[.pointer (some ⟨y, 0, none⟩), .int .i64 x1, .int .i64 x2] W fun e w' => e = .returned (.tuple #[.int .i64 R.2.1, .int .i64 R.2.2]) ∧ ∃ D', S9 wF B kb G D' pp f x t y L gP R.1 w') := by
    rw [gR]
    exact hid (fun W G D gP hs => (r9install_any hs.pr.td.to HO.out.T x1 x2).mono (by rintro e w' ⟨he, k⟩; exact ⟨he, hs.doc1 k⟩))
  clear gR
  go_wp2_with fail
  go_region_held3 (fun W => W.cell? ⟨pp, 0, none⟩ = some (.pointer (some ⟨f, 0, none⟩)) ∧ W.cell? ⟨pp, 1, none⟩ = some (.pointer (some ⟨x, 0, none⟩)) ∧ W.cell? ⟨pp, 2, none⟩ = some (.pointer (some ⟨t, 0, none⟩)) ∧ W.cell? ⟨pp, 3, none⟩ = some (.pointer (some ⟨y, 0, none⟩)) ∧ W.cell? ⟨kb, 1, none⟩ = some (.int .i64 x1) ∧ W.cell? ⟨kb, 2, none⟩ = some (.int .i64 x2)) (first | (refine ⟨?_, ?_, ?_, ?_, ?_, ?_⟩ <;> assumption) | go_keep) (first
    | (go_at_call 17; refine (KP.out _ _ _ _ (by first | exact HS0.out.drew | exact HS0.out)).mono ?_; rintro e w1 ⟨rfl, G1, hS1⟩; have zq0 := hS1.c0; have zq1 := hS1.c1; have zq2 := hS1.c2; have zq3 := hS1.c3; have zk1 := hS1.k HKB.out hsF f1; have zk2 := hS1.k HKB.out hsF f2; have HS1 := hid hS1; clear hS1)
    | fail)
  go_wp2_with fail
  go_region_held3 (fun W => W.cell? ⟨pp, 0, none⟩ = some (.pointer (some ⟨f, 0, none⟩)) ∧ W.cell? ⟨pp, 1, none⟩ = some (.pointer (some ⟨x, 0, none⟩)) ∧ W.cell? ⟨pp, 2, none⟩ = some (.pointer (some ⟨t, 0, none⟩)) ∧ W.cell? ⟨pp, 3, none⟩ = some (.pointer (some ⟨y, 0, none⟩)) ∧ W.cell? ⟨kb, 1, none⟩ = some (.int .i64 x1) ∧ W.cell? ⟨kb, 2, none⟩ = some (.int .i64 x2)) (first | (refine ⟨?_, ?_, ?_, ?_, ?_, ?_⟩ <;> assumption) | go_keep) (first
    | (go_at_call 34; refine (KD.out _ _ _ _ (by first | exact HS1.out.drew | exact HS1.out)).mono ?_; rintro e w2 ⟨rfl, D2, hS2⟩; have yq0 := hS2.c0; have yq1 := hS2.c1; have yq2 := hS2.c2; have yq3 := hS2.c3; have yk1 := hS2.k HKB.out hsF f1; have yk2 := hS2.k HKB.out hsF f2; have HS2 := hid hS2; clear hS2)
    | fail)
  go_wp2_with fail
  go_ret
  first
  | exact HS2.out.done HWF.out HB.out HE.out
  | exact HS2.out.drew.done HWF.out HB.out HE.out

set_option maxHeartbeats 8000000 in
theorem do9_8 (pp f x t y L B : Nat) (G D : Nat → Prop) (g : Gt) (x0 x1 x2 x3 : Int) (w : World) (H : P9 w B G D pp f x t y L g g) (H0 : GOk g)
    (hq : wrap64 ((IntKind.u64.wrap x0).tmod 11) = 8) :
    Calls Tryz.prog 8 #[.pointer (some ⟨pp, 0, none⟩), .agg #[.int .i64 x0, .int .i64 x1, .int .i64 x2, .int .i64 x3]] w (Do9 w B pp f x t y L g) := by
  have hpl := H.lt
  have HB : Hid (B ≤ w.heap.size) := hid (Nat.le_trans H.gp (Nat.le_of_lt hpl))
  have HO := hid H0
  have HQ := hid hq
  have HP := hid H
  clear H H0 hq
  go_enter Tryz.func8, Tryz.ntmps8
  go_upto_region 1 with fail
  obtain ⟨wF, gwF⟩ : ∃ wF, wF = w.alloc (.cells #[.int .i64 x0, .int .i64 x1, .int .i64 x2, .int .i64 x3] 26) := ⟨_, rfl⟩
  rw [← gwF]
  have hb1 : Below w.heap.size w wF := by rw [gwF]; exact (Below.refl _ _).alloc (Nat.le_refl _) _
  have hsF : w.heap.size < wF.heap.size := by rw [gwF]; simp
  have f0 : wF.cell? ⟨w.heap.size, 0, none⟩ = some (.int .i64 x0) := by rw [gwF]; simp [go_sem]
  have f1 : wF.cell? ⟨w.heap.size, 1, none⟩ = some (.int .i64 x1) := by rw [gwF]; simp [go_sem]
  have f2 : wF.cell? ⟨w.heap.size, 2, none⟩ = some (.int .i64 x2) := by rw [gwF]; simp [go_sem]
  have f3 : wF.cell? ⟨w.heap.size, 3, none⟩ = some (.int .i64 x3) := by rw [gwF]; simp [go_sem]
  have HWF := hid hb1
  clear gwF hb1
  go_upto_block 0 with fail
  rw [HQ.out]
  obtain ⟨kb, gkb⟩ : ∃ kb, kb = w.heap.size := ⟨_, rfl⟩
  rw [← gkb] at f0 f1 f2 f3 hsF ⊢
  have hS0 : S9 wF B kb G D pp f x t y L g g wF := by
    have h := HP.out.grow HWF.out
    refine ⟨h, Upd.refl _ _, fun b hk hb => ⟨hb, fun e => ?_, fun hG => ?_, fun hR => ?_⟩⟩
    · omega
    · have h1 := (HP.out.gG b hG).2.1
      omega
    · have h1 := (HP.out.gD b hR).2.1
      omega
  have q0 := hS0.c0
  have q1 := hS0.c1
  have q2 := hS0.c2
  have q3 := hS0.c3
  have HS0 := hid hS0
  have GKB := hid gkb
  have HKB : Hid (kb ≤ kb) := hid (Nat.le_refl _)
  clear hS0 gkb
  obtain ⟨R, gR⟩ : ∃ R, R = g.close x1 x2 := ⟨_, rfl⟩
  have HE : Hid (K3 g R.1) := by rw [gR]; exact hid (K3.close HO.out _ _)
  have KP : Hid (∀ W G D gD, S9 wF B kb G D pp f x t y L g gD W → Calls Tryz.prog 20 #[.pointer (some ⟨t, 0, none⟩), .int .i64 x1, .int .i64 x2] W fun e w' => e = .returned (.int .i64 R.2) ∧ ∃ G', S9 wF B kb G' D pp f x t y L R.1 gD w') := by
    rw [gR]
    exact hid (fun W G D gD hs => (gclose_any hs.pr.tp.to HO.out x1 x2).mono (by rintro e w' ⟨he, k⟩; exact ⟨he, hs.prog k⟩))
  have KD : Hid (∀ W G D gP, S9 wF B kb G D pp f x t y L gP g W → Calls Tryz.prog 36 #[.pointer (some ⟨y, 0, none⟩), .int .i64 x1, .int .i64 x2] W fun e w' => e = .returned (.int .i64 R.2) ∧ ∃ D', S9 wF B kb G D' pp f x t y L gP R.1 w') := by
    rw [gR]
    exact hid (fun W G D gP hs => (r9close_any hs.pr.td.to HO.out x1 x2).mono (by rintro e w' ⟨he, k⟩; exact ⟨he, hs.doc1 k⟩))
  clear gR
  go_wp2_with fail
  go_region_held3 (fun W => W.cell? ⟨pp, 0, none⟩ = some (.pointer (some ⟨f, 0, none⟩)) ∧ W.cell? ⟨pp, 1, none⟩ = some (.pointer (some ⟨x, 0, none⟩)) ∧ W.cell? ⟨pp, 2, none⟩ = some (.pointer (some ⟨t, 0, none⟩)) ∧ W.cell? ⟨pp, 3, none⟩ = some (.pointer (some ⟨y, 0, none⟩)) ∧ W.cell? ⟨kb, 1, none⟩ = some (.int .i64 x1) ∧ W.cell? ⟨kb, 2, none⟩ = some (.int .i64 x2)) (first | (refine ⟨?_, ?_, ?_, ?_, ?_, ?_⟩ <;> assumption) | go_keep) (first
    | (go_at_call 20; refine (KP.out _ _ _ _ (by first | exact HS2.out | exact HS0.out.drew | exact HS0.out)).mono ?_; rintro e w1 ⟨rfl, G1, hS1⟩; have zq0 := hS1.c0; have zq1 := hS1.c1; have zq2 := hS1.c2; have zq3 := hS1.c3; have zk1 := hS1.k HKB.out hsF f1; have zk2 := hS1.k HKB.out hsF f2; have HS1 := hid hS1; clear hS1)
    | (go_at_call 36; refine (KD.out _ _ _ _ (by first | exact HS1.out | exact HS0.out.drew | exact HS0.out)).mono ?_; rintro e w2 ⟨rfl, D2, hS2⟩; have yq0 := hS2.c0; have yq1 := hS2.c1; have yq2 := hS2.c2; have yq3 := hS2.c3; have yk1 := hS2.k HKB.out hsF f1; have yk2 := hS2.k HKB.out hsF f2; have HS2 := hid hS2; clear hS2)
    | fail)
  all_goals
    go_wp2_with fail
    go_ret
    first
    | exact HS1.out.done HWF.out HB.out HE.out
    | exact HS2.out.done HWF.out HB.out HE.out
    | exact HS1.out.drew.done HWF.out HB.out HE.out
    | exact HS2.out.drew.done HWF.out HB.out HE.out

end Go.Proofs.YtbglhmcahnkbfaaGreat

/- What the processes' 'does' does: cases 9, 10 (written by gen_gdo.py). -/
namespace Go.Proofs.YtbglhmcahnkbfaaGreat
open Go.RowKit Go.ChangeMaps Go.MapKept
set_option linter.unusedVariables false
set_option maxRecDepth 20000

set_option maxHeartbeats 8000000 in
theorem do9_9 (pp f x t y L B : Nat) (G D : Nat → Prop) (g : Gt) (x0 x1 x2 x3 : Int) (w : World) (H : P9 w B G D pp f x t y L g g) (H0 : GOk g)
    (hq : wrap64 ((IntKind.u64.wrap x0).tmod 11) = 9) :
    Calls Tryz.prog 8 #[.pointer (some ⟨pp, 0, none⟩), .agg #[.int .i64 x0, .int .i64 x1, .int .i64 x2, .int .i64 x3]] w (Do9 w B pp f x t y L g) := by
  have hpl := H.lt
  have HB : Hid (B ≤ w.heap.size) := hid (Nat.le_trans H.gp (Nat.le_of_lt hpl))
  have HO := hid H0
  have HQ := hid hq
  have HP := hid H
  clear H H0 hq
  go_enter Tryz.func8, Tryz.ntmps8
  go_upto_region 1 with fail
  obtain ⟨wF, gwF⟩ : ∃ wF, wF = w.alloc (.cells #[.int .i64 x0, .int .i64 x1, .int .i64 x2, .int .i64 x3] 26) := ⟨_, rfl⟩
  rw [← gwF]
  have hb1 : Below w.heap.size w wF := by rw [gwF]; exact (Below.refl _ _).alloc (Nat.le_refl _) _
  have hsF : w.heap.size < wF.heap.size := by rw [gwF]; simp
  have f0 : wF.cell? ⟨w.heap.size, 0, none⟩ = some (.int .i64 x0) := by rw [gwF]; simp [go_sem]
  have f1 : wF.cell? ⟨w.heap.size, 1, none⟩ = some (.int .i64 x1) := by rw [gwF]; simp [go_sem]
  have f2 : wF.cell? ⟨w.heap.size, 2, none⟩ = some (.int .i64 x2) := by rw [gwF]; simp [go_sem]
  have f3 : wF.cell? ⟨w.heap.size, 3, none⟩ = some (.int .i64 x3) := by rw [gwF]; simp [go_sem]
  have HWF := hid hb1
  clear gwF hb1
  go_upto_block 0 with fail
  rw [HQ.out]
  obtain ⟨kb, gkb⟩ : ∃ kb, kb = w.heap.size := ⟨_, rfl⟩
  rw [← gkb] at f0 f1 f2 f3 hsF ⊢
  have hS0 : S9 wF B kb G D pp f x t y L g g wF := by
    have h := HP.out.grow HWF.out
    refine ⟨h, Upd.refl _ _, fun b hk hb => ⟨hb, fun e => ?_, fun hG => ?_, fun hR => ?_⟩⟩
    · omega
    · have h1 := (HP.out.gG b hG).2.1
      omega
    · have h1 := (HP.out.gD b hR).2.1
      omega
  have q0 := hS0.c0
  have q1 := hS0.c1
  have q2 := hS0.c2
  have q3 := hS0.c3
  have HS0 := hid hS0
  have GKB := hid gkb
  have HKB : Hid (kb ≤ kb) := hid (Nat.le_refl _)
  clear hS0 gkb
  obtain ⟨R, gR⟩ : ∃ R, R = g.dup x1 x2 := ⟨_, rfl⟩
  have HE : Hid (K3 g R.1) := by rw [gR]; exact hid (K3.dup HO.out _ _)
  have KP : Hid (∀ W G D gD, S9 wF B kb G D pp f x t y L g gD W → Calls Tryz.prog 18 #[.pointer (some ⟨t, 0, none⟩), .int .i64 x1, .int .i64 x2] W fun e w' => e = .returned (.tuple #[.int .i64 R.2.1, .int .i64 R.2.2]) ∧ ∃ G', S9 wF B kb G' D pp f x t y L R.1 gD w') := by
    rw [gR]
    exact hid (fun W G D gD hs => (gdup_any hs.pr.tp.to HO.out x1 x2).mono (by rintro e w' ⟨he, k⟩; exact ⟨he, hs.prog k⟩))
  have KD : Hid (∀ W G D gP, S9 wF B kb G D pp f x t y L gP g W → Calls Tryz.prog 37 #[.pointer (some ⟨y, 0, none⟩), .int .i64 x1, .int .i64 x2] W fun e w' => e = .returned (.tuple #[.int .i64 R.2.1, .int .i64 R.2.2]) ∧ ∃ D', S9 wF B kb G D' pp f x t y L gP R.1 w') := by
    rw [gR]
    exact hid (fun W G D gP hs => (r9dup_any hs.pr.td.to HO.out x1 x2).mono (by rintro e w' ⟨he, k⟩; exact ⟨he, hs.doc1 k⟩))
  clear gR
  go_wp2_with fail
  go_region_held3 (fun W => W.cell? ⟨pp, 0, none⟩ = some (.pointer (some ⟨f, 0, none⟩)) ∧ W.cell? ⟨pp, 1, none⟩ = some (.pointer (some ⟨x, 0, none⟩)) ∧ W.cell? ⟨pp, 2, none⟩ = some (.pointer (some ⟨t, 0, none⟩)) ∧ W.cell? ⟨pp, 3, none⟩ = some (.pointer (some ⟨y, 0, none⟩)) ∧ W.cell? ⟨kb, 1, none⟩ = some (.int .i64 x1) ∧ W.cell? ⟨kb, 2, none⟩ = some (.int .i64 x2)) (first | (refine ⟨?_, ?_, ?_, ?_, ?_, ?_⟩ <;> assumption) | go_keep) (first
    | (go_at_call 18; refine (KP.out _ _ _ _ (by first | exact HS0.out.drew | exact HS0.out)).mono ?_; rintro e w1 ⟨rfl, G1, hS1⟩; have zq0 := hS1.c0; have zq1 := hS1.c1; have zq2 := hS1.c2; have zq3 := hS1.c3; have zk1 := hS1.k HKB.out hsF f1; have zk2 := hS1.k HKB.out hsF f2; have HS1 := hid hS1; clear hS1)
    | fail)
  go_wp2_with fail
  go_region_held3 (fun W => W.cell? ⟨pp, 0, none⟩ = some (.pointer (some ⟨f, 0, none⟩)) ∧ W.cell? ⟨pp, 1, none⟩ = some (.pointer (some ⟨x, 0, none⟩)) ∧ W.cell? ⟨pp, 2, none⟩ = some (.pointer (some ⟨t, 0, none⟩)) ∧ W.cell? ⟨pp, 3, none⟩ = some (.pointer (some ⟨y, 0, none⟩)) ∧ W.cell? ⟨kb, 1, none⟩ = some (.int .i64 x1) ∧ W.cell? ⟨kb, 2, none⟩ = some (.int .i64 x2)) (first | (refine ⟨?_, ?_, ?_, ?_, ?_, ?_⟩ <;> assumption) | go_keep) (first
    | (go_at_call 37; refine (KD.out _ _ _ _ (by first | exact HS1.out.drew | exact HS1.out)).mono ?_; rintro e w2 ⟨rfl, D2, hS2⟩; have yq0 := hS2.c0; have yq1 := hS2.c1; have yq2 := hS2.c2; have yq3 := hS2.c3; have yk1 := hS2.k HKB.out hsF f1; have yk2 := hS2.k HKB.out hsF f2; have HS2 := hid hS2; clear hS2)
    | fail)
  go_wp2_with fail
  go_ret
  first
  | exact HS2.out.done HWF.out HB.out HE.out
  | exact HS2.out.drew.done HWF.out HB.out HE.out

set_option maxHeartbeats 8000000 in
theorem do9_10 (pp f x t y L B : Nat) (G D : Nat → Prop) (g : Gt) (x0 x1 x2 x3 : Int) (w : World) (H : P9 w B G D pp f x t y L g g) (H0 : GOk g)
    (hq : wrap64 ((IntKind.u64.wrap x0).tmod 11) = 10) :
    Calls Tryz.prog 8 #[.pointer (some ⟨pp, 0, none⟩), .agg #[.int .i64 x0, .int .i64 x1, .int .i64 x2, .int .i64 x3]] w (Do9 w B pp f x t y L g) := by
  have hpl := H.lt
  have HB : Hid (B ≤ w.heap.size) := hid (Nat.le_trans H.gp (Nat.le_of_lt hpl))
  have HO := hid H0
  have HQ := hid hq
  have HP := hid H
  clear H H0 hq
  go_enter Tryz.func8, Tryz.ntmps8
  go_upto_region 1 with fail
  obtain ⟨wF, gwF⟩ : ∃ wF, wF = w.alloc (.cells #[.int .i64 x0, .int .i64 x1, .int .i64 x2, .int .i64 x3] 26) := ⟨_, rfl⟩
  rw [← gwF]
  have hb1 : Below w.heap.size w wF := by rw [gwF]; exact (Below.refl _ _).alloc (Nat.le_refl _) _
  have hsF : w.heap.size < wF.heap.size := by rw [gwF]; simp
  have f0 : wF.cell? ⟨w.heap.size, 0, none⟩ = some (.int .i64 x0) := by rw [gwF]; simp [go_sem]
  have f1 : wF.cell? ⟨w.heap.size, 1, none⟩ = some (.int .i64 x1) := by rw [gwF]; simp [go_sem]
  have f2 : wF.cell? ⟨w.heap.size, 2, none⟩ = some (.int .i64 x2) := by rw [gwF]; simp [go_sem]
  have f3 : wF.cell? ⟨w.heap.size, 3, none⟩ = some (.int .i64 x3) := by rw [gwF]; simp [go_sem]
  have HWF := hid hb1
  clear gwF hb1
  go_upto_block 0 with fail
  rw [HQ.out]
  obtain ⟨kb, gkb⟩ : ∃ kb, kb = w.heap.size := ⟨_, rfl⟩
  rw [← gkb] at f0 f1 f2 f3 hsF ⊢
  have hS0 : S9 wF B kb G D pp f x t y L g g wF := by
    have h := HP.out.grow HWF.out
    refine ⟨h, Upd.refl _ _, fun b hk hb => ⟨hb, fun e => ?_, fun hG => ?_, fun hR => ?_⟩⟩
    · omega
    · have h1 := (HP.out.gG b hG).2.1
      omega
    · have h1 := (HP.out.gD b hR).2.1
      omega
  have q0 := hS0.c0
  have q1 := hS0.c1
  have q2 := hS0.c2
  have q3 := hS0.c3
  have HS0 := hid hS0
  have GKB := hid gkb
  have HKB : Hid (kb ≤ kb) := hid (Nat.le_refl _)
  clear hS0 gkb
  obtain ⟨R, gR⟩ : ∃ R, R = g.dup2 x1 x2 x3 := ⟨_, rfl⟩
  have HE : Hid (K3 g R.1) := by rw [gR]; exact hid (K3.dup2 HO.out _ _ _)
  have KP : Hid (∀ W G D gD, S9 wF B kb G D pp f x t y L g gD W → Calls Tryz.prog 19 #[.pointer (some ⟨t, 0, none⟩), .int .i64 x1, .int .i64 x2, .int .i64 x3] W fun e w' => e = .returned (.tuple #[.int .i64 R.2.1, .int .i64 R.2.2]) ∧ ∃ G', S9 wF B kb G' D pp f x t y L R.1 gD w') := by
    rw [gR]
    exact hid (fun W G D gD hs => (gdup2_any hs.pr.tp.to HO.out x1 x2 x3).mono (by rintro e w' ⟨he, k⟩; exact ⟨he, hs.prog k⟩))
  have KD : Hid (∀ W G D gP, S9 wF B kb G D pp f x t y L gP g W → Calls Tryz.prog 38 #[.pointer (some ⟨y, 0, none⟩), .int .i64 x1, .int .i64 x2, .int .i64 x3] W fun e w' => e = .returned (.tuple #[.int .i64 R.2.1, .int .i64 R.2.2]) ∧ ∃ D', S9 wF B kb G D' pp f x t y L gP R.1 w') := by
    rw [gR]
    exact hid (fun W G D gP hs => (r9dup2_any hs.pr.td.to HO.out x1 x2 x3).mono (by rintro e w' ⟨he, k⟩; exact ⟨he, hs.doc1 k⟩))
  clear gR
  go_wp2_with fail
  go_region_held3 (fun W => W.cell? ⟨pp, 0, none⟩ = some (.pointer (some ⟨f, 0, none⟩)) ∧ W.cell? ⟨pp, 1, none⟩ = some (.pointer (some ⟨x, 0, none⟩)) ∧ W.cell? ⟨pp, 2, none⟩ = some (.pointer (some ⟨t, 0, none⟩)) ∧ W.cell? ⟨pp, 3, none⟩ = some (.pointer (some ⟨y, 0, none⟩)) ∧ W.cell? ⟨kb, 1, none⟩ = some (.int .i64 x1) ∧ W.cell? ⟨kb, 2, none⟩ = some (.int .i64 x2) ∧ W.cell? ⟨kb, 3, none⟩ = some (.int .i64 x3)) (first | (refine ⟨?_, ?_, ?_, ?_, ?_, ?_, ?_⟩ <;> assumption) | go_keep) (first
    | (go_at_call 19; refine (KP.out _ _ _ _ (by first | exact HS0.out.drew | exact HS0.out)).mono ?_; rintro e w1 ⟨rfl, G1, hS1⟩; have zq0 := hS1.c0; have zq1 := hS1.c1; have zq2 := hS1.c2; have zq3 := hS1.c3; have zk1 := hS1.k HKB.out hsF f1; have zk2 := hS1.k HKB.out hsF f2; have zk3 := hS1.k HKB.out hsF f3; have HS1 := hid hS1; clear hS1)
    | fail)
  go_wp2_with fail
  go_region_held3 (fun W => W.cell? ⟨pp, 0, none⟩ = some (.pointer (some ⟨f, 0, none⟩)) ∧ W.cell? ⟨pp, 1, none⟩ = some (.pointer (some ⟨x, 0, none⟩)) ∧ W.cell? ⟨pp, 2, none⟩ = some (.pointer (some ⟨t, 0, none⟩)) ∧ W.cell? ⟨pp, 3, none⟩ = some (.pointer (some ⟨y, 0, none⟩)) ∧ W.cell? ⟨kb, 1, none⟩ = some (.int .i64 x1) ∧ W.cell? ⟨kb, 2, none⟩ = some (.int .i64 x2) ∧ W.cell? ⟨kb, 3, none⟩ = some (.int .i64 x3)) (first | (refine ⟨?_, ?_, ?_, ?_, ?_, ?_, ?_⟩ <;> assumption) | go_keep) (first
    | (go_at_call 38; refine (KD.out _ _ _ _ (by first | exact HS1.out.drew | exact HS1.out)).mono ?_; rintro e w2 ⟨rfl, D2, hS2⟩; have yq0 := hS2.c0; have yq1 := hS2.c1; have yq2 := hS2.c2; have yq3 := hS2.c3; have yk1 := hS2.k HKB.out hsF f1; have yk2 := hS2.k HKB.out hsF f2; have yk3 := hS2.k HKB.out hsF f3; have HS2 := hid hS2; clear hS2)
    | fail)
  go_wp2_with fail
  go_ret
  first
  | exact HS2.out.done HWF.out HB.out HE.out
  | exact HS2.out.drew.done HWF.out HB.out HE.out

end Go.Proofs.YtbglhmcahnkbfaaGreat

/- What the processes' 'does' does: cases 7 (written by gen_gdo.py). -/
namespace Go.Proofs.YtbglhmcahnkbfaaGreat
open Go.RowKit Go.ChangeMaps Go.MapKept
set_option linter.unusedVariables false
set_option maxRecDepth 20000

set_option maxHeartbeats 8000000 in
theorem do9_7 (pp f x t y L B : Nat) (G D : Nat → Prop) (g : Gt) (x0 x1 x2 x3 : Int) (w : World) (H : P9 w B G D pp f x t y L g g) (H0 : GOk g)
    (hq : wrap64 ((IntKind.u64.wrap x0).tmod 11) = 7) :
    Calls Tryz.prog 8 #[.pointer (some ⟨pp, 0, none⟩), .agg #[.int .i64 x0, .int .i64 x1, .int .i64 x2, .int .i64 x3]] w (Do9 w B pp f x t y L g) := by
  have hpl := H.lt
  have HB : Hid (B ≤ w.heap.size) := hid (Nat.le_trans H.gp (Nat.le_of_lt hpl))
  have HO := hid H0
  have HQ := hid hq
  have HP := hid H
  clear H H0 hq
  go_enter Tryz.func8, Tryz.ntmps8
  go_upto_region 1 with fail
  obtain ⟨wF, gwF⟩ : ∃ wF, wF = w.alloc (.cells #[.int .i64 x0, .int .i64 x1, .int .i64 x2, .int .i64 x3] 26) := ⟨_, rfl⟩
  rw [← gwF]
  have hb1 : Below w.heap.size w wF := by rw [gwF]; exact (Below.refl _ _).alloc (Nat.le_refl _) _
  have hsF : w.heap.size < wF.heap.size := by rw [gwF]; simp
  have f0 : wF.cell? ⟨w.heap.size, 0, none⟩ = some (.int .i64 x0) := by rw [gwF]; simp [go_sem]
  have f1 : wF.cell? ⟨w.heap.size, 1, none⟩ = some (.int .i64 x1) := by rw [gwF]; simp [go_sem]
  have f2 : wF.cell? ⟨w.heap.size, 2, none⟩ = some (.int .i64 x2) := by rw [gwF]; simp [go_sem]
  have f3 : wF.cell? ⟨w.heap.size, 3, none⟩ = some (.int .i64 x3) := by rw [gwF]; simp [go_sem]
  have HWF := hid hb1
  clear gwF hb1
  go_upto_block 0 with fail
  rw [HQ.out]
  obtain ⟨kb, gkb⟩ : ∃ kb, kb = w.heap.size := ⟨_, rfl⟩
  rw [← gkb] at f0 f1 f2 f3 hsF ⊢
  have hS0 : S9 wF B kb G D pp f x t y L g g wF := by
    have h := HP.out.grow HWF.out
    refine ⟨h, Upd.refl _ _, fun b hk hb => ⟨hb, fun e => ?_, fun hG => ?_, fun hR => ?_⟩⟩
    · omega
    · have h1 := (HP.out.gG b hG).2.1
      omega
    · have h1 := (HP.out.gD b hR).2.1
      omega
  have q0 := hS0.c0
  have q1 := hS0.c1
  have q2 := hS0.c2
  have q3 := hS0.c3
  have HS0 := hid hS0
  have GKB := hid gkb
  have HKB : Hid (kb ≤ kb) := hid (Nat.le_refl _)
  clear hS0 gkb
  obtain ⟨Z, gZ⟩ : ∃ Z, Z = g.file x1 x2 := ⟨_, rfl⟩
  have KF : Hid (∀ W G D gD, S9 wF B kb G D pp f x t y L g gD W → Calls Tryz.prog 21 #[.pointer (some ⟨t, 0, none⟩), .int .i64 x1, .int .i64 x2] W fun e w' => e = .returned (.tuple #[.int .i64 Z.1, .int .i64 Z.2]) ∧ S9 wF B kb G D pp f x t y L g gD w') := by
    rw [gZ]
    exact hid (fun W G D gD hs => (gfile_any t f g x1 x2 W hs.pr.tp.tab).mono (by rintro e w' ⟨he, k⟩; exact ⟨he, hs.grow k⟩))
  have KE : Hid (∀ W G D gP, S9 wF B kb G D pp f x t y L gP g W → Calls Tryz.prog 35 #[.pointer (some ⟨y, 0, none⟩), .int .i64 x1, .int .i64 x2] W fun e w' => e = .returned (.tuple #[.int .i64 Z.1, .int .i64 Z.2]) ∧ S9 wF B kb G D pp f x t y L gP g w') := by
    rw [gZ]
    exact hid (fun W G D gP hs => (r9file_any hs.pr.td x1 x2).mono (by rintro e w' ⟨he, k⟩; subst w'; exact ⟨he, hs⟩))
  clear gZ
  go_wp2_with fail
  go_region_held3 (fun W => W.cell? ⟨pp, 0, none⟩ = some (.pointer (some ⟨f, 0, none⟩)) ∧ W.cell? ⟨pp, 1, none⟩ = some (.pointer (some ⟨x, 0, none⟩)) ∧ W.cell? ⟨pp, 2, none⟩ = some (.pointer (some ⟨t, 0, none⟩)) ∧ W.cell? ⟨pp, 3, none⟩ = some (.pointer (some ⟨y, 0, none⟩)) ∧ W.cell? ⟨kb, 1, none⟩ = some (.int .i64 x1) ∧ W.cell? ⟨kb, 2, none⟩ = some (.int .i64 x2) ∧ W.cell? ⟨kb, 3, none⟩ = some (.int .i64 x3)) (first | (refine ⟨?_, ?_, ?_, ?_, ?_, ?_, ?_⟩ <;> assumption) | go_keep) (first
    | (go_at_call 21; refine (KF.out _ _ _ _ (by first | exact HS0.out.drew | exact HS0.out)).mono ?_; rintro e w1 ⟨rfl, hS1⟩; have zq0 := hS1.c0; have zq1 := hS1.c1; have zq2 := hS1.c2; have zq3 := hS1.c3; have zk1 := hS1.k HKB.out hsF f1; have zk2 := hS1.k HKB.out hsF f2; have zk3 := hS1.k HKB.out hsF f3; have HSa := hid hS1; clear hS1)
    | fail)
  go_wp2_with fail
  go_region_held3 (fun W => W.cell? ⟨pp, 0, none⟩ = some (.pointer (some ⟨f, 0, none⟩)) ∧ W.cell? ⟨pp, 1, none⟩ = some (.pointer (some ⟨x, 0, none⟩)) ∧ W.cell? ⟨pp, 2, none⟩ = some (.pointer (some ⟨t, 0, none⟩)) ∧ W.cell? ⟨pp, 3, none⟩ = some (.pointer (some ⟨y, 0, none⟩)) ∧ W.cell? ⟨kb, 1, none⟩ = some (.int .i64 x1) ∧ W.cell? ⟨kb, 2, none⟩ = some (.int .i64 x2) ∧ W.cell? ⟨kb, 3, none⟩ = some (.int .i64 x3)) (first | (refine ⟨?_, ?_, ?_, ?_, ?_, ?_, ?_⟩ <;> assumption) | go_keep) (first
    | (go_at_call 35; refine (KE.out _ _ _ _ (by first | exact HSa.out.drew | exact HSa.out)).mono ?_; rintro e w2 ⟨rfl, hS2⟩; have yq0 := hS2.c0; have yq1 := hS2.c1; have yq2 := hS2.c2; have yq3 := hS2.c3; have yk1 := hS2.k HKB.out hsF f1; have yk2 := hS2.k HKB.out hsF f2; have yk3 := hS2.k HKB.out hsF f3; have HSb := hid hS2; clear hS2)
    | fail)
  obtain ⟨R, gR⟩ : ∃ R, R = g.close x1 x3 := ⟨_, rfl⟩
  have HE : Hid (K3 g R.1) := by rw [gR]; exact hid (K3.close HO.out _ _)
  have KP : Hid (∀ W G D gD, S9 wF B kb G D pp f x t y L g gD W → Calls Tryz.prog 20 #[.pointer (some ⟨t, 0, none⟩), .int .i64 x1, .int .i64 x3] W fun e w' => e = .returned (.int .i64 R.2) ∧ ∃ G', S9 wF B kb G' D pp f x t y L R.1 gD w') := by
    rw [gR]
    exact hid (fun W G D gD hs => (gclose_any hs.pr.tp.to HO.out x1 x3).mono (by rintro e w' ⟨he, k⟩; exact ⟨he, hs.prog k⟩))
  have KD : Hid (∀ W G D gP, S9 wF B kb G D pp f x t y L gP g W → Calls Tryz.prog 36 #[.pointer (some ⟨y, 0, none⟩), .int .i64 x1, .int .i64 x3] W fun e w' => e = .returned (.int .i64 R.2) ∧ ∃ D', S9 wF B kb G D' pp f x t y L gP R.1 w') := by
    rw [gR]
    exact hid (fun W G D gP hs => (r9close_any hs.pr.td.to HO.out x1 x3).mono (by rintro e w' ⟨he, k⟩; exact ⟨he, hs.doc1 k⟩))
  clear gR
  go_wp2_with fail
  go_region_held3 (fun W => W.cell? ⟨pp, 0, none⟩ = some (.pointer (some ⟨f, 0, none⟩)) ∧ W.cell? ⟨pp, 1, none⟩ = some (.pointer (some ⟨x, 0, none⟩)) ∧ W.cell? ⟨pp, 2, none⟩ = some (.pointer (some ⟨t, 0, none⟩)) ∧ W.cell? ⟨pp, 3, none⟩ = some (.pointer (some ⟨y, 0, none⟩)) ∧ W.cell? ⟨kb, 1, none⟩ = some (.int .i64 x1) ∧ W.cell? ⟨kb, 2, none⟩ = some (.int .i64 x2) ∧ W.cell? ⟨kb, 3, none⟩ = some (.int .i64 x3)) (first | (refine ⟨?_, ?_, ?_, ?_, ?_, ?_, ?_⟩ <;> assumption) | go_keep) (first
    | (go_at_call 20; refine (KP.out _ _ _ _ (by first | exact HS2.out | exact HSb.out.drew | exact HSb.out)).mono ?_; rintro e w1 ⟨rfl, G1, hS1⟩; have zq0 := hS1.c0; have zq1 := hS1.c1; have zq2 := hS1.c2; have zq3 := hS1.c3; have zk1 := hS1.k HKB.out hsF f1; have zk2 := hS1.k HKB.out hsF f2; have zk3 := hS1.k HKB.out hsF f3; have HS1 := hid hS1; clear hS1)
    | (go_at_call 36; refine (KD.out _ _ _ _ (by first | exact HS1.out | exact HSb.out.drew | exact HSb.out)).mono ?_; rintro e w2 ⟨rfl, D2, hS2⟩; have yq0 := hS2.c0; have yq1 := hS2.c1; have yq2 := hS2.c2; have yq3 := hS2.c3; have yk1 := hS2.k HKB.out hsF f1; have yk2 := hS2.k HKB.out hsF f2; have yk3 := hS2.k HKB.out hsF f3; have HS2 := hid hS2; clear hS2)
    | fail)
  all_goals
    go_wp2_with fail
    go_ret
    first
    | exact HS1.out.done HWF.out HB.out HE.out
    | exact HS2.out.done HWF.out HB.out HE.out
    | exact HS1.out.drew.done HWF.out HB.out HE.out
    | exact HS2.out.drew.done HWF.out HB.out HE.out

end Go.Proofs.YtbglhmcahnkbfaaGreat
