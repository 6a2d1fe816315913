/- A list of steps of the pair: as it lies, and opened. -/
import Derived.Test.YtcophmafkpbdaaaR2does
import Derived.Test.YtcophmafkpbdaaaRows
import Derived.ProofKit
import Derived.OpenShut
import Derived.ShutString
import Derived.ChangeOld
import Derived.SizedLaws
import Derived.Deep.Slices
import Derived.ChangeSame

/- A list of steps of the pair, as it lies. -/
namespace Go.Proofs.Ytcophmafkpbdaaa
open Go.RowKit
set_option linter.unusedVariables false

/-- One step, as it lies from a cell on. -/
def Do2 (w : World) (b o : Nat) : Prop :=
  ∃ (x0 x1 x2 x3 : Int) (ab kb : Option Addr) (lb cb nk ck : Nat) (bz kz : List Int),
    (w.cell? ⟨b, o, none⟩ = some (.int .i64 x0) ∧ w.cell? ⟨b, o + 1, none⟩ = some (.int .i64 x1) ∧ w.cell? ⟨b, o + 2, none⟩ = some (.int .i64 x2) ∧ w.cell? ⟨b, o + 3, none⟩ = some (.int .i64 x3) ∧ w.cell? ⟨b, o + 4, none⟩ = some (.slice ab lb cb) ∧ w.cell? ⟨b, o + 5, none⟩ = some (.slice kb nk ck)) ∧
    (-9223372036854775808 ≤ x0 ∧ x0 ≤ 9223372036854775807) ∧ x3 ≤ 9223372036854775807 ∧ Src w ab lb bz ∧ lb ≤ 140737488355328 ∧ lb ≤ cb ∧ cb ≤ 9223372036854775807 ∧ (ab = none → lb = 0 ∧ cb = 0) ∧ IntsZ w kb kz ∧ kz.length = nk ∧ nk ≤ 17592186044416 ∧ nk ≤ ck ∧ ck ≤ 9223372036854775807 ∧ (kb = none → nk = 0 ∧ ck = 0)

def Dos2 (w : World) (al : Option Addr) (ll : Nat) : Prop := 0 < ll → ∃ b o, al = some ⟨b, o, none⟩ ∧ b < w.heap.size ∧ ∀ i, i < ll → Do2 w b (o + i * 6)

/-- A step, told at a later world in which all that is old stands. -/
theorem does_at {w0 w : World} {pp p q K b o : Nat} {d : Dk} {x : Rk} {M : List Nat} (h0 : Do2 w0 b o) (hb : Below w0.heap.size w0 w) (h : Two w pp d p x q M w0.heap.size) (hs : Same d x) (hK : x.E.length ≤ K) (hK2 : K ≤ 1790000000000) (hbl : b < w0.heap.size) :
    ∃ (x0 x1 x2 x3 : Int) (ab kb : Option Addr) (lb cb nk ck : Nat), (w.cell? ⟨b, o, none⟩ = some (.int .i64 x0) ∧ w.cell? ⟨b, o + 1, none⟩ = some (.int .i64 x1) ∧ w.cell? ⟨b, o + 2, none⟩ = some (.int .i64 x2) ∧ w.cell? ⟨b, o + 3, none⟩ = some (.int .i64 x3) ∧ w.cell? ⟨b, o + 4, none⟩ = some (.slice ab lb cb) ∧ w.cell? ⟨b, o + 5, none⟩ = some (.slice kb nk ck)) ∧
      ∀ wx, Below w.heap.size w wx → Calls Try.prog 11 #[.pointer (some ⟨pp, 0, none⟩), .agg #[.int .i64 x0, .int .i64 x1, .int .i64 x2, .int .i64 x3, .slice ab lb cb, .slice kb nk ck]] wx fun e w' => e = .returned (.bool true) ∧ ∃ (d' : Dk) (p' : Nat) (x' : Rk) (q' : Nat) (M' : List Nat), Stp wx w' pp d p x q M w0.heap.size K d' p' x' q' M' := by
  obtain ⟨x0, x1, x2, x3, ab, kb, lb, cb, nk, ck, bz, kz, ⟨c0, c1, c2, c3, c4, c5⟩, h1, h2, h3, h4, h5, h6, h7, h8, h9, h10, h11, h12, h13⟩ := h0
  refine ⟨x0, x1, x2, x3, ab, kb, lb, cb, nk, ck, ⟨(hb.cell (p := ⟨b, _, none⟩) hbl).trans c0, (hb.cell (p := ⟨b, _, none⟩) hbl).trans c1, (hb.cell (p := ⟨b, _, none⟩) hbl).trans c2, (hb.cell (p := ⟨b, _, none⟩) hbl).trans c3, (hb.cell (p := ⟨b, _, none⟩) hbl).trans c4, (hb.cell (p := ⟨b, _, none⟩) hbl).trans c5⟩, fun wx hbx => ?_⟩
  have hbw := hb.trans (hbx.mono hb.size)
  refine does_any pp p q w0.heap.size K d x M x0 x1 x2 x3 ab kb lb cb nk ck bz kz wx (h.below hbx) hs hK hK2 h1 h2 (h3.below hbw) h4 h5 h6 h7 (h8.below hbw) h9 h10 h11 h12 h13 (fun hl b' o' e => ?_) (fun hl b' o' e => ?_)
  · obtain ⟨b2, o2, e2, hl2, _⟩ := h3.2 hl
    rw [e] at e2
    injection e2 with e2
    injection e2 with e3 e4
    subst e3
    exact hl2
  · obtain ⟨b2, o2, e2, hl2, _⟩ := h8 (by omega)
    rw [e] at e2
    injection e2 with e2
    injection e2 with e3 e4
    subst e3
    exact hl2

/-- The pair, behind some steps. -/
structure Run (w0 wr : World) (pp : Nat) (K : Nat) (d : Dk) (p : Nat) (x : Rk) (q : Nat) (M : List Nat) : Prop where
  two : Two wr pp d p x q M w0.heap.size
  same : Same d x
  cnt : x.E.length ≤ K
  bel : Below w0.heap.size w0 wr

theorem Run.step {w0 wr w1 w2 : World} {pp p q K p' q' : Nat} {d d' : Dk} {x x' : Rk} {M M' : List Nat} (h : Run w0 wr pp K d p x q M) (hb : Below wr.heap.size wr w1) (hs : Stp w1 w2 pp d p x q M w0.heap.size K d' p' x' q' M') : Run w0 w2 pp (K + 1) d' p' x' q' M' :=
  ⟨hs.two, hs.same, hs.cnt, (h.bel.trans (hb.mono h.bel.size)).trans (hs.upd.below (Nat.le_trans h.bel.size hb.size) (fun k hk => h.two.new k (h.two.turns k hk)))⟩

theorem Run.below {w0 wr w1 : World} {pp p q K : Nat} {d : Dk} {x : Rk} {M : List Nat} (h : Run w0 wr pp K d p x q M) (hb : Below wr.heap.size wr w1) : Run w0 w1 pp K d p x q M :=
  ⟨h.two.below hb, h.same, h.cnt, h.bel.trans (hb.mono h.bel.size)⟩

/-- Other disks, which nothing turns. -/
structure Old (wr : World) (d0 : Dk) (p0 : Nat) (x0 : Rk) (q0 : Nat) (pp : Nat) (d : Dk) (p : Nat) (x : Rk) (q : Nat) (M : List Nat) : Prop where
  dk : d0.ok wr p0
  rk : x0.ok wr q0 M
  sep : ∀ k, (k ∈ d0.foot p0 ∨ k ∈ x0.foot q0) → k ∈ M ∧ ¬ Turns d p x q pp k

theorem Old.below {wr w1 : World} {d0 d : Dk} {p0 q0 pp p q : Nat} {x0 x : Rk} {M : List Nat} (h : Old wr d0 p0 x0 q0 pp d p x q M) (hb : Below wr.heap.size wr w1) : Old w1 d0 p0 x0 q0 pp d p x q M :=
  ⟨h.dk.frame fun k hk => hb.block k (h.dk.lt k hk), h.rk.move (Upd.of_below (F := fun _ => False) hb) (fun _ _ h => h.elim) (fun _ _ h => h), h.sep⟩

theorem Old.step {wr w2 : World} {d0 d d' : Dk} {p0 q0 pp p q p' q' B K : Nat} {x0 x x' : Rk} {M M' : List Nat} (h : Old wr d0 p0 x0 q0 pp d p x q M) (ht : Two wr pp d p x q M B) (hs : Stp wr w2 pp d p x q M B K d' p' x' q' M') : Old w2 d0 p0 x0 q0 pp d' p' x' q' M' := by
  refine ⟨h.dk.upd hs.upd (fun k hk => (h.sep k (.inl hk)).2), h.rk.grow hs.upd (fun k _ hk => ht.turns k hk) (fun k hk => (h.sep k (.inr hk)).2) hs.sub hs.grew, fun k hk => ⟨hs.sub k (h.sep k hk).1, fun h1 => ?_⟩⟩
  rcases hs.fresh k h1 with h2 | h2
  · exact (h.sep k hk).2 h2
  · have h3 := ht.lt k (h.sep k hk).1
    omega

theorem Two.wide {w w2 : World} {pp p q B : Nat} {d : Dk} {x : Rk} {M M' : List Nat} (h : Two w pp d p x q M B) (hb : Below w.heap.size w w2) (hs : ∀ k ∈ M, k ∈ M') (hg : Grew' w M M') (hl : ∀ k ∈ M', k < w2.heap.size) : Two w2 pp d p x q M' B :=
  ⟨(hb.block pp (h.lt pp h.pM)).trans h.cells, h.dk.frame fun k hk => hb.block k (h.dk.lt k hk), h.rk.grow (Upd.of_below (F := fun _ => False) hb) (fun _ _ h => h.elim) (fun _ _ h => h) hs hg, fun k hk => hs k (h.sub k hk), hs pp h.pM, hl, h.apart, h.pd, h.px, fun k hk => by
    rcases hg k hk with h1 | h1
    · exact h.new k h1
    · exact Nat.le_trans h.base h1⟩

theorem same_dk {w : World} {p q : Nat} {d : Dk} {x : Rk} {M : List Nat} (hd : d.ok w p) (hx : x.ok w q M) (hs : Same d x) (hK : x.E.length ≤ 1800000000000) : Calls Try.prog 12 #[.pointer (some ⟨p, 0, none⟩), .pointer (some ⟨q, 0, none⟩)] w fun e w' => e = .returned (.bool true) ∧ Below w.heap.size w w' :=
  samedisks_yes d p q x.n x.E.length x.cE _ x.f M x.aE x.E w hd hx.cell.1 hx.cell.2.1 rfl hx.B hx.epsl hs.n hx.n2 (fun j hj => hs.dur j hj) hs.ab hx.er.2.1 hx.er.2.2.1 (by omega)

/-- The pair, as it is made of two disks. -/
theorem pair_made2 {w0 w2 : World} {p q : Nat} {d : Dk} {x : Rk} (hd : d.ok w2 p) (hd1 : ∀ k ∈ d.foot p, w0.heap.size ≤ k) (hx : x.ok w2 q (x.foot q ++ d.foot p)) (hx1 : ∀ k ∈ x.foot q, w0.heap.size ≤ k ∧ k < w2.heap.size) (hap : ∀ k ∈ x.foot q, k ∉ d.foot p) (hb : w0.heap.size ≤ w2.heap.size) :
    Two (w2.alloc (.cells #[.pointer (some ⟨p, 0, none⟩), .pointer (some ⟨q, 0, none⟩)] 32)) w2.heap.size d p x q (w2.heap.size :: (x.foot q ++ d.foot p)) w0.heap.size := by
  have ha := one_alloc w2 (.cells #[.pointer (some ⟨p, 0, none⟩), .pointer (some ⟨q, 0, none⟩)] 32)
  have hdl : ∀ k ∈ d.foot p, k < w2.heap.size := hd.lt
  refine ⟨heap_alloc_new w2 _, hd.frame fun k hk => ha.block k (hdl k hk), hx.grow (Upd.of_below (F := fun _ => False) ha) (fun _ _ h => h.elim) (fun _ _ h => h) (fun k hk => List.mem_cons_of_mem _ hk) (fun k hk => ?_), fun k hk => by simp [hk], by simp, fun k hk => ?_, hap, fun hk => ?_, fun hk => ?_, fun k hk => ?_⟩
  · rcases List.mem_cons.1 hk with h | h
    · right; omega
    · left; exact h
  · simp only [List.mem_cons, List.mem_append] at hk
    simp
    rcases hk with h | h | h
    · omega
    · have := (hx1 k h).2; omega
    · have := hdl k h; omega
  · have := hdl _ hk; omega
  · have := (hx1 _ hk).2; omega
  · simp only [List.mem_cons, List.mem_append] at hk
    rcases hk with h | h | h
    · omega
    · exact (hx1 k h).1
    · exact hd1 k h

/-- The pair, as it is made of a disk of noughts and the document's. -/
theorem pair_made {w0 w1 w2 : World} {p q n : Nat} {d : Dk} {x : Rk} (hd : d.ok w1 p) (hd1 : ∀ k ∈ d.foot p, w0.heap.size ≤ k) (hb1 : Below w0.heap.size w0 w1) (hx : x.ok w2 q (x.foot q ++ d.foot p)) (hx1 : ∀ k ∈ x.foot q, w1.heap.size ≤ k ∧ k < w2.heap.size) (hb2 : Below w1.heap.size w1 w2) :
    Two (w2.alloc (.cells #[.pointer (some ⟨p, 0, none⟩), .pointer (some ⟨q, 0, none⟩)] 32)) w2.heap.size d p x q (w2.heap.size :: (x.foot q ++ d.foot p)) w0.heap.size := by
  have ha := one_alloc w2 (.cells #[.pointer (some ⟨p, 0, none⟩), .pointer (some ⟨q, 0, none⟩)] 32)
  have hs1 := hb1.size
  have hs2 := hb2.size
  have hdl : ∀ k ∈ d.foot p, k < w1.heap.size := hd.lt
  refine ⟨heap_alloc_new w2 _, hd.frame fun k hk => (ha.block k (Nat.lt_of_lt_of_le (hdl k hk) hs2)).trans (hb2.block k (hdl k hk)), hx.grow (Upd.of_below (F := fun _ => False) ha) (fun _ _ h => h.elim) (fun _ _ h => h) (fun k hk => List.mem_cons_of_mem _ hk) (fun k hk => ?_), fun k hk => by simp [hk], by simp, fun k hk => ?_, fun k hk hk2 => ?_, fun hk => ?_, fun hk => ?_, fun k hk => ?_⟩
  · rcases List.mem_cons.1 hk with h | h
    · right; omega
    · left; exact h
  · simp only [List.mem_cons, List.mem_append] at hk
    simp
    rcases hk with h | h | h
    · omega
    · have := (hx1 k h).2; omega
    · have := hdl k h; omega
  · have h1 := (hx1 k hk).1; have h2 := hdl k hk2; omega
  · have := hdl _ hk; omega
  · have := (hx1 _ hk).2; omega
  · simp only [List.mem_cons, List.mem_append] at hk
    rcases hk with h | h | h
    · omega
    · have := (hx1 k h).1; omega
    · exact hd1 k h

end Go.Proofs.Ytcophmafkpbdaaa

/- A list of a disk's steps, opened with all that it holds. -/
namespace Go.Proofs.Ytcophmafkpbdaaa
open Go.ChangeShapes Go.WideShapes Go.ChangeAt Go.RowKit
set_option linter.unusedVariables false

theorem own : ownKnob Try.prog.godebug = none := by kernel_rfl
theorem laidOut : laidOutB Try.prog = true := by kernel_rfl
theorem bytesDo : Try.prog.bytesOf 38 = 80 := by kernel_rfl
theorem cellsDo : Try.prog.cellsOf 38 = 6 := by kernel_rfl
theorem bytes5 : Try.prog.bytesOf 5 = 1 := by kernel_rfl
theorem bytes3 : Try.prog.bytesOf 3 = 8 := by kernel_rfl

/-- Bytes within a datum. -/
theorem open_inner {H : Type} {enc : TypeId × Value → H} {W : World} {fuel : Nat} {v : Value} {y : DataW H × List MemPlace} (h : DataW.trod enc Try.prog W 0 (fun _ => true) true fuel 35 [v] = some y) (hw : ∀ n ∈ y.1.weights Try.prog 35, n ≤ reachBytes) :
    ∃ (ab : Option Addr) (lb cb : Nat) (zs : List Int), v = .slice ab lb cb ∧ Src W ab lb zs ∧ lb ≤ 140737488355328 ∧ lb ≤ cb ∧ cb ≤ 9223372036854775807 ∧ (ab = none → lb = 0 ∧ cb = 0) := by
  have lt : ∀ x ∈ y.2, x.block < W.heap.size := DataW.trod_lt fuel _ _ _ h
  rcases open_ints Try.underlying35 Try.underlying5 (by kernel_rfl) h with ⟨hcs, _⟩ | ⟨x, l, c, zs, hcs, _, hl, hm, hz, hx, hcell, hwz⟩
  · simp at hcs
    subst hcs
    exact ⟨none, 0, 0, [], rfl, Src.nil _ _, by omega, Nat.le_refl _, by omega, fun _ => ⟨rfl, rfl⟩⟩
  · simp at hcs
    subst hcs
    subst hx
    simp only [if_true] at hz
    have hr := hw (((lits .u8 (zs.take l) : List (DataW H)).length + (lits .u8 (zs.drop l) : List (DataW H)).length) * Try.prog.bytesOf 5) (by
      rw [DataW.weights, Try.underlying35]; exact List.mem_cons_self)
    have hr2 : (lits .u8 (zs.take l) : List (DataW H)).length + (lits .u8 (zs.drop l) : List (DataW H)).length = zs.length := by simp [lits]; omega
    rw [bytes5, hr2] at hr
    unfold reachBytes at hr
    refine ⟨some x, l, c, zs.take l, rfl, ⟨by simp; omega, fun h0 => ?_⟩, by omega, hl, by unfold maxLen at hm; omega, fun h => by cases h⟩
    obtain ⟨b, off, spot⟩ := x
    have hspot : spot = none := by simpa [Addr.add] using World.cell?_spot (hcell 0 (by omega))
    subst hspot
    refine ⟨b, off, rfl, lt (.cell b off) (MemPlace.mem_row.2 ⟨0, by omega, by simp⟩), fun j hj => ?_⟩
    rw [← add_plain, hcell j (by omega)]
    simp [List.getD, hj]

/-- Numbers within a datum. -/
theorem open_innerK {H : Type} {enc : TypeId × Value → H} {W : World} {fuel : Nat} {v : Value} {y : DataW H × List MemPlace} (h : DataW.trod enc Try.prog W 0 (fun _ => true) true fuel 36 [v] = some y) (hw : ∀ n ∈ y.1.weights Try.prog 36, n ≤ reachBytes) :
    ∃ (ab : Option Addr) (lb cb : Nat) (zs : List Int), v = .slice ab lb cb ∧ IntsZ W ab zs ∧ zs.length = lb ∧ lb ≤ 17592186044416 ∧ lb ≤ cb ∧ cb ≤ 9223372036854775807 ∧ (ab = none → lb = 0 ∧ cb = 0) := by
  have lt : ∀ x ∈ y.2, x.block < W.heap.size := DataW.trod_lt fuel _ _ _ h
  rcases open_ints Try.underlying36 Try.underlying3 (by kernel_rfl) h with ⟨hcs, _⟩ | ⟨x, l, c, zs, hcs, _, hl, hm, hz, hx, hcell, hwz⟩
  · simp at hcs
    subst hcs
    exact ⟨none, 0, 0, [], rfl, fun h => by simp at h, rfl, by omega, Nat.le_refl _, by omega, fun _ => ⟨rfl, rfl⟩⟩
  · simp at hcs
    subst hcs
    subst hx
    simp only [if_true] at hz
    have hr := hw (((lits .i64 (zs.take l) : List (DataW H)).length + (lits .i64 (zs.drop l) : List (DataW H)).length) * Try.prog.bytesOf 3) (by
      rw [DataW.weights, Try.underlying36]; exact List.mem_cons_self)
    have hr2 : (lits .i64 (zs.take l) : List (DataW H)).length + (lits .i64 (zs.drop l) : List (DataW H)).length = zs.length := by simp [lits]; omega
    rw [bytes3, hr2] at hr
    unfold reachBytes at hr
    refine ⟨some x, l, c, zs.take l, rfl, fun h0 => ?_, by simp; omega, by omega, hl, by unfold maxLen at hm; omega, fun h => by cases h⟩
    have h0' : 0 < l := by simp at h0; omega
    obtain ⟨b, off, spot⟩ := x
    have hspot : spot = none := by simpa [Addr.add] using World.cell?_spot (hcell 0 (by omega))
    subst hspot
    refine ⟨b, off, rfl, lt (.cell b off) (MemPlace.mem_row.2 ⟨0, by omega, by simp⟩), fun j hj => ?_⟩
    have hj' : j < l := by simp at hj; omega
    rw [← add_plain, hcell j (by omega)]
    simp [List.getD, show j < zs.length by omega]

theorem weightsAll_mem {H : Type} {P : Program} {e : TypeId} : ∀ {l : List (DataW H)} {d : DataW H} {n : Nat}, d ∈ l → n ∈ d.weights P e → n ∈ DataW.weightsAll P e l
  | d0 :: l, d, n, hd, hn => by
    rw [DataW.weightsAll, List.mem_append]
    rcases List.mem_cons.1 hd with rfl | hd
    · exact .inl hn
    · exact .inr (weightsAll_mem hd hn)

set_option maxRecDepth 20000 in
theorem open_dos {H : Type} {enc : TypeId × Value → H} {W : World} {al : Option Addr} {ll cl : Nat} {d : DataW H} {p : List MemPlace}
    (h : DataW.Trod enc Try.prog W 0 (fun _ => true) true 22 (.slice al ll cl) d p) (hw : ∀ n ∈ d.weights Try.prog 22, n ≤ reachBytes) :
    Dos2 W al ll ∧ ll ≤ cl ∧ cl ≤ 9223372036854775807 ∧ ll ≤ 1780000000000 := by
  have lt : ∀ x ∈ p, x.block < W.heap.size := by obtain ⟨m, hm⟩ := h; exact DataW.trod_lt m _ _ _ hm
  obtain ⟨fuel, hf⟩ := h
  rcases Deep.open_slice Try.underlying22 hf with ⟨hcs, _⟩ | ⟨a, l, c, m, n, D, Pl, hcs, _, hl, hm, hmm, hx, hv⟩
  · simp [Value.cells] at hcs
    obtain ⟨rfl, rfl, rfl⟩ := hcs
    exact ⟨fun h => absurd h (Nat.lt_irrefl 0), Nat.le_refl _, by omega, by omega⟩
  · simp [Value.cells] at hcs
    obtain ⟨rfl, rfl, rfl⟩ := hcs
    simp only [Prod.mk.injEq] at hx
    obtain ⟨rfl, rfl⟩ := hx
    simp only [if_true] at hmm
    have hll : ll ≤ 1780000000000 := by
      have hr := hw _ (by rw [DataW.weights, Try.underlying22]; exact List.mem_cons_self)
      rw [bytesDo] at hr
      unfold reachBytes at hr
      simp at hr
      omega
    have hD : ∀ i, i < ll → ∀ n ∈ (D i).weights Try.prog 38, n ≤ reachBytes := fun i hi n hn => hw n (by
      simp only [DataW.weights, Try.underlying22, List.mem_cons, List.mem_append]
      exact .inr (.inl (weightsAll_mem (List.mem_map.2 ⟨i, List.mem_range.2 hi, rfl⟩) hn)))
    have each : ∀ i, i < ll → ∃ (x0 x1 x2 x3 : Int) (ab kb : Option Addr) (lb cb nk ck : Nat) (bz kz : List Int), W.cell? (a.add (i * 6)) = some (.int .i64 x0) ∧ W.cell? (a.add (i * 6 + 1)) = some (.int .i64 x1) ∧ W.cell? (a.add (i * 6 + 2)) = some (.int .i64 x2) ∧ W.cell? (a.add (i * 6 + 3)) = some (.int .i64 x3) ∧
        W.cell? (a.add (i * 6 + 4)) = some (.slice ab lb cb) ∧ W.cell? (a.add (i * 6 + 5)) = some (.slice kb nk ck) ∧
        (-9223372036854775808 ≤ x0 ∧ x0 ≤ 9223372036854775807) ∧ x3 ≤ 9223372036854775807 ∧ Src W ab lb bz ∧ lb ≤ 140737488355328 ∧ lb ≤ cb ∧ cb ≤ 9223372036854775807 ∧ (ab = none → lb = 0 ∧ cb = 0) ∧ IntsZ W kb kz ∧ kz.length = nk ∧ nk ≤ 17592186044416 ∧ nk ≤ ck ∧ ck ≤ 9223372036854775807 ∧ (kb = none → nk = 0 ∧ ck = 0) := by
      intro i hi
      obtain ⟨cs', h1, h2⟩ := hv i (by omega)
      rw [cellsDo] at h1
      obtain ⟨_, hlen, hcell⟩ := World.cells?_some h1
      have hDi := hD i hi
      obtain ⟨xs, k, hk, hxy, _, hxl, hf⟩ := DataW.trod_struct Try.underlying38 h2
      match xs, hxl, cs', hlen with
      | [y0, y1, y2, y3, y4, y5], _, [v0, v1, v2, v3, v4, v5], _ =>
        have g0 := hf 0 _ rfl
        have g1 := hf 1 _ rfl
        have g2 := hf 2 _ rfl
        have g3 := hf 3 _ rfl
        have g4 := hf 4 _ rfl
        have g5 := hf 5 _ rfl
        have c3 : Try.prog.cellsOf 3 = 1 := by kernel_rfl
        have cb : Try.prog.cellsOf 35 = 1 := by kernel_rfl
        have ck : Try.prog.cellsOf 36 = 1 := by kernel_rfl
        simp [c3, cb, ck] at g0 g1 g2 g3 g4 g5
        have e0 := hcell 0 (by omega)
        have e1 := hcell 1 (by omega)
        have e2 := hcell 2 (by omega)
        have e3 := hcell 3 (by omega)
        have e4 := hcell 4 (by omega)
        have e5 := hcell 5 (by omega)
        rw [Deep.add_add] at e0 e1 e2 e3 e4 e5
        obtain ⟨x0, r0, _, w0⟩ := DataW.trod_int Try.underlying3 g0
        obtain ⟨x1, r1, _, w1⟩ := DataW.trod_int Try.underlying3 g1
        obtain ⟨x2, r2, _, w2⟩ := DataW.trod_int Try.underlying3 g2
        obtain ⟨x3, r3, _, w3⟩ := DataW.trod_int Try.underlying3 g3
        simp at r0 r1 r2 r3
        simp only [Prod.mk.injEq] at hxy
        rw [hxy.1] at hDi
        obtain ⟨ab, lb, cb', bz, r4, q1, q2, q3, q4, q5⟩ := open_inner g4 (fun n hn => hDi n (by
          simp [DataW.weights, Try.underlying38, DataW.weightsEach]
          simp [hn]))
        obtain ⟨kb, nk, ck', kz, r5, s1, s2, s3, s4, s5, s6⟩ := open_innerK g5 (fun n hn => hDi n (by
          simp [DataW.weights, Try.underlying38, DataW.weightsEach]
          simp [hn]))
        subst r0; subst r1; subst r2; subst r3; subst r4; subst r5
        exact ⟨x0, x1, x2, x3, ab, kb, lb, cb', nk, ck', bz, kz, by simpa using e0, by simpa using e1, by simpa using e2, by simpa using e3, by simpa using e4, by simpa using e5, bounds_i64 w0, (bounds_i64 w3).2, q1, q2, q3, q4, q5, s1, s2, s3, s4, s5, s6⟩
    refine ⟨fun h0 => ?_, hl, by unfold maxLen at hm; omega, hll⟩
    obtain ⟨b, o, spot⟩ := a
    have hspot : spot = none := by
      obtain ⟨x0, _, _, _, _, _, _, _, _, _, _, _, h1, _⟩ := each 0 h0
      simpa [Addr.add] using World.cell?_spot h1
    subst hspot
    refine ⟨b, o, rfl, lt (.cell b o) (List.mem_append.2 (.inl (MemPlace.mem_row.2 ⟨0, by rw [cellsDo]; omega, by simp⟩))), fun i hi => ?_⟩
    obtain ⟨x0, x1, x2, x3, ab, kb, lb, cb, nk, ck, bz, kz, h0, h1, h2, h3, h4, h5, rest⟩ := each i hi
    rw [add_plain] at h0 h1 h2 h3 h4 h5
    exact ⟨x0, x1, x2, x3, ab, kb, lb, cb, nk, ck, bz, kz, ⟨h0, h1, h2, h3, h4, h5⟩, rest⟩

end Go.Proofs.Ytcophmafkpbdaaa
