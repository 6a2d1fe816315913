/- Texts of this seat, merged. -/
import Derived.Test.YtoknhcjneliboaaGreatFMg15
import Derived.Test.YtoknhcjneliboaaGreatFMg16
import Derived.Test.YtoknhcjneliboaaGreatFMg17
import Derived.Test.YtoknhcjneliboaaGreatFMg18
import Derived.Test.YtoknhcjneliboaaGreatFMg19
import Derived.Test.YtoknhcjneliboaaGreatFMg21
import Derived.Deep.RegionHeld3
import Derived.Test.YtoknhcjneliboaaGreatFMg6
import Derived.Deep.DeepCutAuto
import Derived.Deep.CutBlock

/- What is below, from the document's table: its file system's calls, its pipes'. -/
namespace Go.Proofs.YtoknhcjneliboaaGreat
open Go.RowKit Go.ChangeMaps Go.MapKept
set_option linter.unusedVariables false
set_option maxRecDepth 20000

section
variable {w : World} {x g s q : Nat} {Dn Dp : Nat → Prop} {T : Ft}
theorem Rs.hold (H : Rs w x g s q Dn Dp T) (hF : FOk T.F) (n : Int) :
    Calls Tryz.prog 60 #[.pointer (some ⟨s, 0, none⟩), .int .i64 n] w fun e w' => e = .returned (.int .i64 (T.F.hold n).2) ∧ NfTo w s (T.F.hold n).1 Dn w' := by
  obtain ⟨gN, uN, V, hR, hD⟩ := H.nf
  refine (rhold_any s gN uN V T.F w hR hF n).mono ?_
  rintro e w' ⟨rfl, h⟩
  exact ⟨rfl, NfTo.of hD h⟩
theorem Rs.drop (H : Rs w x g s q Dn Dp T) (hF : FOk T.F) (n : Int) :
    Calls Tryz.prog 71 #[.pointer (some ⟨s, 0, none⟩), .int .i64 n] w fun e w' => e = .returned (.int .i64 (T.F.drop n).2) ∧ NfTo w s (T.F.drop n).1 Dn w' := by
  obtain ⟨gN, uN, V, hR, hD⟩ := H.nf
  refine (rdrop_any s gN uN V T.F w hR hF n).mono ?_
  rintro e w' ⟨rfl, h⟩
  exact ⟨rfl, NfTo.of hD h⟩
theorem Rs.stat (H : Rs w x g s q Dn Dp T) (hF : FOk T.F) (n : Int) :
    Calls Tryz.prog 58 #[.pointer (some ⟨s, 0, none⟩), .int .i64 n] w fun e w' => e = .returned (.tuple #[.agg #[.int .i64 (T.F.stat n).1, .int .i64 (T.F.stat n).2.1, .int .i64 (T.F.stat n).2.2.1], .int .i64 (T.F.stat n).2.2.2]) ∧ Below w.heap.size w w' := by
  obtain ⟨gN, uN, V, hR, hD⟩ := H.nf
  exact rstat_any s gN uN V T.F w hR hF n
theorem Rs.resize (H : Rs w x g s q Dn Dp T) (hF : FOk T.F) (n z : Int) (hz : z ≤ 9223372036854775807) :
    Calls Tryz.prog 59 #[.pointer (some ⟨s, 0, none⟩), .int .i64 n, .int .i64 z] w fun e w' => e = .returned (.int .i64 (T.F.resize n z).2) ∧ NfTo w s (T.F.resize n z).1 Dn w' := by
  obtain ⟨gN, uN, V, hR, hD⟩ := H.nf
  refine (rresize_any s gN uN V T.F w hR hF n z hz).mono ?_
  rintro e w' ⟨rfl, h⟩
  exact ⟨rfl, NfTo.of hD h⟩
theorem Rs.nread (H : Rs w x g s q Dn Dp T) (hF : FOk T.F) (n off cnt : Int) (ho : off ≤ 9223372036854775807) (hc : cnt ≤ 9223372036854775807) :
    Calls Tryz.prog 67 #[.pointer (some ⟨s, 0, none⟩), .int .i64 n, .int .i64 off, .int .i64 cnt] w fun e w' => (∃ v, e = .returned (.tuple #[v, .int .i64 (T.F.read n off cnt).2]) ∧ w'.ownsRow w.heap.size 5 1 v (T.F.read n off cnt).1.length ((T.F.read n off cnt).1.map (Value.int .u8))) ∧ Below w.heap.size w w' := by
  obtain ⟨gN, uN, V, hR, hD⟩ := H.nf
  exact rread_any s gN uN V T.F w hR hF n off cnt ho hc
theorem Rs.nwrite (H : Rs w x g s q Dn Dp T) (hF : FOk T.F) (n off : Int) (a0 : Option Addr) (lb cb : Nat) (bs : List Int) (hsrc : Src w a0 lb bs) (ha : 0 < lb → ∀ b o, a0 = some ⟨b, o, none⟩ → ¬ Dn b) (hcb : lb ≤ cb) (hl : lb ≤ 9223372036854775807) (hof : off ≤ 9223372036854775807) :
    Calls Tryz.prog 69 #[.pointer (some ⟨s, 0, none⟩), .int .i64 n, .int .i64 off, .slice a0 lb cb] w fun e w' => e = .returned (.tuple #[.int .i64 (T.F.write n off bs).2.1, .int .i64 (T.F.write n off bs).2.2]) ∧ NfTo w s (T.F.write n off bs).1 Dn w' := by
  obtain ⟨gN, uN, V, hR, hD⟩ := H.nf
  rcases Nat.eq_zero_or_pos lb with h0 | h0
  · refine (rwrite_no s gN uN V T.F w hR n off a0 lb cb bs hsrc.1 (.inr (.inr (.inl h0))) hl hof).mono ?_
    rintro e w' ⟨he, h1, h3⟩
    refine ⟨he, ?_⟩
    rw [h1]
    have hN : Nf w s T.F Dn := ⟨gN, uN, V, hR, hD⟩
    exact ⟨(hN.upd (Upd.of_below (F := fun _ => False) h3) (fun _ _ _ h => h)).mono (fun _ _ h => .inl h), Upd.of_below h3⟩
  refine (rwrite_any s gN uN V T.F w hR hF n off a0 lb cb bs hsrc (fun b o e h => ha h0 b o e (hD b h)) hcb hl hof).mono ?_
  rintro e w' ⟨rfl, h⟩
  exact ⟨rfl, NfTo.of hD h⟩
theorem Rs.unlink (H : Rs w x g s q Dn Dp T) (hF : FOk T.F) (hl : ∀ i, (T.F.P i).l ≤ 1000000) (l : ByteArray) (hs : l.size ≤ 1048576) :
    Calls Tryz.prog 75 #[.pointer (some ⟨s, 0, none⟩), .string l] w fun e w' => e = .returned (.int .i64 (T.F.unlink (bl l)).2) ∧ NfTo w s (T.F.unlink (bl l)).1 Dn w' := by
  obtain ⟨gN, uN, V, hR, hD⟩ := H.nf
  refine (runlink_any s gN uN V T.F w hR hF hl l hs).mono ?_
  rintro e w' ⟨rfl, h⟩
  exact ⟨rfl, NfTo.of hD h⟩
theorem Rs.rmdir (H : Rs w x g s q Dn Dp T) (hF : FOk T.F) (hl : ∀ i, (T.F.P i).l ≤ 1000000) (l : ByteArray) (hs : l.size ≤ 1048576) :
    Calls Tryz.prog 77 #[.pointer (some ⟨s, 0, none⟩), .string l] w fun e w' => e = .returned (.int .i64 (T.F.rmdir (bl l)).2) ∧ NfTo w s (T.F.rmdir (bl l)).1 Dn w' := by
  obtain ⟨gN, uN, V, hR, hD⟩ := H.nf
  refine (rrmdir_any s gN uN V T.F w hR hF hl l hs).mono ?_
  rintro e w' ⟨rfl, h⟩
  exact ⟨rfl, NfTo.of hD h⟩
theorem Rs.link (H : Rs w x g s q Dn Dp T) (hF : FOk T.F) (hl : ∀ i, (T.F.P i).l ≤ 1000000) (l l2 : ByteArray) (hs : l.size ≤ 1048576) (hs2 : l2.size ≤ 1048576) :
    Calls Tryz.prog 78 #[.pointer (some ⟨s, 0, none⟩), .string l, .string l2] w fun e w' => e = .returned (.int .i64 (T.F.link (bl l) (bl l2)).2) ∧ NfTo w s (T.F.link (bl l) (bl l2)).1 Dn w' := by
  obtain ⟨gN, uN, V, hR, hD⟩ := H.nf
  refine (rlink_any s gN uN V T.F w hR hF hl l l2 hs hs2).mono ?_
  rintro e w' ⟨rfl, h⟩
  exact ⟨rfl, NfTo.of hD h⟩
theorem Rs.rename (H : Rs w x g s q Dn Dp T) (hF : FOk T.F) (hl : ∀ i, (T.F.P i).l ≤ 1000000) (l l2 : ByteArray) (hs : l.size ≤ 1048576) (hs2 : l2.size ≤ 1048576) :
    Calls Tryz.prog 79 #[.pointer (some ⟨s, 0, none⟩), .string l, .string l2] w fun e w' => e = .returned (.int .i64 (T.F.rename (bl l) (bl l2)).2) ∧ NfTo w s (T.F.rename (bl l) (bl l2)).1 Dn w' := by
  obtain ⟨gN, uN, V, hR, hD⟩ := H.nf
  refine (rrename_any s gN uN V T.F w hR hF hl l l2 hs hs2).mono ?_
  rintro e w' ⟨rfl, h⟩
  exact ⟨rfl, NfTo.of hD h⟩

theorem TOk.r1 (H : TOk T) (n : Nat) : (T.P n).r ≤ 1000 ∧ (T.P n).w ≤ 1000 := by
  have h1 := H.r n
  have h2 := (H.pq n).2.1
  have h3 : cF T.O 2 n ≤ 11 := by
    unfold cF
    have := List.countP_le_length (p := fun i => decide ((T.O i).h ≠ 0 ∧ (T.O i).k = 2 ∧ (T.O i).of = (n : Int))) (l := List.range 11)
    rwa [List.length_range] at this
  omega
theorem Rs.pmake (H : Rs w x g s q Dn Dp T) :
    Calls Tryz.prog 62 #[.pointer (some ⟨q, 0, none⟩)] w fun e w' => e = .returned (.tuple #[.int .i64 (Pi.lowest T.P : Int), .int .i64 (Pi.makeE T.P)]) ∧ PdTo w q T.F.d (Pi.makeP T.P) Dp w' := by
  obtain ⟨B, gq, A, hR, hD⟩ := H.pd
  refine (Pi.rmake_any B q gq T.F.d A T.P w hR).mono ?_
  rintro e w' ⟨rfl, h, u⟩
  exact ⟨rfl, PdTo.own hD h u⟩
theorem Rs.pdrop (H : Rs w x g s q Dn Dp T) (hT : TOk T) (n : Int) (b : Bool) :
    Calls Tryz.prog 72 #[.pointer (some ⟨q, 0, none⟩), .int .i64 n, .bool b] w fun e w' => e = .returned (.int .i64 (Pi.dropE T.P n b)) ∧ PdTo w q T.F.d (Pi.dropP T.kp T.P n b) Dp w' := by
  obtain ⟨B, gq, A, hR, hD⟩ := H.pd
  refine (Pi.rdrop_any B q gq n T.F.d b A T.P w hR (fun i _ => hT.r1 i)).mono ?_
  rintro e w' ⟨rfl, h, u⟩
  exact ⟨rfl, PdTo.own hD h u⟩
theorem Rs.pread (H : Rs w x g s q Dn Dp T) (hT : TOk T) (n c : Int) :
    Calls Tryz.prog 66 #[.pointer (some ⟨q, 0, none⟩), .int .i64 n, .int .i64 c] w fun e w' => (∃ a c', e = .returned (.tuple #[.slice a (Pi.readL T.P n c).length c', .bool (Pi.readW T.P n c), .int .i64 (Pi.readE T.P n c)]) ∧ Src w' a (Pi.readL T.P n c).length (Pi.readL T.P n c)) ∧ PdTo w q T.F.d (Pi.readP T.P n c) Dp w' := by
  obtain ⟨B, gq, A, hR, hD⟩ := H.pd
  refine (Pi.rread_any B q gq n c T.F.d A T.P w hR (Nat.le_trans hR.geq (Nat.le_of_lt hR.qlt)) (fun i _ => (hT.pq i).1)).mono ?_
  rintro e w' ⟨a, c', rfl, h, u⟩
  exact ⟨⟨a, c', rfl, h⟩, PdTo.left hD u⟩
theorem Rs.pwrite (H : Rs w x g s q Dn Dp T) (hT : TOk T) (n : Int) (ab : Option Addr) (len cap : Nat) (zs : List Int) (hs : Src w ab len zs) (hlc : len ≤ cap) (hl : len ≤ 140737488355328) :
    Calls Tryz.prog 68 #[.pointer (some ⟨q, 0, none⟩), .int .i64 n, .slice ab len cap] w fun e w' => e = .returned (.tuple #[.int .i64 (Pi.writeN T.P n len), .bool (Pi.writeW T.P n len), .int .i64 (Pi.writeE T.P n)]) ∧ PdTo w q T.F.d (Pi.writeP T.P n zs) Dp w' := by
  obtain ⟨B, gq, A, hR, hD⟩ := H.pd
  refine (Pi.rwrite_any B q gq len cap n T.F.d ab zs A T.P w hR (Nat.le_trans hR.geq (Nat.le_of_lt hR.qlt)) (fun i _ => (hT.pq i).1) hs hlc hl).mono ?_
  rintro e w' ⟨rfl, u⟩
  exact ⟨rfl, PdTo.left hD u⟩
end

end Go.Proofs.YtoknhcjneliboaaGreat

/- What a look of a file system tells, as it lies; a node of it under way. -/
namespace Go.Proofs.YtoknhcjneliboaaGreat
open Go.RowKit
set_option linter.unusedVariables false
set_option maxRecDepth 20000

theorem csizeNd : (Tryz.prog.info? 47).map (·.size) = some 8 := by kernel_rfl
theorem infoNd : (Tryz.prog.info? 47).map (fun i => (i.zero, i.size, i.bytes)) = some (some (.agg #[.int .i64 0, .int .i64 0, .int .i64 0, .int .i64 0, .int .i64 0, .slice none 0 0, .slice none 0 0, .slice none 0 0]), 8, 112) := by kernel_rfl
theorem infoStr : (Tryz.prog.info? 9).map (fun i => (i.zero, i.size, i.bytes)) = some (some (.string ⟨#[]⟩), 1, 16) := by kernel_rfl

def nmV (x : List UInt8 × Nat) : Value := .string (bs x.1)
def ndV (x : List UInt8 × Nat) : Value := natV x.2
/-- A node's cells. -/
def lkC (i : Nat) (y : Fn) (vB vN vM : Value) : List Value := [.int .i64 (i : Int), .int .i64 y.k, .int .i64 y.l, .int .i64 ((y.c.length : Int) + (y.Q.length : Int)), .int .i64 y.h, vB, vN, vM]

/-- A node under way: its box, its three lists. -/
structure LkS (w : World) (B p i : Nat) (y : Fn) (a b : Nat) (vB vN vM : Value) : Prop where
  box : w.heap[p]? = some (.cells (lkC i y vB vN vM).toArray 47 (0, 0))
  rB : w.ownsRow 0 3 1 vB y.B.length (y.B.map natV)
  rN : w.ownsRow 0 9 1 vN a ((y.Q.take a).map nmV)
  rM : w.ownsRow 0 3 1 vM b ((y.Q.take b).map ndV)
  np : B ≤ p
  nB : ∀ c, vB.ownBlock = some c → B ≤ c ∧ c ≠ p
  nN : ∀ c, vN.ownBlock = some c → B ≤ c ∧ c ≠ p
  nM : ∀ c, vM.ownBlock = some c → B ≤ c ∧ c ≠ p
  aBN : ∀ c, vB.ownBlock = some c → vN.ownBlock ≠ some c
  aBM : ∀ c, vB.ownBlock = some c → vM.ownBlock ≠ some c
  aNM : ∀ c, vN.ownBlock = some c → vM.ownBlock ≠ some c

section
variable {w W w' : World} {B p i a b : Nat} {y : Fn} {vB vN vM v' : Value}
theorem LkS.lt (h : LkS w B p i y a b vB vN vM) : p < w.heap.size := (Array.getElem?_eq_some_iff.1 h.box).1
theorem LkS.upd {U : Nat → Prop} (h : LkS w B p i y a b vB vN vM) (u : Upd U w w') (hU : ∀ c, c < w.heap.size → B ≤ c → ¬ U c) : LkS w' B p i y a b vB vN vM :=
  ⟨u.heap h.box (hU p h.lt h.np), u.own h.rB (fun c hc => hU c (h.rB.lt c hc).2 (h.nB c hc).1), u.own h.rN (fun c hc => hU c (h.rN.lt c hc).2 (h.nN c hc).1), u.own h.rM (fun c hc => hU c (h.rM.lt c hc).2 (h.nM c hc).1), h.np, h.nB, h.nN, h.nM, h.aBN, h.aBM, h.aNM⟩
theorem LkS.grow (h : LkS w B p i y a b vB vN vM) (u : Below w.heap.size w w') : LkS w' B p i y a b vB vN vM := h.upd (Upd.of_below (F := fun _ => False) u) (fun _ _ _ h => h)

theorem set6 {w : World} {p : Nat} {i : Nat} {y : Fn} {vB vN vM : Value} (h : w.heap[p]? = some (.cells (lkC i y vB vN vM).toArray 47 (0, 0))) (v : Value) : (w.setCell ⟨p, 6, none⟩ v).heap[p]? = some (.cells (lkC i y vB v vM).toArray 47 (0, 0)) := heap_setCell_same w p 6 _ _ v h
theorem set7 {w : World} {p : Nat} {i : Nat} {y : Fn} {vB vN vM : Value} (h : w.heap[p]? = some (.cells (lkC i y vB vN vM).toArray 47 (0, 0))) (v : Value) : (w.setCell ⟨p, 7, none⟩ v).heap[p]? = some (.cells (lkC i y vB vN v).toArray 47 (0, 0)) := heap_setCell_same w p 7 _ _ v h
theorem set5 {w : World} {p : Nat} {i : Nat} {y : Fn} {vB vN vM : Value} (h : w.heap[p]? = some (.cells (lkC i y vB vN vM).toArray 47 (0, 0))) (v : Value) : (w.setCell ⟨p, 5, none⟩ v).heap[p]? = some (.cells (lkC i y v vN vM).toArray 47 (0, 0)) := heap_setCell_same w p 5 _ _ v h

theorem LkS.name (h : LkS w B p i y a b vB vN vM) (hb : Below w.heap.size w W) (hO : w'.ownsRow 0 9 1 v' (a + 1) ((y.Q.take (a + 1)).map nmV)) (hU : Upd (fun c => vN.ownBlock = some c) W w') (hW : v'.ownBlock = vN.ownBlock ∨ ∀ c, v'.ownBlock = some c → W.heap.size ≤ c) : LkS (w'.setCell ⟨p, 6, none⟩ v') B p i y (a + 1) b vB v' vM := by
  have hs := hb.size
  have hu : Upd (fun c => vN.ownBlock = some c) w w' := (Upd.of_below hb).trans hU (fun b _ h => h)
  have hst : Upd (· = p) w' (w'.setCell ⟨p, 6, none⟩ v') := Upd.setCell w' ⟨p, 6, none⟩ v' rfl
  have hv : ∀ c, v'.ownBlock = some c → B ≤ c ∧ c ≠ p ∧ (vB.ownBlock ≠ some c) ∧ vM.ownBlock ≠ some c := fun c hc => by
    rcases hW with q | q
    · rw [q] at hc
      exact ⟨(h.nN c hc).1, (h.nN c hc).2, fun e => h.aBN c e hc, h.aNM c hc⟩
    · have := q c hc
      have hp := h.lt
      have hnp := h.np
      exact ⟨by omega, by omega, fun e => by have := (h.rB.lt c e).2; omega, fun e => by have := (h.rM.lt c e).2; omega⟩
  exact ⟨set6 (hu.heap h.box (fun e => (h.nN p e).2 rfl)) v', hst.own (hu.own h.rB (fun c hc e => h.aBN c hc e)) (fun c hc => (h.nB c hc).2), hst.own hO (fun c hc => (hv c hc).2.1), hst.own (hu.own h.rM (fun c hc e => h.aNM c e hc)) (fun c hc => (h.nM c hc).2), h.np, h.nB, fun c hc => ⟨(hv c hc).1, (hv c hc).2.1⟩, h.nM,
    fun c hc e => (hv c e).2.2.1 hc, h.aBM, fun c hc => (hv c hc).2.2.2⟩
theorem LkS.node (h : LkS w B p i y a b vB vN vM) (hb : Below w.heap.size w W) (hO : w'.ownsRow 0 3 1 v' (b + 1) ((y.Q.take (b + 1)).map ndV)) (hU : Upd (fun c => vM.ownBlock = some c) W w') (hW : v'.ownBlock = vM.ownBlock ∨ ∀ c, v'.ownBlock = some c → W.heap.size ≤ c) : LkS (w'.setCell ⟨p, 7, none⟩ v') B p i y a (b + 1) vB vN v' := by
  have hs := hb.size
  have hu : Upd (fun c => vM.ownBlock = some c) w w' := (Upd.of_below hb).trans hU (fun b _ h => h)
  have hst : Upd (· = p) w' (w'.setCell ⟨p, 7, none⟩ v') := Upd.setCell w' ⟨p, 7, none⟩ v' rfl
  have hv : ∀ c, v'.ownBlock = some c → B ≤ c ∧ c ≠ p ∧ (vB.ownBlock ≠ some c) ∧ vN.ownBlock ≠ some c := fun c hc => by
    rcases hW with q | q
    · rw [q] at hc
      exact ⟨(h.nM c hc).1, (h.nM c hc).2, fun e => h.aBM c e hc, fun e => h.aNM c e hc⟩
    · have := q c hc
      have hp := h.lt
      have hnp := h.np
      exact ⟨by omega, by omega, fun e => by have := (h.rB.lt c e).2; omega, fun e => by have := (h.rN.lt c e).2; omega⟩
  exact ⟨set7 (hu.heap h.box (fun e => (h.nM p e).2 rfl)) v', hst.own (hu.own h.rB (fun c hc e => h.aBM c hc e)) (fun c hc => (h.nB c hc).2), hst.own (hu.own h.rN (fun c hc e => h.aNM c hc e)) (fun c hc => (h.nN c hc).2), hst.own hO (fun c hc => (hv c hc).2.1), h.np, h.nB, h.nN, fun c hc => ⟨(hv c hc).1, (hv c hc).2.1⟩,
    h.aBN, fun c hc e => (hv c e).2.2.1 hc, fun c hc e => (hv c e).2.2.2 hc⟩
end

/-- A node as it is told, its lists in blocks of which G is true. -/
def LkN (w : World) (G : Nat → Prop) (i : Nat) (y : Fn) (c : List Value) : Prop :=
  ∃ vB vN vM, c = lkC i y vB vN vM ∧ w.ownsRow 0 3 1 vB y.B.length (y.B.map natV) ∧ w.ownsRow 0 9 1 vN y.Q.length (y.Q.map nmV) ∧ w.ownsRow 0 3 1 vM y.Q.length (y.Q.map ndV) ∧ ∀ b, vB.ownBlock = some b ∨ vN.ownBlock = some b ∨ vM.ownBlock = some b → G b
theorem LkN.upd {U G G' : Nat → Prop} {w w' : World} {i : Nat} {y : Fn} {c : List Value} (h : LkN w G i y c) (u : Upd U w w') (hU : ∀ b, b < w.heap.size → G b → ¬ U b) (hG : ∀ b, b < w.heap.size → G b → G' b) : LkN w' G' i y c := by
  obtain ⟨vB, vN, vM, e, h1, h2, h3, h4⟩ := h
  refine ⟨vB, vN, vM, e, u.own h1 (fun b hb => hU b (h1.lt b hb).2 (h4 b (.inl hb))), u.own h2 (fun b hb => hU b (h2.lt b hb).2 (h4 b (.inr (.inl hb)))), u.own h3 (fun b hb => hU b (h3.lt b hb).2 (h4 b (.inr (.inr hb)))), fun b hb => ?_⟩
  refine hG b ?_ (h4 b hb)
  rcases hb with q | q | q
  · exact (h1.lt b q).2
  · exact (h2.lt b q).2
  · exact (h3.lt b q).2
theorem LkS.done {w : World} {B p i n : Nat} {y : Fn} {vB vN vM : Value} (h : LkS w B p i y n n vB vN vM) (hn : n = y.Q.length) : LkN w (fun c => B ≤ c) i y (lkC i y vB vN vM) := by
  subst hn
  have h2 := h.rN
  have h3 := h.rM
  rw [List.take_length] at h2 h3
  refine ⟨vB, vN, vM, rfl, h.rB, h2, h3, fun b hb => ?_⟩
  rcases hb with q | q | q
  · exact (h.nB b q).1
  · exact (h.nN b q).1
  · exact (h.nM b q).1

/-- A list of nodes as they are told. -/
def LkL (w : World) (G : Nat → Prop) (F : Fs) : List Nat → List Value → Prop
  | [], cs => cs = []
  | i :: r, cs => ∃ c d, cs = c ++ d ∧ LkN w G i (F.P i) c ∧ LkL w G F r d
theorem LkL.upd {U G G' : Nat → Prop} {w w' : World} {F : Fs} (u : Upd U w w') (hU : ∀ b, b < w.heap.size → G b → ¬ U b) (hG : ∀ b, b < w.heap.size → G b → G' b) : ∀ {is : List Nat} {cs : List Value}, LkL w G F is cs → LkL w' G' F is cs
  | [], cs, h => h
  | i :: r, cs, ⟨c, d, e, h1, h2⟩ => ⟨c, d, e, h1.upd u hU hG, LkL.upd u hU hG h2⟩
theorem LkL.snoc {w : World} {G : Nat → Prop} {F : Fs} {j : Nat} {c : List Value} (hc : LkN w G j (F.P j) c) : ∀ {is : List Nat} {cs : List Value}, LkL w G F is cs → LkL w G F (is ++ [j]) (cs ++ c)
  | [], cs, h => ⟨c, [], by rw [show cs = [] from h]; simp, hc, rfl⟩
  | i :: r, cs, ⟨c', d, e, h1, h2⟩ => ⟨c', d ++ c, by rw [e, List.append_assoc], h1, LkL.snoc hc h2⟩
theorem LkL.len {w : World} {G : Nat → Prop} {F : Fs} : ∀ {is : List Nat} {cs : List Value}, LkL w G F is cs → cs.length = is.length * 8
  | [], cs, h => by rw [show cs = [] from h]; rfl
  | i :: r, cs, ⟨c, d, e, h1, h2⟩ => by
    obtain ⟨_, _, _, ec, _⟩ := h1
    rw [e, List.length_append, LkL.len h2, ec]
    simp [lkC]; omega

/-- The numbers of the nodes that are there, below a bound. -/
def thr (F : Fs) (n : Nat) : List Nat := (List.range n).filter (fun i => decide ((F.P i).k ≠ 0))
theorem thr_yes {F : Fs} {n : Nat} (h : (F.P n).k ≠ 0) : thr F (n + 1) = thr F n ++ [n] := range_snoc_yes _ n (by simpa using h)
theorem thr_no {F : Fs} {n : Nat} (h : (F.P n).k = 0) : thr F (n + 1) = thr F n := range_snoc_no _ n (by simpa using h)
theorem thr_len (F : Fs) (n : Nat) : (thr F n).length ≤ n := by
  have := List.length_filter_le (fun i => decide ((F.P i).k ≠ 0)) (List.range n)
  rw [List.length_range] at this
  exact this

theorem own_up {w : World} {B e sz n : Nat} {v : Value} {xs : List Value} (h : w.ownsRow 0 e sz v n xs) (hb : ∀ b, v.ownBlock = some b → B ≤ b) : w.ownsRow B e sz v n xs := by
  obtain ⟨h1, h2⟩ := h
  refine ⟨h1, ?_⟩
  rcases h2 with h2 | ⟨g, cap, cur, rfl, _, r⟩
  · exact .inl h2
  · exact .inr ⟨g, cap, cur, rfl, hb g rfl, r⟩
/-- As step_ints, with what turns and where the new row lies. -/
theorem step_ints2 {ops : Array Oper} {o : Oper} {a : Act} {w : World} {K : Act → World → Prop} {Q : Exit → Act → World → Prop} {E : Prop} (hg : o.guard = none) (d x : Operand)
    (hop : o.op = Op.call { callee := Callee.builtin Builtin.append, args := #[d, x], argTypes := #[44, 44] })
    (B : Nat) (v : Value) (hd : a.eval d = v) (hown : w.ownsRow B 3 1 v 0 []) (hB : B ≤ w.heap.size) (a0 : Option Addr) (m c : Nat) (zs : List Nat) (hx : a.eval x = .slice a0 m c) (hsrc : SrcN w a0 m zs) (hnil : a0 = none → c = 0) (hb : m ≤ 1000000)
    (hK : ∀ va vc w', Hid (w'.ownsRow B 3 1 (.slice va m vc) m (zs.map natV)) → Hid (Below B w w') → Hid (Upd (fun y => v.ownBlock = some y) w w') → Hid ((Value.slice va m vc).ownBlock = v.ownBlock ∨ ∀ y, (Value.slice va m vc).ownBlock = some y → w.heap.size ≤ y) → K (a.put o.dst (.slice va m vc)) w') :
    if Region.wanted o (yielded ops a.tmps) = true then Oper.wp Tryz.prog o a w K Q else E := by
  obtain ⟨i0, hi0, hz0, hz1, hz2⟩ := info_parts infoI3
  cases a0 with
  | none =>
    obtain rfl := hnil rfl
    obtain rfl : m = 0 := by
      rcases Nat.eq_zero_or_pos m with h | h
      · exact h
      · obtain ⟨_, _, e, _⟩ := hsrc.2 h; cases e
    obtain rfl : zs = [] := List.eq_nil_of_length_eq_zero hsrc.1
    have hrun := run_append_owned_none (P := Tryz.prog) (w := w) 0 44 o.type 3 i0 1 Tryz.underlying44 hi0 _ _ _ (own_mono hown (Nat.zero_le _))
    obtain ⟨va, vc, rfl, _⟩ := own_shp hown
    exact step_run hg d x 44 44 hop _ _ hd hx hrun (hK va vc w (hid hown) (hid (Below.refl _ _)) (hid (Upd.refl _ _)) (hid (.inl rfl)))
  | some ad =>
    have hnews : ∀ j u, (zs.map natV)[j]? = some u → w.cell? (ad.add j) = some u := fun j u hj => by
      rw [List.getElem?_map] at hj
      cases hz : zs[j]? with
      | none => rw [hz] at hj; simp at hj
      | some z =>
        rw [hz] at hj
        simp only [Option.map_some, Option.some.injEq] at hj
        obtain ⟨hjl, hje⟩ := List.getElem?_eq_some_iff.1 hz
        obtain ⟨q, o', e, hq, hc⟩ := hsrc.2 (by rw [← hsrc.1]; omega)
        injection e with e
        subst e
        rw [Addr.add_lit, hc j hjl, hje]
        exact congrArg some hj
    obtain ⟨v', w', hr, h2, h3, h4, h5⟩ := run_append_where (P := Tryz.prog) w 44 o.type 3 i0 _ 1 8 Tryz.underlying44 hi0 hz0 hz1 hz2 rfl (by decide) v 0 [] (own_mono hown (Nat.zero_le _)) ad m c (zs.map natV) (by rw [List.length_map, hsrc.1]; omega) hnews (fun u hu => by obtain ⟨z, _, rfl⟩ := List.mem_map.1 hu; rfl) (by unfold maxLen; omega) (by omega)
    rw [Nat.zero_add, List.nil_append] at h2
    obtain ⟨va, vc, rfl, _⟩ := own_shp h2
    have hnew : ∀ b, (Value.slice va m vc).ownBlock = some b → B ≤ b := fun b hb => by
      rcases h5 with q | q
      · rw [q] at hb; exact (hown.lt b hb).1
      · exact Nat.le_trans hB (q b hb)
    exact step_run hg d x 44 44 hop _ _ hd hx hr (hK va vc w' (hid (own_up h2 hnew)) (hid ((Below.refl B w).grown h3 hB (fun y hy => (hown.lt y hy).1))) (hid ((Upd.of_grown h3).mono fun y _ hy => hy.symm)) (hid h5))

/-- What Look tells. -/
def LooksP (w : World) (F : Fs) (e : Ending) (w' : World) : Prop := (∃ v cs, e = .returned v ∧ w'.ownsRow 0 47 8 v (thr F 17).length cs ∧ LkL w' (fun b => w.heap.size ≤ b) F (thr F 17) cs) ∧ Below w.heap.size w w'

/-- One node more on a list that is under way. -/
theorem LkL.more {w W w' : World} {B0 : Nat} {F : Fs} {j : Nat} {cs c : List Value} {v v' : Value} {is : List Nat} (h : LkL w (fun b => B0 ≤ b ∧ v.ownBlock ≠ some b) F is cs) (hv : w.ownsRow 0 47 8 v is.length cs) (hb : Below w.heap.size w W) (hc : LkN W (fun b => w.heap.size ≤ b) j (F.P j) c) (hB : B0 ≤ w.heap.size)
    (hU : Upd (fun b => v.ownBlock = some b) W w') (hW : v'.ownBlock = v.ownBlock ∨ ∀ b, v'.ownBlock = some b → W.heap.size ≤ b) : LkL w' (fun b => B0 ≤ b ∧ v'.ownBlock ≠ some b) F (is ++ [j]) (cs ++ c) := by
  have hs := hb.size
  refine LkL.snoc ?_ ?_
  · refine hc.upd hU (fun b hbW hG e => ?_) (fun b hbW hG => ⟨by omega, fun e => ?_⟩)
    · have := (hv.lt b e).2; omega
    · rcases hW with q | q
      · rw [q] at e; have := (hv.lt b e).2; omega
      · have := q b e; omega
  · refine LkL.upd ((Upd.of_below hb).trans hU (fun b _ h => h)) (fun b hbw hG e => hG.2 e) (fun b hbw hG => ⟨hG.1, fun e => ?_⟩) h
    rcases hW with q | q
    · rw [q] at e; exact hG.2 e
    · have := q b e; omega

end Go.Proofs.YtoknhcjneliboaaGreat

/- What Read of the document's open files does. -/
namespace Go.Proofs.YtoknhcjneliboaaGreat
open Go.RowKit Go.ChangeMaps Go.MapKept
set_option linter.unusedVariables false
set_option maxRecDepth 20000

theorem own_src8 {w : World} {B : Nat} {a : Option Addr} {n c : Nat} {zs : List Int} (h : w.ownsRow B 5 1 (.slice a n c) n (zs.map (Value.int .u8))) : Src w a n zs := by
  have hl : zs.length = n := by have := h.1; simpa using this
  rcases h.2 with ⟨e, h0⟩ | ⟨g, cap, cur, e, rest⟩
  · subst h0
    exact ⟨hl, fun h => absurd h (Nat.lt_irrefl 0)⟩
  · injection e with e1 e2 e3
    subst e1
    exact Src.own h

set_option maxHeartbeats 8000000 in
theorem tdread (w : World) (x : Nat) (T : Ft) (D : Nat → Prop) (HP : Td w x T D) (hT : TOk T) (n c : Int) (hc : c ≤ 9223372036854775807) :
    Calls Tryz.prog 22 #[.pointer (some ⟨x, 0, none⟩), .int .i64 n, .int .i64 c] w fun e w' => (∃ a c', e = .returned (.tuple #[.slice a (T.read n c).2.1.length c', .bool (T.read n c).2.2.1, .int .i64 (T.read n c).2.2.2]) ∧ Src w' a (T.read n c).2.1.length (T.read n c).2.1) ∧ TdTo w x (T.read n c).1 D w' := by
  have HP0 := HP
  obtain ⟨g, s, q, Dn, Dp, H, hD⟩ := HP
  have k0 := hid (r8there w x g s q Dn Dp T H hT n)
  unfold Ft.read Ft.has
  cases hh : T.there n
  · rw [hh] at k0
    rw [if_pos (by simp)]
    have HQ := hid (TdTo.same HP0 (Below.refl _ w))
    clear H hD HP0 hT hh
    dsimp only
    go_enter Tryz.func22, Tryz.ntmps22
    go_wp2_with fail
    refine k0.out.mono ?_
    rintro e w1 ⟨rfl, rfl⟩
    clear k0
    go_wp2_with fail
    go_ret3
    exact ⟨⟨_, _, rfl, Src.nil _ _⟩, HQ.out⟩
  rw [hh] at k0
  obtain ⟨i, rfl, h1, hi, h0⟩ := Ft.there_lt hh
  rw [Int.toNat_natCast]
  have cl := H.cl
  have c0 := H.gf.c0 i hi
  have c1 := H.gf.c1 i hi
  have c2 := H.gf.c2 i hi
  have c3 := H.gf.c3 i hi
  have i1 : (0 : Int) ≤ (i : Int) := by omega
  have i2 : (i : Int) < 11 := by omega
  cases h3 : dfc (T.O i).fl 1
  · rw [if_pos (by simp)]
    obtain ⟨b1, b2⟩ := ddfc_f h3
    have HQ := hid (TdTo.same HP0 (Below.refl _ w))
    clear H hD HP0 hT hh h3 h0
    generalize (T.O i).fl = fl at c3 b1 b2
    dsimp only
    go_enter Tryz.func22, Tryz.ntmps22
    go_wp2_with fail
    refine k0.out.mono ?_
    rintro e w1 ⟨rfl, rfl⟩
    clear k0
    go_wp2_with fail
    go_ret3
    exact ⟨⟨_, _, rfl, Src.nil _ _⟩, HQ.out⟩
  rw [if_neg (by simp)]
  obtain ⟨b1, b2⟩ := ddfc_t h3
  by_cases hk : (T.O i).k = 1
  · rw [if_neg (by rw [hk]; simp)]
    rw [hk] at c0
    have cs := H.cs
    have hof := hT.off i
    have hle := read_le hT.F (T.O i).of (T.O i).off c (hT.off i)
    have HN : Hid (∀ X, Below w.heap.size w X → Calls Tryz.prog 67 #[.pointer (some ⟨s, 0, none⟩), .int .i64 (T.O i).of, .int .i64 (T.O i).off, .int .i64 c] X fun e w' => ∃ a c', e = .returned (.tuple #[.slice a (T.F.read (T.O i).of (T.O i).off c).1.length c', .int .i64 (T.F.read (T.O i).of (T.O i).off c).2]) ∧ Hid (w'.ownsRow w.heap.size 5 1 (.slice a (T.F.read (T.O i).of (T.O i).off c).1.length c') (T.F.read (T.O i).of (T.O i).off c).1.length ((T.F.read (T.O i).of (T.O i).off c).1.map (Value.int .u8)) ∧ Below w.heap.size w w')) := by
      refine hid (fun X hX => ((H.grow hX).nread hT.F (T.O i).of (T.O i).off c (by omega) hc).mono ?_)
      rintro e w' ⟨⟨v, rfl, hO⟩, hb⟩
      obtain ⟨a, c', rfl, _⟩ := own_shp hO
      exact ⟨a, c', rfl, hid ⟨own_base hO hX.size, hX.trans (hb.mono hX.size)⟩⟩
    have HF : Hid (∀ X, Below w.heap.size w X → X.cell? ⟨x, 0, none⟩ = some (.slice (some ⟨g, 0, none⟩) 11 11) ∧ X.cell? ⟨x, 1, none⟩ = some (.pointer (some ⟨s, 0, none⟩)) ∧ X.cell? ⟨g, i * 5 + 1, none⟩ = some (.int .i64 (T.O i).of) ∧ X.cell? ⟨g, i * 5 + 2, none⟩ = some (.int .i64 (T.O i).off) ∧ X.frozen? ⟨g, i * 5 + 2, none⟩ = false) := hid (fun X hX => ⟨(H.grow hX).cl, (H.grow hX).cs, (H.grow hX).gf.c1 i hi, (H.grow hX).gf.c2 i hi, (H.grow hX).gf.fz _⟩)
    have HM : Hid (∀ X, Below w.heap.size w X → ∀ v, TdTo w x (T.at_ i { T.O i with off := v }) D (X.setCell ⟨g, i * 5 + 2, none⟩ (.int .i64 v))) := hid (fun X hX v => TdTo.fil (H.grow hX) hX hD ((H.grow hX).gf.offTo i hi v) (Upd.setCell (F := (· = g)) X ⟨g, _, none⟩ _ rfl))
    have HGL : Hid (g < w.heap.size) := hid H.gf.lt
    clear H hD HP0 hT hh h3 h0
    generalize T.F.read (T.O i).of (T.O i).off c = r at HN hle ⊢
    obtain ⟨L, E⟩ := r
    dsimp only at HN hle ⊢
    obtain ⟨off, goff⟩ : ∃ off, off = (T.O i).off := ⟨_, rfl⟩
    rw [← goff] at c2 hof hle HN HF ⊢
    obtain ⟨ln, gln⟩ : ∃ ln, ln = L.length := ⟨_, rfl⟩
    rw [← gln] at hle HN ⊢
    have hl0 : (0 : Int) ≤ (ln : Int) := by omega
    have w64 : IntKind.i64.wrap (off + (ln : Int)) = off + (ln : Int) := by rw [IntKind.wrap_i64]; omega
    have HM := hid (fun X hX => HM.out X hX (off + (ln : Int)))
    generalize T.at_ i { T.O i with off := off + (ln : Int) } = T' at HM ⊢
    clear goff gln
    generalize (T.O i).of = of at c1 HN HF
    generalize (T.O i).fl = fl at c3 b1 b2
    go_enter Tryz.func22, Tryz.ntmps22
    go_wp2_with fail
    refine k0.out.mono ?_
    rintro e w1 ⟨rfl, rfl⟩
    clear k0
    go_wp2_with fail
    go_region_held3 (fun X => X.cell? ⟨x, 0, none⟩ = some (.slice (some ⟨g, 0, none⟩) 11 11) ∧ X.cell? ⟨x, 1, none⟩ = some (.pointer (some ⟨s, 0, none⟩)) ∧ X.cell? ⟨g, i * 5 + 1, none⟩ = some (.int .i64 of) ∧ X.cell? ⟨g, i * 5 + 2, none⟩ = some (.int .i64 off)) (go_keep) ((go_at_call 67; refine (HN.out _ (Below.refl _ _).drew).mono ?_; rintro e w3 ⟨a, c', rfl, H3⟩; obtain ⟨y0, y1, y2, y3, y4⟩ := HF.out w3 H3.out.2))
    have hm := HM.out w3 H3.out.2
    have hu : Upd (· = g) w3 (w3.setCell ⟨g, i * 5 + 2, none⟩ (.int .i64 (off + (ln : Int)))) := Upd.setCell (F := (· = g)) w3 ⟨g, _, none⟩ _ rfl
    have hO := hu.own H3.out.1 (fun b hb e => by have := (H3.out.1.lt b hb).1; have := HGL.out; omega)
    have HQ := hid (And.intro (own_src8 hO) hm)
    clear hm hu hO H3 HN HF c0 c1 c2 c3 cl cs
    go_wp2_with fail
    go_ret3
    exact ⟨⟨_, _, rfl, HQ.out.1⟩, HQ.out.2⟩
  · rw [if_pos hk]
    have cq := H.cq
    have hk' : ¬ (T.O i).k = 1 := hk
    have HN : Hid (∀ X, Below w.heap.size w X → Calls Tryz.prog 66 #[.pointer (some ⟨q, 0, none⟩), .int .i64 (T.O i).of, .int .i64 c] X fun e w' => ∃ a c', e = .returned (.tuple #[.slice a (Pi.readL T.P (T.O i).of c).length c', .bool (Pi.readW T.P (T.O i).of c), .int .i64 (Pi.readE T.P (T.O i).of c)]) ∧ Hid (Src w' a (Pi.readL T.P (T.O i).of c).length (Pi.readL T.P (T.O i).of c) ∧ TdTo w x { T with P := Pi.readP T.P (T.O i).of c } D w' ∧ w'.cell? ⟨x, 0, none⟩ = some (.slice (some ⟨g, 0, none⟩) 11 11) ∧ w'.cell? ⟨x, 2, none⟩ = some (.pointer (some ⟨q, 0, none⟩)) ∧ w'.cell? ⟨g, i * 5 + 1, none⟩ = some (.int .i64 (T.O i).of))) := by
      refine hid (fun X hX => ((H.grow hX).pread hT (T.O i).of c).mono ?_)
      rintro e w' ⟨⟨a, c', rfl, hs⟩, hp⟩
      have hr := (H.grow hX).pip hp
      exact ⟨a, c', rfl, hid ⟨hs, TdTo.pip (H.grow hX) hX hD hp, hr.cl, hr.cq, hr.gf.c1 i hi⟩⟩
    clear H hD HP0 hT hh h3 h0
    dsimp only
    generalize ({ T with P := Pi.readP T.P (T.O i).of c } : Ft) = T' at HN ⊢
    generalize Pi.readL T.P (T.O i).of c = L at HN ⊢
    generalize Pi.readW T.P (T.O i).of c = W at HN ⊢
    generalize Pi.readE T.P (T.O i).of c = E at HN ⊢
    generalize (T.O i).of = of at c1 HN
    generalize (T.O i).off = off at c2
    generalize (T.O i).fl = fl at c3 b1 b2
    generalize (T.O i).k = k at c0 hk'
    go_enter Tryz.func22, Tryz.ntmps22
    go_wp2_with fail
    refine k0.out.mono ?_
    rintro e w1 ⟨rfl, rfl⟩
    clear k0
    go_wp2_with fail
    go_region_held3 (fun X => X.cell? ⟨x, 0, none⟩ = some (.slice (some ⟨g, 0, none⟩) 11 11) ∧ X.cell? ⟨x, 2, none⟩ = some (.pointer (some ⟨q, 0, none⟩)) ∧ X.cell? ⟨g, i * 5 + 1, none⟩ = some (.int .i64 of)) (go_keep) ((go_at_call 66; refine (HN.out _ (Below.refl _ _).drew).mono ?_; rintro e w3 ⟨a, c', rfl, H3⟩; obtain ⟨h5, h6, y0, y1, y2⟩ := H3.out))
    have HQ := hid (And.intro h5 h6)
    clear h5 h6 H3 HN
    go_wp2_with fail
    go_ret3
    exact ⟨⟨_, _, rfl, HQ.out.1⟩, HQ.out.2⟩

end Go.Proofs.YtoknhcjneliboaaGreat

/- What Write of the document's open files does. (Written by gen_td4.py.) -/
namespace Go.Proofs.YtoknhcjneliboaaGreat
open Go.RowKit Go.ChangeMaps Go.MapKept
set_option linter.unusedVariables false
set_option maxRecDepth 20000

theorem box_kept {w w1 : World} {Z : Obj} {a : Nat} (hal : a < w.heap.size) (hb : Below (w.alloc Z).drew.heap.size (w.alloc Z).drew w1) : w1.heap[a]? = w.heap[a]? ∧ w1.heap[w.heap.size]? = some Z ∧ w.heap.size < w1.heap.size := by
  have e : (w.alloc Z).drew.heap = (w.alloc Z).heap := rfl
  have hs : (w.alloc Z).heap.size = w.heap.size + 1 := by simp
  have hz : (w.alloc Z).drew.heap.size = w.heap.size + 1 := by rw [e]; exact hs
  refine ⟨?_, ?_, ?_⟩
  · rw [hb.block a (by omega), e]
    exact ((Below.refl w.heap.size w).alloc (Nat.le_refl _) Z).block a hal
  · rw [hb.block w.heap.size (by omega), e]
    exact heap_alloc_new w Z
  · have := hb.size; omega

theorem cell_set_other (w : World) (g j : Nat) (v : Value) (a : Addr) (h : a.block ≠ g) : (w.setCell ⟨g, j, none⟩ v).cell? a = w.cell? a :=
  World.cell?_of_block (heap_setCell_other w ⟨g, j, none⟩ a.block v h)

/-- The node of an open file is there. -/
theorem TOk.nodeD {T : Ft} (H : TOk T) (j : Nat) (hj : j < 11) (hh : (T.O j).h ≠ 0) (hk : (T.O j).k = 1) : ∃ m : Nat, (T.O j).of = (m : Int) ∧ T.F.there m = true := by
  obtain ⟨m, hm⟩ := H.of j
  have hc := cF_mem hj hh m hm
  rw [hk] at hc
  have hp : 0 < (T.F.P m).h := by rw [H.hc m]; omega
  have hk : (T.F.P m).k ≠ 0 := fun e => by rw [H.F.none m e] at hp; exact absurd hp (by decide)
  have hl := H.F.lt hk
  refine ⟨m, hm, ?_⟩
  unfold Fs.there
  simp only [Int.toNat_natCast, decide_eq_true_eq]
  exact ⟨by omega, by omega, hk⟩
theorem stat_thereD {F : Fs} {n : Int} (h : F.there n = true) : (F.stat n).2.2.1 = (F.size n.toNat : Int) ∧ (F.stat n).2.2.2 = 0 ∧ (F.stat n).1 = (F.P n.toNat).k := by
  unfold Fs.stat
  rw [if_neg (by rw [h]; simp)]
  exact ⟨rfl, rfl, rfl⟩
theorem dwrite_err {F : Fs} {n off : Int} {b : List Int} (h : (F.write n off b).2.2 ≠ 0) : (F.write n off b).1 = F ∧ (F.write n off b).2.1 = 0 := by
  unfold Fs.write at h ⊢
  split
  · exact ⟨rfl, rfl⟩
  split
  · exact ⟨rfl, rfl⟩
  split
  · exact ⟨rfl, rfl⟩
  split
  · exact ⟨rfl, rfl⟩
  split
  · exact ⟨rfl, rfl⟩
  · rename_i a b c d e
    rw [if_neg a, if_neg b, if_neg c, if_neg d, if_neg e] at h
    exact absurd rfl h

set_option maxHeartbeats 8000000 in
theorem tdwrite (w : World) (x : Nat) (T : Ft) (D : Nat → Prop) (HP : Td w x T D) (hT : TOk T) (n : Int) (ab : Option Addr) (len cap : Nat) (zs : List Int) (hs : Src w ab len zs) (ha : 0 < len → ∀ b o, ab = some ⟨b, o, none⟩ → ¬ D b) (hlc : len ≤ cap) (hl : len ≤ 140737488355328) :
    Calls Tryz.prog 26 #[.pointer (some ⟨x, 0, none⟩), .int .i64 n, .slice ab len cap] w fun e w' => e = .returned (.tuple #[.int .i64 (T.write n zs).2.1, .bool (T.write n zs).2.2.1, .int .i64 (T.write n zs).2.2.2]) ∧ TdTo w x (T.write n zs).1 D w' := by
  have HP0 := HP
  obtain ⟨g, s, q, Dn, Dp, H, hD⟩ := HP
  have k0 := hid (r8there w x g s q Dn Dp T H hT n)
  unfold Ft.write Ft.has
  have hzl := hs.1
  cases hh : T.there n
  · rw [hh] at k0
    rw [if_pos (by simp)]
    have HQ := hid (TdTo.same HP0 (Below.refl _ w))
    clear H hD HP0 hT hh hs ha hzl
    dsimp only
    go_enter Tryz.func26, Tryz.ntmps26
    go_wp2_with fail
    refine k0.out.mono ?_
    rintro e w1 ⟨rfl, rfl⟩
    clear k0
    go_wp2_with fail
    go_ret3
    exact ⟨rfl, HQ.out⟩
  rw [hh] at k0
  obtain ⟨i, rfl, h1, hi, h0⟩ := Ft.there_lt hh
  rw [Int.toNat_natCast]
  have cl := H.cl
  have c0 := H.gf.c0 i hi
  have c1 := H.gf.c1 i hi
  have c2 := H.gf.c2 i hi
  have c3 := H.gf.c3 i hi
  have c4 := H.gf.c4 i hi
  have i1 : (0 : Int) ≤ (i : Int) := by omega
  have i2 : (i : Int) < 11 := by omega
  cases h3 : dfc (T.O i).fl 2
  · rw [if_pos (by simp)]
    obtain ⟨b1, b2⟩ := ddfc_f h3
    have HQ := hid (TdTo.same HP0 (Below.refl _ w))
    clear H hD HP0 hT hh h3 h0 hs ha hzl
    generalize (T.O i).fl = fl at c3 b1 b2
    dsimp only
    go_enter Tryz.func26, Tryz.ntmps26
    go_wp2_with fail
    refine k0.out.mono ?_
    rintro e w1 ⟨rfl, rfl⟩
    clear k0
    go_wp2_with fail
    go_ret3
    exact ⟨rfl, HQ.out⟩
  rw [if_neg (by simp)]
  obtain ⟨b1, b2⟩ := ddfc_t h3
  obtain ⟨W, gW⟩ : ∃ W, W = w.alloc (Obj.cells #[.int .i64 (T.O i).k, .int .i64 (T.O i).of, .int .i64 (T.O i).off, .int .i64 (T.O i).fl, .int .i64 (T.O i).h] 124) := ⟨_, rfl⟩
  have hB : Below w.heap.size w W := by rw [gW]; exact one_new _ _
  have hrow : W.heap[w.heap.size]? = some (.cells #[.int .i64 (T.O i).k, .int .i64 (T.O i).of, .int .i64 (T.O i).off, .int .i64 (T.O i).fl, .int .i64 (T.O i).h] 124 (0, 0)) := by rw [gW]; exact heap_alloc_new _ _
  have hZ : w.heap.size < W.heap.size := by rw [gW]; simp
  have hxw := H.xlt
  have hxW := (H.grow hB).xlt
  have hgw := H.gf.lt
  obtain ⟨lbk, glb⟩ : ∃ lbk, lbk = w.heap.size := ⟨_, rfl⟩
  have e1 : W.cell? ⟨lbk, 1, none⟩ = some (.int .i64 (T.O i).of) := by rw [glb, cell_of_row _ _ 1 _ _ _ hrow]; rfl
  have HGB := hid glb
  have hlbW : lbk < W.heap.size := by omega
  by_cases hk : (T.O i).k = 1
  · rw [if_neg (by rw [hk]; simp)]
    rw [hk] at c0 gW
    obtain ⟨m, hm, hth⟩ := hT.nodeD i hi h0 hk
    have hst := stat_thereD hth
    rw [Int.toNat_natCast] at hst
    have hle := write_le (F := T.F) (T.O i).of (T.from_ (T.O i)) zs (Ft.from_le hT i)
    have hfr := Ft.from_le hT i
    have KST : Hid (∀ X, Below W.heap.size W X → ∃ s1 s2, Calls Tryz.prog 58 #[.pointer (some ⟨s, 0, none⟩), .int .i64 (T.O i).of] X fun e w' => e = .returned (.tuple #[.agg #[.int .i64 s1, .int .i64 s2, .int .i64 (T.F.size m : Int)], .int .i64 0]) ∧ Below X.heap.size X w') := by
      refine hid (fun X hX => ⟨(T.F.stat (T.O i).of).1, (T.F.stat (T.O i).of).2.1, (((H.grow hB).grow hX).stat hT.F (T.O i).of).mono ?_⟩)
      rintro e w' ⟨rfl, h⟩
      rw [hm, hst.1, hst.2.1]
      exact ⟨rfl, h⟩
    have KST : Hid (∃ s1 s2, ∀ X, Below W.heap.size W X → Calls Tryz.prog 58 #[.pointer (some ⟨s, 0, none⟩), .int .i64 (T.O i).of] X fun e w' => e = .returned (.tuple #[.agg #[.int .i64 s1, .int .i64 s2, .int .i64 (T.F.size m : Int)], .int .i64 0]) ∧ Below X.heap.size X w') := by
      refine hid ⟨(T.F.stat (T.O i).of).1, (T.F.stat (T.O i).of).2.1, fun X hX => (((H.grow hB).grow hX).stat hT.F (T.O i).of).mono ?_⟩
      rintro e w' ⟨rfl, h⟩
      rw [hm, hst.1, hst.2.1]
      exact ⟨rfl, h⟩
    have HJ : Hid (∀ X w4, Below w.heap.size w X → NfTo X s (T.F.write (T.O i).of (T.from_ (T.O i)) zs).1 Dn w4 →
        ((T.F.write (T.O i).of (T.from_ (T.O i)) zs).2.2 ≠ 0 → TdTo w x T D w4 ∧ (T.F.write (T.O i).of (T.from_ (T.O i)) zs).2.1 = 0) ∧
        ((T.F.write (T.O i).of (T.from_ (T.O i)) zs).2.2 = 0 → w4.cell? ⟨x, 0, none⟩ = some (.slice (some ⟨g, 0, none⟩) 11 11) ∧ w4.cell? ⟨g, i * 5 + 2, none⟩ = some (.int .i64 (T.O i).off) ∧ w4.frozen? ⟨g, i * 5 + 2, none⟩ = false ∧ TdTo w x { T with F := (T.F.write (T.O i).of (T.from_ (T.O i)) zs).1, O := updF T.O i { T.O i with off := T.from_ (T.O i) + (T.F.write (T.O i).of (T.from_ (T.O i)) zs).2.1 } } D (w4.setCell ⟨g, i * 5 + 2, none⟩ (.int .i64 (T.from_ (T.O i) + (T.F.write (T.O i).of (T.from_ (T.O i)) zs).2.1))))) := by
      refine hid (fun X w4 hX h => ?_)
      have hSX := H.grow hX
      have hS4 := hSX.sys h (SH.write _ _ _ _).1
      refine ⟨fun he => ⟨?_, (dwrite_err he).2⟩, fun he => ⟨hS4.cl, hS4.gf.c2 i hi, hS4.gf.fz _, ?_⟩⟩
      · have := TdTo.sys hSX hX hD h (SH.write _ _ _ _).1
        rw [(dwrite_err he).1] at this
        exact this
      · have h5 := hS4.fil (hS4.gf.offTo i hi (T.from_ (T.O i) + (T.F.write (T.O i).of (T.from_ (T.O i)) zs).2.1)) (Upd.setCell (F := (· = g)) w4 ⟨g, _, none⟩ _ rfl)
        exact TdTo.of h5 hD (fun b hb => hb.1.imp id (fun h => Nat.le_trans hX.size h)) (fun b hb => .inl hb) (((Upd.of_below hX).trans h.2 (fun b _ hb => .inr (.inr (.inl hb)))).trans (Upd.setCell (F := RFoot x g Dn Dp) w4 ⟨g, _, none⟩ _ (.inr (.inl rfl))) (fun _ _ h => h))
    have KW : Hid (∀ X, Below W.heap.size W X → Calls Tryz.prog 69 #[.pointer (some ⟨s, 0, none⟩), .int .i64 (T.O i).of, .int .i64 (T.from_ (T.O i)), .slice ab len cap] X fun e w' => e = .returned (.tuple #[.int .i64 (T.F.write (T.O i).of (T.from_ (T.O i)) zs).2.1, .int .i64 (T.F.write (T.O i).of (T.from_ (T.O i)) zs).2.2]) ∧ Hid (NfTo X s (T.F.write (T.O i).of (T.from_ (T.O i)) zs).1 Dn w' ∧ w'.cell? ⟨x, 1, none⟩ = some (.pointer (some ⟨s, 0, none⟩)) ∧ w'.cell? ⟨lbk, 1, none⟩ = some (.int .i64 (T.O i).of))) := by
      refine hid (fun X hX => ?_)
      have hSX := (H.grow hB).grow hX
      refine (hSX.nwrite hT.F (T.O i).of (T.from_ (T.O i)) ab len cap zs ((hs.below hB).below hX) (fun h0 b o e h => ha h0 b o e (hD b (.inr (.inr (.inl h))))) hlc (by omega) (by omega)).mono ?_
      rintro e w' ⟨rfl, h⟩
      refine ⟨rfl, hid ⟨h, (hSX.sys h (SH.write _ _ _ _).1).cs, ?_⟩⟩
      have hb := h.2.block lbk (Nat.lt_of_lt_of_le (by omega) hX.size) (fun e => by have := H.ln lbk e; omega)
      exact (World.cell?_of_block (a := ⟨lbk, 1, none⟩) hb).trans ((hX.cell (p := ⟨lbk, 1, none⟩) hlbW).trans e1)
    have HCS : Hid (∀ X, Below W.heap.size W X → X.cell? ⟨x, 1, none⟩ = some (.pointer (some ⟨s, 0, none⟩)) ∧ X.cell? ⟨lbk, 1, none⟩ = some (.int .i64 (T.O i).of)) := hid (fun X hX => ⟨((H.grow hB).grow hX).cs, (hX.cell (p := ⟨lbk, 1, none⟩) hlbW).trans e1⟩)
    have eW : ∀ (Q : Ft × Int × Bool × Int → Prop), Q (if (T.F.write (T.O i).of (T.from_ (T.O i)) zs).2.2 ≠ 0 then T else { T with F := (T.F.write (T.O i).of (T.from_ (T.O i)) zs).1, O := updF T.O i { T.O i with off := T.from_ (T.O i) + (T.F.write (T.O i).of (T.from_ (T.O i)) zs).2.1 } }, (T.F.write (T.O i).of (T.from_ (T.O i)) zs).2.1, false, (T.F.write (T.O i).of (T.from_ (T.O i)) zs).2.2) → Q (if (T.F.write (T.O i).of (T.from_ (T.O i)) zs).2.2 ≠ 0 then (T, 0, false, (T.F.write (T.O i).of (T.from_ (T.O i)) zs).2.2) else ({ T with F := (T.F.write (T.O i).of (T.from_ (T.O i)) zs).1, O := updF T.O i { T.O i with off := T.from_ (T.O i) + (T.F.write (T.O i).of (T.from_ (T.O i)) zs).2.1 } }, (T.F.write (T.O i).of (T.from_ (T.O i)) zs).2.1, false, 0)) := by
      intro Q hQ
      by_cases he : (T.F.write (T.O i).of (T.from_ (T.O i)) zs).2.2 ≠ 0
      · rw [if_pos he] at hQ ⊢
        rw [(dwrite_err he).2] at hQ
        exact hQ
      · rw [if_neg he] at hQ ⊢
        rw [Decidable.not_not.1 he] at hQ
        exact hQ
    refine eW (fun r => Calls Tryz.prog 26 #[.pointer (some ⟨x, 0, none⟩), .int .i64 (i : Int), .slice ab len cap] w fun e w' => e = .returned (.tuple #[.int .i64 r.2.1, .bool r.2.2.1, .int .i64 r.2.2.2]) ∧ TdTo w x r.1 D w') ?_
    clear eW
    dsimp only
    have e_ap : T.from_ (T.O i) = if dfc (T.O i).fl 4 = true then (T.F.size m : Int) else (T.O i).off := by unfold Ft.from_; rw [hm, Int.toNat_natCast]
    have cs := H.cs
    have HB := hid hB
    obtain ⟨s1, s2, KST⟩ := KST.out
    have KST := hid KST
    have y1 : W.cell? ⟨x, 1, none⟩ = some (.pointer (some ⟨s, 0, none⟩)) := (H.grow hB).cs
    have yb := e1
    have hxl := hxW
    have hll : lbk < W.heap.size := by omega
    clear H hD HP0 hT hh h3 h0 hs ha hB hm hth hst hk hrow hzl e1 glb
    generalize ({ T with F := (T.F.write (T.O i).of (T.from_ (T.O i)) zs).1, O := updF T.O i { T.O i with off := T.from_ (T.O i) + (T.F.write (T.O i).of (T.from_ (T.O i)) zs).2.1 } } : Ft) = T' at HJ ⊢
    generalize T.F.write (T.O i).of (T.from_ (T.O i)) zs = r at HJ KW hle ⊢
    obtain ⟨F', m', E⟩ := r
    dsimp only at HJ KW hle ⊢
    generalize T.from_ (T.O i) = fr at HJ KW hle hfr e_ap ⊢
    generalize (T.F.size m : Int) = s3 at KST e_ap
    have h4 : dfc (T.O i).fl 4 = true ∨ dfc (T.O i).fl 4 = false := by cases dfc (T.O i).fl 4 <;> simp
    have w64 : IntKind.i64.wrap (fr + m') = fr + m' := by rw [IntKind.wrap_i64]; omega
    generalize (T.O i).off = off at c2 gW HJ e_ap
    generalize (T.O i).of = of at c1 gW KST KW HCS yb
    generalize (T.O i).fl = fl at c3 b1 b2 gW e_ap h4
    generalize (T.O i).h = hh at c4 gW
    rcases h4 with h4 | h4
    · rw [if_pos h4] at e_ap
      obtain ⟨b3, b4⟩ := ddfc_t h4
      subst e_ap
      clear h4
      go_enter Tryz.func26, Tryz.ntmps26
      go_wp2_with fail
      refine k0.out.mono ?_
      rintro e w1 ⟨rfl, rfl⟩
      clear k0
      go_wp2_with fail
      rw [← gW, ← HGB.out]
      clear gW
      go_cut [11, 12] (fun v11 v12 wx => ∃ a, v11 = .pointer (some ⟨a, 0, none⟩) ∧ v12 = .int .i64 0 ∧ Hid (Below W.heap.size W wx) ∧ Hid (wx.heap[a]? = some (.cells #[.int .i64 s1, .int .i64 s2, .int .i64 fr] 87 (0, 0))))
      case first =>
        have hnx : x ≠ W.heap.size := by omega
        have hnl : lbk ≠ W.heap.size := by omega
        have HA : Hid (Below W.heap.size W (W.alloc (.cells #[.int .i64 0, .int .i64 0, .int .i64 0] 87)).drew) := hid ((Below.refl _ _).alloc (Nat.le_refl _) (.cells #[.int .i64 0, .int .i64 0, .int .i64 0] 87)).drew
        have ya1 := (HA.out.cell (p := ⟨x, 1, none⟩) hxl).trans y1
        have yab := (HA.out.cell (p := ⟨lbk, 1, none⟩) hll).trans yb
        go_region_held3 (fun V => V.cell? ⟨x, 1, none⟩ = some (.pointer (some ⟨s, 0, none⟩)) ∧ V.cell? ⟨lbk, 1, none⟩ = some (.int .i64 of)) (first | (refine ⟨?_, ?_⟩ <;> assumption) | exact ⟨ya1, yab⟩ | (refine ⟨?_, ?_⟩ <;> first | (rw [cell_set_other _ _ _ _ _ hnx, cell_set_other _ _ _ _ _ hnx, cell_set_other _ _ _ _ _ hnx]; assumption) | (rw [cell_set_other _ _ _ _ _ hnl, cell_set_other _ _ _ _ _ hnl, cell_set_other _ _ _ _ _ hnl]; assumption)) | go_keep) (first
          | (go_at_call 58; refine (KST.out _ (Below.refl _ _).drew).mono ?_; rintro e w1 ⟨rfl, hb⟩; have HB1 : Hid (Below W.heap.size W w1) := hid ((Below.refl _ _).drew.trans hb); have z1 := (HB1.out.cell (p := ⟨x, 1, none⟩) hxl).trans y1; have zb := (HB1.out.cell (p := ⟨lbk, 1, none⟩) hll).trans yb; clear hb)
          | (go_at_call 58; refine (KST.out _ HA.out).mono ?_; rintro e w1 ⟨rfl, hb⟩; obtain ⟨_, hrow, _⟩ := box_kept hxl hb; have HB1 : Hid (Below W.heap.size W w1) := hid (HA.out.trans (hb.mono HA.out.size)); have hr0 : w1.cell? ⟨W.heap.size, 0, none⟩ = some (.int .i64 0) := (by rw [cell_of_row _ _ 0 _ _ _ hrow]; rfl); have hr1 : w1.cell? ⟨W.heap.size, 1, none⟩ = some (.int .i64 0) := (by rw [cell_of_row _ _ 1 _ _ _ hrow]; rfl); have hr2 : w1.cell? ⟨W.heap.size, 2, none⟩ = some (.int .i64 0) := (by rw [cell_of_row _ _ 2 _ _ _ hrow]; rfl); have hf0 : w1.frozen? ⟨W.heap.size, 0, none⟩ = false := (by simp [World.frozen?, hrow]); have hf1 : w1.frozen? ⟨W.heap.size, 1, none⟩ = false := (by simp [World.frozen?, hrow]); have hf2 : w1.frozen? ⟨W.heap.size, 2, none⟩ = false := (by simp [World.frozen?, hrow]); have HROW := hid hrow; clear hrow; have z1 := (HB1.out.cell (p := ⟨x, 1, none⟩) hxl).trans y1; have zb := (HB1.out.cell (p := ⟨lbk, 1, none⟩) hll).trans yb; clear hb)
          | fail)
        all_goals
          go_wp2_with fail
          go_meet
          case rel =>
            first
            | exact ⟨W.heap.size, rfl, rfl, hid (((HB1.out.setCell (Nat.le_refl _) _).setCell (Nat.le_refl _) _).setCell (Nat.le_refl _) _), hid (heap_setCell_same _ W.heap.size 2 _ _ _ (heap_setCell_same _ W.heap.size 1 _ _ _ (heap_setCell_same w1 W.heap.size 0 _ _ _ HROW.out)))⟩
            | exact ⟨W.heap.size, rfl, rfl, hid (((HB1.out.setCell (Nat.le_refl _) _).setCell (Nat.le_refl _) _).setCell (Nat.le_refl _) _).drew, hid (heap_setCell_same _ W.heap.size 2 _ _ _ (heap_setCell_same _ W.heap.size 1 _ _ _ (heap_setCell_same w1 W.heap.size 0 _ _ _ HROW.out)))⟩
            | exact ⟨w1.heap.size, rfl, rfl, hid (HB1.out.trans ((one_new w1 _).mono HB1.out.size)), hid (heap_alloc_new _ _)⟩
            | exact ⟨w1.heap.size, rfl, rfl, hid (HB1.out.trans ((one_new w1 _).mono HB1.out.size)).drew, hid (heap_alloc_new _ _)⟩
      case rest =>
        obtain ⟨a, rfl, rfl, HBC, HRA⟩ := hcut
        have d2 : wc.cell? ⟨a, 2, none⟩ = some (.int .i64 fr) := by rw [cell_of_row _ _ 2 _ _ _ HRA.out]; rfl
        obtain ⟨v1, vb⟩ := HCS.out wc HBC.out
        clear HRA c0 c1 c2 c3 c4 cl cs y1 yb
        go_wp2_with fail
        go_region_held3 (fun V => V.cell? ⟨x, 1, none⟩ = some (.pointer (some ⟨s, 0, none⟩)) ∧ V.cell? ⟨lbk, 1, none⟩ = some (.int .i64 of)) (go_keep) ((go_at_call 69; refine (KW.out _ (HBC.out).drew).mono ?_; rintro e w3 ⟨rfl, H3⟩; obtain ⟨h5, z1, zb⟩ := H3.out))
        have hXX : Below w1.heap.size w1 (wc).drew := HB.out.trans (((HBC.out).drew).mono HB.out.size)
        obtain ⟨j1, j2⟩ := HJ.out _ w3 hXX h5
        by_cases hE : E = 0
        · subst hE
          obtain ⟨cl3, c23, f23, h6⟩ := j2 rfl
          have HQ := hid h6
          clear j1 j2 h5 h6 H3 HJ KW z1 zb hXX
          go_wp2_with fail
          go_ret3
          exact ⟨rfl, HQ.out⟩
        · obtain ⟨j3, rfl⟩ := j1 hE
          have HQ := hid j3
          have hE' : (E == 0) = false := by simpa using hE
          clear j1 j2 j3 h5 H3 HJ KW z1 zb hXX
          go_wp2_with fail
          go_ret3
          exact ⟨rfl, HQ.out⟩

    · rw [if_neg (by rw [h4]; simp)] at e_ap
      obtain ⟨b3, b4⟩ := ddfc_f h4
      subst e_ap
      clear h4
      go_enter Tryz.func26, Tryz.ntmps26
      go_wp2_with fail
      refine k0.out.mono ?_
      rintro e w1 ⟨rfl, rfl⟩
      clear k0
      go_wp2_with fail
      rw [← gW, ← HGB.out]
      clear gW c0 c1 c2 c3 c4 cl cs
      go_region_held3 (fun V => V.cell? ⟨x, 1, none⟩ = some (.pointer (some ⟨s, 0, none⟩)) ∧ V.cell? ⟨lbk, 1, none⟩ = some (.int .i64 of)) (go_keep) ((go_at_call 69; refine (KW.out _ (Below.refl _ _).drew).mono ?_; rintro e w3 ⟨rfl, H3⟩; obtain ⟨h5, z1, zb⟩ := H3.out))
      have hXX : Below w1.heap.size w1 (W).drew := HB.out.trans (((Below.refl _ _).drew).mono HB.out.size)
      obtain ⟨j1, j2⟩ := HJ.out _ w3 hXX h5
      by_cases hE : E = 0
      · subst hE
        obtain ⟨cl3, c23, f23, h6⟩ := j2 rfl
        have HQ := hid h6
        clear j1 j2 h5 h6 H3 HJ KW z1 zb hXX
        go_wp2_with fail
        go_ret3
        exact ⟨rfl, HQ.out⟩
      · obtain ⟨j3, rfl⟩ := j1 hE
        have HQ := hid j3
        have hE' : (E == 0) = false := by simpa using hE
        clear j1 j2 j3 h5 H3 HJ KW z1 zb hXX
        go_wp2_with fail
        go_ret3
        exact ⟨rfl, HQ.out⟩

  · rw [if_pos hk]
    dsimp only
    have HN : Hid (∀ X, Below W.heap.size W X → Calls Tryz.prog 68 #[.pointer (some ⟨q, 0, none⟩), .int .i64 (T.O i).of, .slice ab len cap] X fun e w' => e = .returned (.tuple #[.int .i64 (Pi.writeN T.P (T.O i).of zs.length), .bool (Pi.writeW T.P (T.O i).of zs.length), .int .i64 (Pi.writeE T.P (T.O i).of)]) ∧ Hid (TdTo w x { T with P := Pi.writeP T.P (T.O i).of zs } D w' ∧ w'.cell? ⟨x, 2, none⟩ = some (.pointer (some ⟨q, 0, none⟩)) ∧ w'.cell? ⟨lbk, 1, none⟩ = some (.int .i64 (T.O i).of))) := by
      refine hid (fun X hX => ?_)
      have hSX := (H.grow hB).grow hX
      rw [hzl]
      refine (hSX.pwrite hT (T.O i).of ab len cap zs ((hs.below hB).below hX) hlc hl).mono ?_
      rintro e w' ⟨rfl, h⟩
      have hr := hSX.pip h
      refine ⟨rfl, hid ⟨TdTo.pip hSX (hB.trans (hX.mono hB.size)) hD h, hr.cq, ?_⟩⟩
      have hb := h.2.block lbk (Nat.lt_of_lt_of_le (by omega) hX.size) (fun e => by have := H.lp lbk e; omega)
      exact (World.cell?_of_block (a := ⟨lbk, 1, none⟩) hb).trans ((hX.cell (p := ⟨lbk, 1, none⟩) hlbW).trans e1)
    have y2 : W.cell? ⟨x, 2, none⟩ = some (.pointer (some ⟨q, 0, none⟩)) := (H.grow hB).cq
    have hk' : ¬ (T.O i).k = 1 := hk
    clear H hD HP0 hT hh h3 h0 hs ha hB hrow hzl hk glb
    generalize ({ T with P := Pi.writeP T.P (T.O i).of zs } : Ft) = T' at HN ⊢
    generalize Pi.writeN T.P (T.O i).of zs.length = N at HN ⊢
    generalize Pi.writeW T.P (T.O i).of zs.length = V at HN ⊢
    generalize Pi.writeE T.P (T.O i).of = E at HN ⊢
    generalize (T.O i).off = off at c2 gW
    generalize (T.O i).of = of at c1 gW HN e1
    generalize (T.O i).fl = fl at c3 b1 b2 gW
    generalize (T.O i).h = hh at c4 gW
    generalize (T.O i).k = k at c0 gW hk'
    go_enter Tryz.func26, Tryz.ntmps26
    go_wp2_with fail
    refine k0.out.mono ?_
    rintro e w1 ⟨rfl, rfl⟩
    clear k0
    go_wp2_with fail
    rw [← gW, ← HGB.out]
    clear gW c0 c1 c2 c3 c4 cl
    go_region_held3 (fun X => X.cell? ⟨x, 2, none⟩ = some (.pointer (some ⟨q, 0, none⟩)) ∧ X.cell? ⟨lbk, 1, none⟩ = some (.int .i64 of)) (go_keep) ((go_at_call 68; refine (HN.out _ (Below.refl _ _).drew).mono ?_; rintro e w3 ⟨rfl, H3⟩; obtain ⟨h5, z2, zb⟩ := H3.out))
    have HQ := hid h5
    clear h5 H3 HN
    go_wp2_with fail
    go_ret3
    exact ⟨rfl, HQ.out⟩

end Go.Proofs.YtoknhcjneliboaaGreat
