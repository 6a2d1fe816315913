/- Texts of this seat, merged. -/
import Derived.Test.YtoknhcjneliboaaGreatFMg22
import Derived.Test.YtoknhcjneliboaaGreatFMg23
import Derived.Test.YtoknhcjneliboaaGreatFMg25
import Derived.Test.YtoknhcjneliboaaGreatFMg27
import Derived.Test.YtoknhcjneliboaaGreatFMg26
import Derived.Test.YtoknhcjneliboaaGreatFMg30
import Derived.Test.YtoknhcjneliboaaGreatFMg31
import Derived.Deep.RegionHeld3
import Derived.Test.YtoknhcjneliboaaGreatFMg19
import Derived.Deep.DeepCutAuto
import Derived.Deep.CutBlock

/- What is below, from the document's table: its file system's calls, its pipes'. -/
namespace Go.Proofs.YtoknhcjneliboaaGreat
open Go.RowKit Go.ChangeMaps Go.MapKept
set_option linter.unusedVariables false
set_option maxRecDepth 20000

section
variable {w : World} {x g s q : Nat} {Dn Dp : Nat → Prop} {T : Ft}
theorem Rs.hold (H : Rs w x g s q Dn Dp T) (hF : FOk T.F) (n : Int) :
    Calls Tryz.prog 60 #[.pointer (some ⟨s, 0, none⟩), .int .i64 n] w fun e w' => e = .returned (.int .i64 (T.F.hold n).2) ∧ NfTo w s (T.F.hold n).1 Dn w' := by
  obtain ⟨gN, uN, V, hR, hD⟩ := H.nf
  refine (rhold_any s gN uN V T.F w hR hF n).mono ?_
  rintro e w' ⟨rfl, h⟩
  exact ⟨rfl, NfTo.of hD h⟩
theorem Rs.drop (H : Rs w x g s q Dn Dp T) (hF : FOk T.F) (n : Int) :
    Calls Tryz.prog 71 #[.pointer (some ⟨s, 0, none⟩), .int .i64 n] w fun e w' => e = .returned (.int .i64 (T.F.drop n).2) ∧ NfTo w s (T.F.drop n).1 Dn w' := by
  obtain ⟨gN, uN, V, hR, hD⟩ := H.nf
  refine (rdrop_any s gN uN V T.F w hR hF n).mono ?_
  rintro e w' ⟨rfl, h⟩
  exact ⟨rfl, NfTo.of hD h⟩
theorem Rs.stat (H : Rs w x g s q Dn Dp T) (hF : FOk T.F) (n : Int) :
    Calls Tryz.prog 58 #[.pointer (some ⟨s, 0, none⟩), .int .i64 n] w fun e w' => e = .returned (.tuple #[.agg #[.int .i64 (T.F.stat n).1, .int .i64 (T.F.stat n).2.1, .int .i64 (T.F.stat n).2.2.1], .int .i64 (T.F.stat n).2.2.2]) ∧ Below w.heap.size w w' := by
  obtain ⟨gN, uN, V, hR, hD⟩ := H.nf
  exact rstat_any s gN uN V T.F w hR hF n
theorem Rs.resize (H : Rs w x g s q Dn Dp T) (hF : FOk T.F) (n z : Int) (hz : z ≤ 9223372036854775807) :
    Calls Tryz.prog 59 #[.pointer (some ⟨s, 0, none⟩), .int .i64 n, .int .i64 z] w fun e w' => e = .returned (.int .i64 (T.F.resize n z).2) ∧ NfTo w s (T.F.resize n z).1 Dn w' := by
  obtain ⟨gN, uN, V, hR, hD⟩ := H.nf
  refine (rresize_any s gN uN V T.F w hR hF n z hz).mono ?_
  rintro e w' ⟨rfl, h⟩
  exact ⟨rfl, NfTo.of hD h⟩
theorem Rs.nread (H : Rs w x g s q Dn Dp T) (hF : FOk T.F) (n off cnt : Int) (ho : off ≤ 9223372036854775807) (hc : cnt ≤ 9223372036854775807) :
    Calls Tryz.prog 67 #[.pointer (some ⟨s, 0, none⟩), .int .i64 n, .int .i64 off, .int .i64 cnt] w fun e w' => (∃ v, e = .returned (.tuple #[v, .int .i64 (T.F.read n off cnt).2]) ∧ w'.ownsRow w.heap.size 5 1 v (T.F.read n off cnt).1.length ((T.F.read n off cnt).1.map (Value.int .u8))) ∧ Below w.heap.size w w' := by
  obtain ⟨gN, uN, V, hR, hD⟩ := H.nf
  exact rread_any s gN uN V T.F w hR hF n off cnt ho hc
theorem Rs.nwrite (H : Rs w x g s q Dn Dp T) (hF : FOk T.F) (n off : Int) (a0 : Option Addr) (lb cb : Nat) (bs : List Int) (hsrc : Src w a0 lb bs) (ha : 0 < lb → ∀ b o, a0 = some ⟨b, o, none⟩ → ¬ Dn b) (hcb : lb ≤ cb) (hl : lb ≤ 9223372036854775807) (hof : off ≤ 9223372036854775807) :
    Calls Tryz.prog 69 #[.pointer (some ⟨s, 0, none⟩), .int .i64 n, .int .i64 off, .slice a0 lb cb] w fun e w' => e = .returned (.tuple #[.int .i64 (T.F.write n off bs).2.1, .int .i64 (T.F.write n off bs).2.2]) ∧ NfTo w s (T.F.write n off bs).1 Dn w' := by
  obtain ⟨gN, uN, V, hR, hD⟩ := H.nf
  rcases Nat.eq_zero_or_pos lb with h0 | h0
  · refine (rwrite_no s gN uN V T.F w hR n off a0 lb cb bs hsrc.1 (.inr (.inr (.inl h0))) hl hof).mono ?_
    rintro e w' ⟨he, h1, h3⟩
    refine ⟨he, ?_⟩
    rw [h1]
    have hN : Nf w s T.F Dn := ⟨gN, uN, V, hR, hD⟩
    exact ⟨(hN.upd (Upd.of_below (F := fun _ => False) h3) (fun _ _ _ h => h)).mono (fun _ _ h => .inl h), Upd.of_below h3⟩
  refine (rwrite_any s gN uN V T.F w hR hF n off a0 lb cb bs hsrc (fun b o e h => ha h0 b o e (hD b h)) hcb hl hof).mono ?_
  rintro e w' ⟨rfl, h⟩
  exact ⟨rfl, NfTo.of hD h⟩
theorem Rs.unlink (H : Rs w x g s q Dn Dp T) (hF : FOk T.F) (hl : ∀ i, (T.F.P i).l ≤ 1000000) (l : ByteArray) (hs : l.size ≤ 1048576) :
    Calls Tryz.prog 75 #[.pointer (some ⟨s, 0, none⟩), .string l] w fun e w' => e = .returned (.int .i64 (T.F.unlink (bl l)).2) ∧ NfTo w s (T.F.unlink (bl l)).1 Dn w' := by
  obtain ⟨gN, uN, V, hR, hD⟩ := H.nf
  refine (runlink_any s gN uN V T.F w hR hF hl l hs).mono ?_
  rintro e w' ⟨rfl, h⟩
  exact ⟨rfl, NfTo.of hD h⟩
theorem Rs.rmdir (H : Rs w x g s q Dn Dp T) (hF : FOk T.F) (hl : ∀ i, (T.F.P i).l ≤ 1000000) (l : ByteArray) (hs : l.size ≤ 1048576) :
    Calls Tryz.prog 77 #[.pointer (some ⟨s, 0, none⟩), .string l] w fun e w' => e = .returned (.int .i64 (T.F.rmdir (bl l)).2) ∧ NfTo w s (T.F.rmdir (bl l)).1 Dn w' := by
  obtain ⟨gN, uN, V, hR, hD⟩ := H.nf
  refine (rrmdir_any s gN uN V T.F w hR hF hl l hs).mono ?_
  rintro e w' ⟨rfl, h⟩
  exact ⟨rfl, NfTo.of hD h⟩
theorem Rs.link (H : Rs w x g s q Dn Dp T) (hF : FOk T.F) (hl : ∀ i, (T.F.P i).l ≤ 1000000) (l l2 : ByteArray) (hs : l.size ≤ 1048576) (hs2 : l2.size ≤ 1048576) :
    Calls Tryz.prog 78 #[.pointer (some ⟨s, 0, none⟩), .string l, .string l2] w fun e w' => e = .returned (.int .i64 (T.F.link (bl l) (bl l2)).2) ∧ NfTo w s (T.F.link (bl l) (bl l2)).1 Dn w' := by
  obtain ⟨gN, uN, V, hR, hD⟩ := H.nf
  refine (rlink_any s gN uN V T.F w hR hF hl l l2 hs hs2).mono ?_
  rintro e w' ⟨rfl, h⟩
  exact ⟨rfl, NfTo.of hD h⟩
theorem Rs.rename (H : Rs w x g s q Dn Dp T) (hF : FOk T.F) (hl : ∀ i, (T.F.P i).l ≤ 1000000) (l l2 : ByteArray) (hs : l.size ≤ 1048576) (hs2 : l2.size ≤ 1048576) :
    Calls Tryz.prog 79 #[.pointer (some ⟨s, 0, none⟩), .string l, .string l2] w fun e w' => e = .returned (.int .i64 (T.F.rename (bl l) (bl l2)).2) ∧ NfTo w s (T.F.rename (bl l) (bl l2)).1 Dn w' := by
  obtain ⟨gN, uN, V, hR, hD⟩ := H.nf
  refine (rrename_any s gN uN V T.F w hR hF hl l l2 hs hs2).mono ?_
  rintro e w' ⟨rfl, h⟩
  exact ⟨rfl, NfTo.of hD h⟩

theorem TOk.r1 (H : TOk T) (n : Nat) : (T.P n).r ≤ 1000 ∧ (T.P n).w ≤ 1000 := by
  have h1 := H.r n
  have h2 := (H.pq n).2.1
  have h3 : cF T.O 2 n ≤ 11 := by
    unfold cF
    have := List.countP_le_length (p := fun i => decide ((T.O i).h ≠ 0 ∧ (T.O i).k = 2 ∧ (T.O i).of = (n : Int))) (l := List.range 11)
    rwa [List.length_range] at this
  omega
theorem Rs.pmake (H : Rs w x g s q Dn Dp T) :
    Calls Tryz.prog 62 #[.pointer (some ⟨q, 0, none⟩)] w fun e w' => e = .returned (.tuple #[.int .i64 (Pi.lowest T.P : Int), .int .i64 (Pi.makeE T.P)]) ∧ PdTo w q T.F.d (Pi.makeP T.P) Dp w' := by
  obtain ⟨B, gq, A, hR, hD⟩ := H.pd
  refine (Pi.rmake_any B q gq T.F.d A T.P w hR).mono ?_
  rintro e w' ⟨rfl, h, u⟩
  exact ⟨rfl, PdTo.own hD h u⟩
theorem Rs.pdrop (H : Rs w x g s q Dn Dp T) (hT : TOk T) (n : Int) (b : Bool) :
    Calls Tryz.prog 72 #[.pointer (some ⟨q, 0, none⟩), .int .i64 n, .bool b] w fun e w' => e = .returned (.int .i64 (Pi.dropE T.P n b)) ∧ PdTo w q T.F.d (Pi.dropP T.kp T.P n b) Dp w' := by
  obtain ⟨B, gq, A, hR, hD⟩ := H.pd
  refine (Pi.rdrop_any B q gq n T.F.d b A T.P w hR (fun i _ => hT.r1 i)).mono ?_
  rintro e w' ⟨rfl, h, u⟩
  exact ⟨rfl, PdTo.own hD h u⟩
theorem Rs.pread (H : Rs w x g s q Dn Dp T) (hT : TOk T) (n c : Int) :
    Calls Tryz.prog 66 #[.pointer (some ⟨q, 0, none⟩), .int .i64 n, .int .i64 c] w fun e w' => (∃ a c', e = .returned (.tuple #[.slice a (Pi.readL T.P n c).length c', .bool (Pi.readW T.P n c), .int .i64 (Pi.readE T.P n c)]) ∧ Src w' a (Pi.readL T.P n c).length (Pi.readL T.P n c)) ∧ PdTo w q T.F.d (Pi.readP T.P n c) Dp w' := by
  obtain ⟨B, gq, A, hR, hD⟩ := H.pd
  refine (Pi.rread_any B q gq n c T.F.d A T.P w hR (Nat.le_trans hR.geq (Nat.le_of_lt hR.qlt)) (fun i _ => (hT.pq i).1)).mono ?_
  rintro e w' ⟨a, c', rfl, h, u⟩
  exact ⟨⟨a, c', rfl, h⟩, PdTo.left hD u⟩
theorem Rs.pwrite (H : Rs w x g s q Dn Dp T) (hT : TOk T) (n : Int) (ab : Option Addr) (len cap : Nat) (zs : List Int) (hs : Src w ab len zs) (hlc : len ≤ cap) (hl : len ≤ 140737488355328) :
    Calls Tryz.prog 68 #[.pointer (some ⟨q, 0, none⟩), .int .i64 n, .slice ab len cap] w fun e w' => e = .returned (.tuple #[.int .i64 (Pi.writeN T.P n len), .bool (Pi.writeW T.P n len), .int .i64 (Pi.writeE T.P n)]) ∧ PdTo w q T.F.d (Pi.writeP T.P n zs) Dp w' := by
  obtain ⟨B, gq, A, hR, hD⟩ := H.pd
  refine (Pi.rwrite_any B q gq len cap n T.F.d ab zs A T.P w hR (Nat.le_trans hR.geq (Nat.le_of_lt hR.qlt)) (fun i _ => (hT.pq i).1) hs hlc hl).mono ?_
  rintro e w' ⟨rfl, u⟩
  exact ⟨rfl, PdTo.left hD u⟩
end

end Go.Proofs.YtoknhcjneliboaaGreat

/- What Read of the document's open files does. -/
namespace Go.Proofs.YtoknhcjneliboaaGreat
open Go.RowKit Go.ChangeMaps Go.MapKept
set_option linter.unusedVariables false
set_option maxRecDepth 20000

theorem own_src8 {w : World} {B : Nat} {a : Option Addr} {n c : Nat} {zs : List Int} (h : w.ownsRow B 5 1 (.slice a n c) n (zs.map (Value.int .u8))) : Src w a n zs := by
  have hl : zs.length = n := by have := h.1; simpa using this
  rcases h.2 with ⟨e, h0⟩ | ⟨g, cap, cur, e, rest⟩
  · subst h0
    exact ⟨hl, fun h => absurd h (Nat.lt_irrefl 0)⟩
  · injection e with e1 e2 e3
    subst e1
    exact Src.own h

set_option maxHeartbeats 8000000 in
theorem tdread (w : World) (x : Nat) (T : Ft) (D : Nat → Prop) (HP : Td w x T D) (hT : TOk T) (n c : Int) (hc : c ≤ 9223372036854775807) :
    Calls Tryz.prog 22 #[.pointer (some ⟨x, 0, none⟩), .int .i64 n, .int .i64 c] w fun e w' => (∃ a c', e = .returned (.tuple #[.slice a (T.read n c).2.1.length c', .bool (T.read n c).2.2.1, .int .i64 (T.read n c).2.2.2]) ∧ Src w' a (T.read n c).2.1.length (T.read n c).2.1) ∧ TdTo w x (T.read n c).1 D w' := by
  have HP0 := HP
  obtain ⟨g, s, q, Dn, Dp, H, hD⟩ := HP
  have k0 := hid (r8there w x g s q Dn Dp T H hT n)
  unfold Ft.read Ft.has
  cases hh : T.there n
  · rw [hh] at k0
    rw [if_pos (by simp)]
    have HQ := hid (TdTo.same HP0 (Below.refl _ w))
    clear H hD HP0 hT hh
    dsimp only
    go_enter Tryz.func22, Tryz.ntmps22
    go_wp2_with fail
    refine k0.out.mono ?_
    rintro e w1 ⟨rfl, rfl⟩
    clear k0
    go_wp2_with fail
    go_ret3
    exact ⟨⟨_, _, rfl, Src.nil _ _⟩, HQ.out⟩
  rw [hh] at k0
  obtain ⟨i, rfl, h1, hi, h0⟩ := Ft.there_lt hh
  rw [Int.toNat_natCast]
  have cl := H.cl
  have c0 := H.gf.c0 i hi
  have c1 := H.gf.c1 i hi
  have c2 := H.gf.c2 i hi
  have c3 := H.gf.c3 i hi
  have i1 : (0 : Int) ≤ (i : Int) := by omega
  have i2 : (i : Int) < 11 := by omega
  cases h3 : dfc (T.O i).fl 1
  · rw [if_pos (by simp)]
    obtain ⟨b1, b2⟩ := ddfc_f h3
    have HQ := hid (TdTo.same HP0 (Below.refl _ w))
    clear H hD HP0 hT hh h3 h0
    generalize (T.O i).fl = fl at c3 b1 b2
    dsimp only
    go_enter Tryz.func22, Tryz.ntmps22
    go_wp2_with fail
    refine k0.out.mono ?_
    rintro e w1 ⟨rfl, rfl⟩
    clear k0
    go_wp2_with fail
    go_ret3
    exact ⟨⟨_, _, rfl, Src.nil _ _⟩, HQ.out⟩
  rw [if_neg (by simp)]
  obtain ⟨b1, b2⟩ := ddfc_t h3
  by_cases hk : (T.O i).k = 1
  · rw [if_neg (by rw [hk]; simp)]
    rw [hk] at c0
    have cs := H.cs
    have hof := hT.off i
    have hle := read_le hT.F (T.O i).of (T.O i).off c (hT.off i)
    have HN : Hid (∀ X, Below w.heap.size w X → Calls Tryz.prog 67 #[.pointer (some ⟨s, 0, none⟩), .int .i64 (T.O i).of, .int .i64 (T.O i).off, .int .i64 c] X fun e w' => ∃ a c', e = .returned (.tuple #[.slice a (T.F.read (T.O i).of (T.O i).off c).1.length c', .int .i64 (T.F.read (T.O i).of (T.O i).off c).2]) ∧ Hid (w'.ownsRow w.heap.size 5 1 (.slice a (T.F.read (T.O i).of (T.O i).off c).1.length c') (T.F.read (T.O i).of (T.O i).off c).1.length ((T.F.read (T.O i).of (T.O i).off c).1.map (Value.int .u8)) ∧ Below w.heap.size w w')) := by
      refine hid (fun X hX => ((H.grow hX).nread hT.F (T.O i).of (T.O i).off c (by omega) hc).mono ?_)
      rintro e w' ⟨⟨v, rfl, hO⟩, hb⟩
      obtain ⟨a, c', rfl, _⟩ := own_shp hO
      exact ⟨a, c', rfl, hid ⟨own_base hO hX.size, hX.trans (hb.mono hX.size)⟩⟩
    have HF : Hid (∀ X, Below w.heap.size w X → X.cell? ⟨x, 0, none⟩ = some (.slice (some ⟨g, 0, none⟩) 11 11) ∧ X.cell? ⟨x, 1, none⟩ = some (.pointer (some ⟨s, 0, none⟩)) ∧ X.cell? ⟨g, i * 5 + 1, none⟩ = some (.int .i64 (T.O i).of) ∧ X.cell? ⟨g, i * 5 + 2, none⟩ = some (.int .i64 (T.O i).off) ∧ X.frozen? ⟨g, i * 5 + 2, none⟩ = false) := hid (fun X hX => ⟨(H.grow hX).cl, (H.grow hX).cs, (H.grow hX).gf.c1 i hi, (H.grow hX).gf.c2 i hi, (H.grow hX).gf.fz _⟩)
    have HM : Hid (∀ X, Below w.heap.size w X → ∀ v, TdTo w x (T.at_ i { T.O i with off := v }) D (X.setCell ⟨g, i * 5 + 2, none⟩ (.int .i64 v))) := hid (fun X hX v => TdTo.fil (H.grow hX) hX hD ((H.grow hX).gf.offTo i hi v) (Upd.setCell (F := (· = g)) X ⟨g, _, none⟩ _ rfl))
    have HGL : Hid (g < w.heap.size) := hid H.gf.lt
    clear H hD HP0 hT hh h3 h0
    generalize T.F.read (T.O i).of (T.O i).off c = r at HN hle ⊢
    obtain ⟨L, E⟩ := r
    dsimp only at HN hle ⊢
    obtain ⟨off, goff⟩ : ∃ off, off = (T.O i).off := ⟨_, rfl⟩
    rw [← goff] at c2 hof hle HN HF ⊢
    obtain ⟨ln, gln⟩ : ∃ ln, ln = L.length := ⟨_, rfl⟩
    rw [← gln] at hle HN ⊢
    have hl0 : (0 : Int) ≤ (ln : Int) := by omega
    have w64 : IntKind.i64.wrap (off + (ln : Int)) = off + (ln : Int) := by rw [IntKind.wrap_i64]; omega
    have HM := hid (fun X hX => HM.out X hX (off + (ln : Int)))
    generalize T.at_ i { T.O i with off := off + (ln : Int) } = T' at HM ⊢
    clear goff gln
    generalize (T.O i).of = of at c1 HN HF
    generalize (T.O i).fl = fl at c3 b1 b2
    go_enter Tryz.func22, Tryz.ntmps22
    go_wp2_with fail
    refine k0.out.mono ?_
    rintro e w1 ⟨rfl, rfl⟩
    clear k0
    go_wp2_with fail
    go_region_held3 (fun X => X.cell? ⟨x, 0, none⟩ = some (.slice (some ⟨g, 0, none⟩) 11 11) ∧ X.cell? ⟨x, 1, none⟩ = some (.pointer (some ⟨s, 0, none⟩)) ∧ X.cell? ⟨g, i * 5 + 1, none⟩ = some (.int .i64 of) ∧ X.cell? ⟨g, i * 5 + 2, none⟩ = some (.int .i64 off)) (go_keep) ((go_at_call 67; refine (HN.out _ (Below.refl _ _).drew).mono ?_; rintro e w3 ⟨a, c', rfl, H3⟩; obtain ⟨y0, y1, y2, y3, y4⟩ := HF.out w3 H3.out.2))
    have hm := HM.out w3 H3.out.2
    have hu : Upd (· = g) w3 (w3.setCell ⟨g, i * 5 + 2, none⟩ (.int .i64 (off + (ln : Int)))) := Upd.setCell (F := (· = g)) w3 ⟨g, _, none⟩ _ rfl
    have hO := hu.own H3.out.1 (fun b hb e => by have := (H3.out.1.lt b hb).1; have := HGL.out; omega)
    have HQ := hid (And.intro (own_src8 hO) hm)
    clear hm hu hO H3 HN HF c0 c1 c2 c3 cl cs
    go_wp2_with fail
    go_ret3
    exact ⟨⟨_, _, rfl, HQ.out.1⟩, HQ.out.2⟩
  · rw [if_pos hk]
    have cq := H.cq
    have hk' : ¬ (T.O i).k = 1 := hk
    have HN : Hid (∀ X, Below w.heap.size w X → Calls Tryz.prog 66 #[.pointer (some ⟨q, 0, none⟩), .int .i64 (T.O i).of, .int .i64 c] X fun e w' => ∃ a c', e = .returned (.tuple #[.slice a (Pi.readL T.P (T.O i).of c).length c', .bool (Pi.readW T.P (T.O i).of c), .int .i64 (Pi.readE T.P (T.O i).of c)]) ∧ Hid (Src w' a (Pi.readL T.P (T.O i).of c).length (Pi.readL T.P (T.O i).of c) ∧ TdTo w x { T with P := Pi.readP T.P (T.O i).of c } D w' ∧ w'.cell? ⟨x, 0, none⟩ = some (.slice (some ⟨g, 0, none⟩) 11 11) ∧ w'.cell? ⟨x, 2, none⟩ = some (.pointer (some ⟨q, 0, none⟩)) ∧ w'.cell? ⟨g, i * 5 + 1, none⟩ = some (.int .i64 (T.O i).of))) := by
      refine hid (fun X hX => ((H.grow hX).pread hT (T.O i).of c).mono ?_)
      rintro e w' ⟨⟨a, c', rfl, hs⟩, hp⟩
      have hr := (H.grow hX).pip hp
      exact ⟨a, c', rfl, hid ⟨hs, TdTo.pip (H.grow hX) hX hD hp, hr.cl, hr.cq, hr.gf.c1 i hi⟩⟩
    clear H hD HP0 hT hh h3 h0
    dsimp only
    generalize ({ T with P := Pi.readP T.P (T.O i).of c } : Ft) = T' at HN ⊢
    generalize Pi.readL T.P (T.O i).of c = L at HN ⊢
    generalize Pi.readW T.P (T.O i).of c = W at HN ⊢
    generalize Pi.readE T.P (T.O i).of c = E at HN ⊢
    generalize (T.O i).of = of at c1 HN
    generalize (T.O i).off = off at c2
    generalize (T.O i).fl = fl at c3 b1 b2
    generalize (T.O i).k = k at c0 hk'
    go_enter Tryz.func22, Tryz.ntmps22
    go_wp2_with fail
    refine k0.out.mono ?_
    rintro e w1 ⟨rfl, rfl⟩
    clear k0
    go_wp2_with fail
    go_region_held3 (fun X => X.cell? ⟨x, 0, none⟩ = some (.slice (some ⟨g, 0, none⟩) 11 11) ∧ X.cell? ⟨x, 2, none⟩ = some (.pointer (some ⟨q, 0, none⟩)) ∧ X.cell? ⟨g, i * 5 + 1, none⟩ = some (.int .i64 of)) (go_keep) ((go_at_call 66; refine (HN.out _ (Below.refl _ _).drew).mono ?_; rintro e w3 ⟨a, c', rfl, H3⟩; obtain ⟨h5, h6, y0, y1, y2⟩ := H3.out))
    have HQ := hid (And.intro h5 h6)
    clear h5 h6 H3 HN
    go_wp2_with fail
    go_ret3
    exact ⟨⟨_, _, rfl, HQ.out.1⟩, HQ.out.2⟩

end Go.Proofs.YtoknhcjneliboaaGreat

/- What Write of the document's open files does. (Written by gen_td4.py.) -/
namespace Go.Proofs.YtoknhcjneliboaaGreat
open Go.RowKit Go.ChangeMaps Go.MapKept
set_option linter.unusedVariables false
set_option maxRecDepth 20000

theorem box_kept {w w1 : World} {Z : Obj} {a : Nat} (hal : a < w.heap.size) (hb : Below (w.alloc Z).drew.heap.size (w.alloc Z).drew w1) : w1.heap[a]? = w.heap[a]? ∧ w1.heap[w.heap.size]? = some Z ∧ w.heap.size < w1.heap.size := by
  have e : (w.alloc Z).drew.heap = (w.alloc Z).heap := rfl
  have hs : (w.alloc Z).heap.size = w.heap.size + 1 := by simp
  have hz : (w.alloc Z).drew.heap.size = w.heap.size + 1 := by rw [e]; exact hs
  refine ⟨?_, ?_, ?_⟩
  · rw [hb.block a (by omega), e]
    exact ((Below.refl w.heap.size w).alloc (Nat.le_refl _) Z).block a hal
  · rw [hb.block w.heap.size (by omega), e]
    exact heap_alloc_new w Z
  · have := hb.size; omega

theorem cell_set_other (w : World) (g j : Nat) (v : Value) (a : Addr) (h : a.block ≠ g) : (w.setCell ⟨g, j, none⟩ v).cell? a = w.cell? a :=
  World.cell?_of_block (heap_setCell_other w ⟨g, j, none⟩ a.block v h)

/-- The node of an open file is there. -/
theorem TOk.nodeD {T : Ft} (H : TOk T) (j : Nat) (hj : j < 11) (hh : (T.O j).h ≠ 0) (hk : (T.O j).k = 1) : ∃ m : Nat, (T.O j).of = (m : Int) ∧ T.F.there m = true := by
  obtain ⟨m, hm⟩ := H.of j
  have hc := cF_mem hj hh m hm
  rw [hk] at hc
  have hp : 0 < (T.F.P m).h := by rw [H.hc m]; omega
  have hk : (T.F.P m).k ≠ 0 := fun e => by rw [H.F.none m e] at hp; exact absurd hp (by decide)
  have hl := H.F.lt hk
  refine ⟨m, hm, ?_⟩
  unfold Fs.there
  simp only [Int.toNat_natCast, decide_eq_true_eq]
  exact ⟨by omega, by omega, hk⟩
theorem stat_thereD {F : Fs} {n : Int} (h : F.there n = true) : (F.stat n).2.2.1 = (F.size n.toNat : Int) ∧ (F.stat n).2.2.2 = 0 ∧ (F.stat n).1 = (F.P n.toNat).k := by
  unfold Fs.stat
  rw [if_neg (by rw [h]; simp)]
  exact ⟨rfl, rfl, rfl⟩
theorem dwrite_err {F : Fs} {n off : Int} {b : List Int} (h : (F.write n off b).2.2 ≠ 0) : (F.write n off b).1 = F ∧ (F.write n off b).2.1 = 0 := by
  unfold Fs.write at h ⊢
  split
  · exact ⟨rfl, rfl⟩
  split
  · exact ⟨rfl, rfl⟩
  split
  · exact ⟨rfl, rfl⟩
  split
  · exact ⟨rfl, rfl⟩
  split
  · exact ⟨rfl, rfl⟩
  · rename_i a b c d e
    rw [if_neg a, if_neg b, if_neg c, if_neg d, if_neg e] at h
    exact absurd rfl h

set_option maxHeartbeats 8000000 in
theorem tdwrite (w : World) (x : Nat) (T : Ft) (D : Nat → Prop) (HP : Td w x T D) (hT : TOk T) (n : Int) (ab : Option Addr) (len cap : Nat) (zs : List Int) (hs : Src w ab len zs) (ha : 0 < len → ∀ b o, ab = some ⟨b, o, none⟩ → ¬ D b) (hlc : len ≤ cap) (hl : len ≤ 140737488355328) :
    Calls Tryz.prog 26 #[.pointer (some ⟨x, 0, none⟩), .int .i64 n, .slice ab len cap] w fun e w' => e = .returned (.tuple #[.int .i64 (T.write n zs).2.1, .bool (T.write n zs).2.2.1, .int .i64 (T.write n zs).2.2.2]) ∧ TdTo w x (T.write n zs).1 D w' := by
  have HP0 := HP
  obtain ⟨g, s, q, Dn, Dp, H, hD⟩ := HP
  have k0 := hid (r8there w x g s q Dn Dp T H hT n)
  unfold Ft.write Ft.has
  have hzl := hs.1
  cases hh : T.there n
  · rw [hh] at k0
    rw [if_pos (by simp)]
    have HQ := hid (TdTo.same HP0 (Below.refl _ w))
    clear H hD HP0 hT hh hs ha hzl
    dsimp only
    go_enter Tryz.func26, Tryz.ntmps26
    go_wp2_with fail
    refine k0.out.mono ?_
    rintro e w1 ⟨rfl, rfl⟩
    clear k0
    go_wp2_with fail
    go_ret3
    exact ⟨rfl, HQ.out⟩
  rw [hh] at k0
  obtain ⟨i, rfl, h1, hi, h0⟩ := Ft.there_lt hh
  rw [Int.toNat_natCast]
  have cl := H.cl
  have c0 := H.gf.c0 i hi
  have c1 := H.gf.c1 i hi
  have c2 := H.gf.c2 i hi
  have c3 := H.gf.c3 i hi
  have c4 := H.gf.c4 i hi
  have i1 : (0 : Int) ≤ (i : Int) := by omega
  have i2 : (i : Int) < 11 := by omega
  cases h3 : dfc (T.O i).fl 2
  · rw [if_pos (by simp)]
    obtain ⟨b1, b2⟩ := ddfc_f h3
    have HQ := hid (TdTo.same HP0 (Below.refl _ w))
    clear H hD HP0 hT hh h3 h0 hs ha hzl
    generalize (T.O i).fl = fl at c3 b1 b2
    dsimp only
    go_enter Tryz.func26, Tryz.ntmps26
    go_wp2_with fail
    refine k0.out.mono ?_
    rintro e w1 ⟨rfl, rfl⟩
    clear k0
    go_wp2_with fail
    go_ret3
    exact ⟨rfl, HQ.out⟩
  rw [if_neg (by simp)]
  obtain ⟨b1, b2⟩ := ddfc_t h3
  obtain ⟨W, gW⟩ : ∃ W, W = w.alloc (Obj.cells #[.int .i64 (T.O i).k, .int .i64 (T.O i).of, .int .i64 (T.O i).off, .int .i64 (T.O i).fl, .int .i64 (T.O i).h] 124) := ⟨_, rfl⟩
  have hB : Below w.heap.size w W := by rw [gW]; exact one_new _ _
  have hrow : W.heap[w.heap.size]? = some (.cells #[.int .i64 (T.O i).k, .int .i64 (T.O i).of, .int .i64 (T.O i).off, .int .i64 (T.O i).fl, .int .i64 (T.O i).h] 124 (0, 0)) := by rw [gW]; exact heap_alloc_new _ _
  have hZ : w.heap.size < W.heap.size := by rw [gW]; simp
  have hxw := H.xlt
  have hxW := (H.grow hB).xlt
  have hgw := H.gf.lt
  obtain ⟨lbk, glb⟩ : ∃ lbk, lbk = w.heap.size := ⟨_, rfl⟩
  have e1 : W.cell? ⟨lbk, 1, none⟩ = some (.int .i64 (T.O i).of) := by rw [glb, cell_of_row _ _ 1 _ _ _ hrow]; rfl
  have HGB := hid glb
  have hlbW : lbk < W.heap.size := by omega
  by_cases hk : (T.O i).k = 1
  · rw [if_neg (by rw [hk]; simp)]
    rw [hk] at c0 gW
    obtain ⟨m, hm, hth⟩ := hT.nodeD i hi h0 hk
    have hst := stat_thereD hth
    rw [Int.toNat_natCast] at hst
    have hle := write_le (F := T.F) (T.O i).of (T.from_ (T.O i)) zs (Ft.from_le hT i)
    have hfr := Ft.from_le hT i
    have KST : Hid (∀ X, Below W.heap.size W X → ∃ s1 s2, Calls Tryz.prog 58 #[.pointer (some ⟨s, 0, none⟩), .int .i64 (T.O i).of] X fun e w' => e = .returned (.tuple #[.agg #[.int .i64 s1, .int .i64 s2, .int .i64 (T.F.size m : Int)], .int .i64 0]) ∧ Below X.heap.size X w') := by
      refine hid (fun X hX => ⟨(T.F.stat (T.O i).of).1, (T.F.stat (T.O i).of).2.1, (((H.grow hB).grow hX).stat hT.F (T.O i).of).mono ?_⟩)
      rintro e w' ⟨rfl, h⟩
      rw [hm, hst.1, hst.2.1]
      exact ⟨rfl, h⟩
    have KST : Hid (∃ s1 s2, ∀ X, Below W.heap.size W X → Calls Tryz.prog 58 #[.pointer (some ⟨s, 0, none⟩), .int .i64 (T.O i).of] X fun e w' => e = .returned (.tuple #[.agg #[.int .i64 s1, .int .i64 s2, .int .i64 (T.F.size m : Int)], .int .i64 0]) ∧ Below X.heap.size X w') := by
      refine hid ⟨(T.F.stat (T.O i).of).1, (T.F.stat (T.O i).of).2.1, fun X hX => (((H.grow hB).grow hX).stat hT.F (T.O i).of).mono ?_⟩
      rintro e w' ⟨rfl, h⟩
      rw [hm, hst.1, hst.2.1]
      exact ⟨rfl, h⟩
    have HJ : Hid (∀ X w4, Below w.heap.size w X → NfTo X s (T.F.write (T.O i).of (T.from_ (T.O i)) zs).1 Dn w4 →
        ((T.F.write (T.O i).of (T.from_ (T.O i)) zs).2.2 ≠ 0 → TdTo w x T D w4 ∧ (T.F.write (T.O i).of (T.from_ (T.O i)) zs).2.1 = 0) ∧
        ((T.F.write (T.O i).of (T.from_ (T.O i)) zs).2.2 = 0 → w4.cell? ⟨x, 0, none⟩ = some (.slice (some ⟨g, 0, none⟩) 11 11) ∧ w4.cell? ⟨g, i * 5 + 2, none⟩ = some (.int .i64 (T.O i).off) ∧ w4.frozen? ⟨g, i * 5 + 2, none⟩ = false ∧ TdTo w x { T with F := (T.F.write (T.O i).of (T.from_ (T.O i)) zs).1, O := updF T.O i { T.O i with off := T.from_ (T.O i) + (T.F.write (T.O i).of (T.from_ (T.O i)) zs).2.1 } } D (w4.setCell ⟨g, i * 5 + 2, none⟩ (.int .i64 (T.from_ (T.O i) + (T.F.write (T.O i).of (T.from_ (T.O i)) zs).2.1))))) := by
      refine hid (fun X w4 hX h => ?_)
      have hSX := H.grow hX
      have hS4 := hSX.sys h (SH.write _ _ _ _).1
      refine ⟨fun he => ⟨?_, (dwrite_err he).2⟩, fun he => ⟨hS4.cl, hS4.gf.c2 i hi, hS4.gf.fz _, ?_⟩⟩
      · have := TdTo.sys hSX hX hD h (SH.write _ _ _ _).1
        rw [(dwrite_err he).1] at this
        exact this
      · have h5 := hS4.fil (hS4.gf.offTo i hi (T.from_ (T.O i) + (T.F.write (T.O i).of (T.from_ (T.O i)) zs).2.1)) (Upd.setCell (F := (· = g)) w4 ⟨g, _, none⟩ _ rfl)
        exact TdTo.of h5 hD (fun b hb => hb.1.imp id (fun h => Nat.le_trans hX.size h)) (fun b hb => .inl hb) (((Upd.of_below hX).trans h.2 (fun b _ hb => .inr (.inr (.inl hb)))).trans (Upd.setCell (F := RFoot x g Dn Dp) w4 ⟨g, _, none⟩ _ (.inr (.inl rfl))) (fun _ _ h => h))
    have KW : Hid (∀ X, Below W.heap.size W X → Calls Tryz.prog 69 #[.pointer (some ⟨s, 0, none⟩), .int .i64 (T.O i).of, .int .i64 (T.from_ (T.O i)), .slice ab len cap] X fun e w' => e = .returned (.tuple #[.int .i64 (T.F.write (T.O i).of (T.from_ (T.O i)) zs).2.1, .int .i64 (T.F.write (T.O i).of (T.from_ (T.O i)) zs).2.2]) ∧ Hid (NfTo X s (T.F.write (T.O i).of (T.from_ (T.O i)) zs).1 Dn w' ∧ w'.cell? ⟨x, 1, none⟩ = some (.pointer (some ⟨s, 0, none⟩)) ∧ w'.cell? ⟨lbk, 1, none⟩ = some (.int .i64 (T.O i).of))) := by
      refine hid (fun X hX => ?_)
      have hSX := (H.grow hB).grow hX
      refine (hSX.nwrite hT.F (T.O i).of (T.from_ (T.O i)) ab len cap zs ((hs.below hB).below hX) (fun h0 b o e h => ha h0 b o e (hD b (.inr (.inr (.inl h))))) hlc (by omega) (by omega)).mono ?_
      rintro e w' ⟨rfl, h⟩
      refine ⟨rfl, hid ⟨h, (hSX.sys h (SH.write _ _ _ _).1).cs, ?_⟩⟩
      have hb := h.2.block lbk (Nat.lt_of_lt_of_le (by omega) hX.size) (fun e => by have := H.ln lbk e; omega)
      exact (World.cell?_of_block (a := ⟨lbk, 1, none⟩) hb).trans ((hX.cell (p := ⟨lbk, 1, none⟩) hlbW).trans e1)
    have HCS : Hid (∀ X, Below W.heap.size W X → X.cell? ⟨x, 1, none⟩ = some (.pointer (some ⟨s, 0, none⟩)) ∧ X.cell? ⟨lbk, 1, none⟩ = some (.int .i64 (T.O i).of)) := hid (fun X hX => ⟨((H.grow hB).grow hX).cs, (hX.cell (p := ⟨lbk, 1, none⟩) hlbW).trans e1⟩)
    have eW : ∀ (Q : Ft × Int × Bool × Int → Prop), Q (if (T.F.write (T.O i).of (T.from_ (T.O i)) zs).2.2 ≠ 0 then T else { T with F := (T.F.write (T.O i).of (T.from_ (T.O i)) zs).1, O := updF T.O i { T.O i with off := T.from_ (T.O i) + (T.F.write (T.O i).of (T.from_ (T.O i)) zs).2.1 } }, (T.F.write (T.O i).of (T.from_ (T.O i)) zs).2.1, false, (T.F.write (T.O i).of (T.from_ (T.O i)) zs).2.2) → Q (if (T.F.write (T.O i).of (T.from_ (T.O i)) zs).2.2 ≠ 0 then (T, 0, false, (T.F.write (T.O i).of (T.from_ (T.O i)) zs).2.2) else ({ T with F := (T.F.write (T.O i).of (T.from_ (T.O i)) zs).1, O := updF T.O i { T.O i with off := T.from_ (T.O i) + (T.F.write (T.O i).of (T.from_ (T.O i)) zs).2.1 } }, (T.F.write (T.O i).of (T.from_ (T.O i)) zs).2.1, false, 0)) := by
      intro Q hQ
      by_cases he : (T.F.write (T.O i).of (T.from_ (T.O i)) zs).2.2 ≠ 0
      · rw [if_pos he] at hQ ⊢
        rw [(dwrite_err he).2] at hQ
        exact hQ
      · rw [if_neg he] at hQ ⊢
        rw [Decidable.not_not.1 he] at hQ
        exact hQ
    refine eW (fun r => Calls Tryz.prog 26 #[.pointer (some ⟨x, 0, none⟩), .int .i64 (i : Int), .slice ab len cap] w fun e w' => e = .returned (.tuple #[.int .i64 r.2.1, .bool r.2.2.1, .int .i64 r.2.2.2]) ∧ TdTo w x r.1 D w') ?_
    clear eW
    dsimp only
    have e_ap : T.from_ (T.O i) = if dfc (T.O i).fl 4 = true then (T.F.size m : Int) else (T.O i).off := by unfold Ft.from_; rw [hm, Int.toNat_natCast]
    have cs := H.cs
    have HB := hid hB
    obtain ⟨s1, s2, KST⟩ := KST.out
    have KST := hid KST
    have y1 : W.cell? ⟨x, 1, none⟩ = some (.pointer (some ⟨s, 0, none⟩)) := (H.grow hB).cs
    have yb := e1
    have hxl := hxW
    have hll : lbk < W.heap.size := by omega
    clear H hD HP0 hT hh h3 h0 hs ha hB hm hth hst hk hrow hzl e1 glb
    generalize ({ T with F := (T.F.write (T.O i).of (T.from_ (T.O i)) zs).1, O := updF T.O i { T.O i with off := T.from_ (T.O i) + (T.F.write (T.O i).of (T.from_ (T.O i)) zs).2.1 } } : Ft) = T' at HJ ⊢
    generalize T.F.write (T.O i).of (T.from_ (T.O i)) zs = r at HJ KW hle ⊢
    obtain ⟨F', m', E⟩ := r
    dsimp only at HJ KW hle ⊢
    generalize T.from_ (T.O i) = fr at HJ KW hle hfr e_ap ⊢
    generalize (T.F.size m : Int) = s3 at KST e_ap
    have h4 : dfc (T.O i).fl 4 = true ∨ dfc (T.O i).fl 4 = false := by cases dfc (T.O i).fl 4 <;> simp
    have w64 : IntKind.i64.wrap (fr + m') = fr + m' := by rw [IntKind.wrap_i64]; omega
    generalize (T.O i).off = off at c2 gW HJ e_ap
    generalize (T.O i).of = of at c1 gW KST KW HCS yb
    generalize (T.O i).fl = fl at c3 b1 b2 gW e_ap h4
    generalize (T.O i).h = hh at c4 gW
    rcases h4 with h4 | h4
    · rw [if_pos h4] at e_ap
      obtain ⟨b3, b4⟩ := ddfc_t h4
      subst e_ap
      clear h4
      go_enter Tryz.func26, Tryz.ntmps26
      go_wp2_with fail
      refine k0.out.mono ?_
      rintro e w1 ⟨rfl, rfl⟩
      clear k0
      go_wp2_with fail
      rw [← gW, ← HGB.out]
      clear gW
      go_cut [11, 12] (fun v11 v12 wx => ∃ a, v11 = .pointer (some ⟨a, 0, none⟩) ∧ v12 = .int .i64 0 ∧ Hid (Below W.heap.size W wx) ∧ Hid (wx.heap[a]? = some (.cells #[.int .i64 s1, .int .i64 s2, .int .i64 fr] 87 (0, 0))))
      case first =>
        have hnx : x ≠ W.heap.size := by omega
        have hnl : lbk ≠ W.heap.size := by omega
        have HA : Hid (Below W.heap.size W (W.alloc (.cells #[.int .i64 0, .int .i64 0, .int .i64 0] 87)).drew) := hid ((Below.refl _ _).alloc (Nat.le_refl _) (.cells #[.int .i64 0, .int .i64 0, .int .i64 0] 87)).drew
        have ya1 := (HA.out.cell (p := ⟨x, 1, none⟩) hxl).trans y1
        have yab := (HA.out.cell (p := ⟨lbk, 1, none⟩) hll).trans yb
        go_region_held3 (fun V => V.cell? ⟨x, 1, none⟩ = some (.pointer (some ⟨s, 0, none⟩)) ∧ V.cell? ⟨lbk, 1, none⟩ = some (.int .i64 of)) (first | (refine ⟨?_, ?_⟩ <;> assumption) | exact ⟨ya1, yab⟩ | (refine ⟨?_, ?_⟩ <;> first | (rw [cell_set_other _ _ _ _ _ hnx, cell_set_other _ _ _ _ _ hnx, cell_set_other _ _ _ _ _ hnx]; assumption) | (rw [cell_set_other _ _ _ _ _ hnl, cell_set_other _ _ _ _ _ hnl, cell_set_other _ _ _ _ _ hnl]; assumption)) | go_keep) (first
          | (go_at_call 58; refine (KST.out _ (Below.refl _ _).drew).mono ?_; rintro e w1 ⟨rfl, hb⟩; have HB1 : Hid (Below W.heap.size W w1) := hid ((Below.refl _ _).drew.trans hb); have z1 := (HB1.out.cell (p := ⟨x, 1, none⟩) hxl).trans y1; have zb := (HB1.out.cell (p := ⟨lbk, 1, none⟩) hll).trans yb; clear hb)
          | (go_at_call 58; refine (KST.out _ HA.out).mono ?_; rintro e w1 ⟨rfl, hb⟩; obtain ⟨_, hrow, _⟩ := box_kept hxl hb; have HB1 : Hid (Below W.heap.size W w1) := hid (HA.out.trans (hb.mono HA.out.size)); have hr0 : w1.cell? ⟨W.heap.size, 0, none⟩ = some (.int .i64 0) := (by rw [cell_of_row _ _ 0 _ _ _ hrow]; rfl); have hr1 : w1.cell? ⟨W.heap.size, 1, none⟩ = some (.int .i64 0) := (by rw [cell_of_row _ _ 1 _ _ _ hrow]; rfl); have hr2 : w1.cell? ⟨W.heap.size, 2, none⟩ = some (.int .i64 0) := (by rw [cell_of_row _ _ 2 _ _ _ hrow]; rfl); have hf0 : w1.frozen? ⟨W.heap.size, 0, none⟩ = false := (by simp [World.frozen?, hrow]); have hf1 : w1.frozen? ⟨W.heap.size, 1, none⟩ = false := (by simp [World.frozen?, hrow]); have hf2 : w1.frozen? ⟨W.heap.size, 2, none⟩ = false := (by simp [World.frozen?, hrow]); have HROW := hid hrow; clear hrow; have z1 := (HB1.out.cell (p := ⟨x, 1, none⟩) hxl).trans y1; have zb := (HB1.out.cell (p := ⟨lbk, 1, none⟩) hll).trans yb; clear hb)
          | fail)
        all_goals
          go_wp2_with fail
          go_meet
          case rel =>
            first
            | exact ⟨W.heap.size, rfl, rfl, hid (((HB1.out.setCell (Nat.le_refl _) _).setCell (Nat.le_refl _) _).setCell (Nat.le_refl _) _), hid (heap_setCell_same _ W.heap.size 2 _ _ _ (heap_setCell_same _ W.heap.size 1 _ _ _ (heap_setCell_same w1 W.heap.size 0 _ _ _ HROW.out)))⟩
            | exact ⟨W.heap.size, rfl, rfl, hid (((HB1.out.setCell (Nat.le_refl _) _).setCell (Nat.le_refl _) _).setCell (Nat.le_refl _) _).drew, hid (heap_setCell_same _ W.heap.size 2 _ _ _ (heap_setCell_same _ W.heap.size 1 _ _ _ (heap_setCell_same w1 W.heap.size 0 _ _ _ HROW.out)))⟩
            | exact ⟨w1.heap.size, rfl, rfl, hid (HB1.out.trans ((one_new w1 _).mono HB1.out.size)), hid (heap_alloc_new _ _)⟩
            | exact ⟨w1.heap.size, rfl, rfl, hid (HB1.out.trans ((one_new w1 _).mono HB1.out.size)).drew, hid (heap_alloc_new _ _)⟩
      case rest =>
        obtain ⟨a, rfl, rfl, HBC, HRA⟩ := hcut
        have d2 : wc.cell? ⟨a, 2, none⟩ = some (.int .i64 fr) := by rw [cell_of_row _ _ 2 _ _ _ HRA.out]; rfl
        obtain ⟨v1, vb⟩ := HCS.out wc HBC.out
        clear HRA c0 c1 c2 c3 c4 cl cs y1 yb
        go_wp2_with fail
        go_region_held3 (fun V => V.cell? ⟨x, 1, none⟩ = some (.pointer (some ⟨s, 0, none⟩)) ∧ V.cell? ⟨lbk, 1, none⟩ = some (.int .i64 of)) (go_keep) ((go_at_call 69; refine (KW.out _ (HBC.out).drew).mono ?_; rintro e w3 ⟨rfl, H3⟩; obtain ⟨h5, z1, zb⟩ := H3.out))
        have hXX : Below w1.heap.size w1 (wc).drew := HB.out.trans (((HBC.out).drew).mono HB.out.size)
        obtain ⟨j1, j2⟩ := HJ.out _ w3 hXX h5
        by_cases hE : E = 0
        · subst hE
          obtain ⟨cl3, c23, f23, h6⟩ := j2 rfl
          have HQ := hid h6
          clear j1 j2 h5 h6 H3 HJ KW z1 zb hXX
          go_wp2_with fail
          go_ret3
          exact ⟨rfl, HQ.out⟩
        · obtain ⟨j3, rfl⟩ := j1 hE
          have HQ := hid j3
          have hE' : (E == 0) = false := by simpa using hE
          clear j1 j2 j3 h5 H3 HJ KW z1 zb hXX
          go_wp2_with fail
          go_ret3
          exact ⟨rfl, HQ.out⟩

    · rw [if_neg (by rw [h4]; simp)] at e_ap
      obtain ⟨b3, b4⟩ := ddfc_f h4
      subst e_ap
      clear h4
      go_enter Tryz.func26, Tryz.ntmps26
      go_wp2_with fail
      refine k0.out.mono ?_
      rintro e w1 ⟨rfl, rfl⟩
      clear k0
      go_wp2_with fail
      rw [← gW, ← HGB.out]
      clear gW c0 c1 c2 c3 c4 cl cs
      go_region_held3 (fun V => V.cell? ⟨x, 1, none⟩ = some (.pointer (some ⟨s, 0, none⟩)) ∧ V.cell? ⟨lbk, 1, none⟩ = some (.int .i64 of)) (go_keep) ((go_at_call 69; refine (KW.out _ (Below.refl _ _).drew).mono ?_; rintro e w3 ⟨rfl, H3⟩; obtain ⟨h5, z1, zb⟩ := H3.out))
      have hXX : Below w1.heap.size w1 (W).drew := HB.out.trans (((Below.refl _ _).drew).mono HB.out.size)
      obtain ⟨j1, j2⟩ := HJ.out _ w3 hXX h5
      by_cases hE : E = 0
      · subst hE
        obtain ⟨cl3, c23, f23, h6⟩ := j2 rfl
        have HQ := hid h6
        clear j1 j2 h5 h6 H3 HJ KW z1 zb hXX
        go_wp2_with fail
        go_ret3
        exact ⟨rfl, HQ.out⟩
      · obtain ⟨j3, rfl⟩ := j1 hE
        have HQ := hid j3
        have hE' : (E == 0) = false := by simpa using hE
        clear j1 j2 j3 h5 H3 HJ KW z1 zb hXX
        go_wp2_with fail
        go_ret3
        exact ⟨rfl, HQ.out⟩

  · rw [if_pos hk]
    dsimp only
    have HN : Hid (∀ X, Below W.heap.size W X → Calls Tryz.prog 68 #[.pointer (some ⟨q, 0, none⟩), .int .i64 (T.O i).of, .slice ab len cap] X fun e w' => e = .returned (.tuple #[.int .i64 (Pi.writeN T.P (T.O i).of zs.length), .bool (Pi.writeW T.P (T.O i).of zs.length), .int .i64 (Pi.writeE T.P (T.O i).of)]) ∧ Hid (TdTo w x { T with P := Pi.writeP T.P (T.O i).of zs } D w' ∧ w'.cell? ⟨x, 2, none⟩ = some (.pointer (some ⟨q, 0, none⟩)) ∧ w'.cell? ⟨lbk, 1, none⟩ = some (.int .i64 (T.O i).of))) := by
      refine hid (fun X hX => ?_)
      have hSX := (H.grow hB).grow hX
      rw [hzl]
      refine (hSX.pwrite hT (T.O i).of ab len cap zs ((hs.below hB).below hX) hlc hl).mono ?_
      rintro e w' ⟨rfl, h⟩
      have hr := hSX.pip h
      refine ⟨rfl, hid ⟨TdTo.pip hSX (hB.trans (hX.mono hB.size)) hD h, hr.cq, ?_⟩⟩
      have hb := h.2.block lbk (Nat.lt_of_lt_of_le (by omega) hX.size) (fun e => by have := H.lp lbk e; omega)
      exact (World.cell?_of_block (a := ⟨lbk, 1, none⟩) hb).trans ((hX.cell (p := ⟨lbk, 1, none⟩) hlbW).trans e1)
    have y2 : W.cell? ⟨x, 2, none⟩ = some (.pointer (some ⟨q, 0, none⟩)) := (H.grow hB).cq
    have hk' : ¬ (T.O i).k = 1 := hk
    clear H hD HP0 hT hh h3 h0 hs ha hB hrow hzl hk glb
    generalize ({ T with P := Pi.writeP T.P (T.O i).of zs } : Ft) = T' at HN ⊢
    generalize Pi.writeN T.P (T.O i).of zs.length = N at HN ⊢
    generalize Pi.writeW T.P (T.O i).of zs.length = V at HN ⊢
    generalize Pi.writeE T.P (T.O i).of = E at HN ⊢
    generalize (T.O i).off = off at c2 gW
    generalize (T.O i).of = of at c1 gW HN e1
    generalize (T.O i).fl = fl at c3 b1 b2 gW
    generalize (T.O i).h = hh at c4 gW
    generalize (T.O i).k = k at c0 gW hk'
    go_enter Tryz.func26, Tryz.ntmps26
    go_wp2_with fail
    refine k0.out.mono ?_
    rintro e w1 ⟨rfl, rfl⟩
    clear k0
    go_wp2_with fail
    rw [← gW, ← HGB.out]
    clear gW c0 c1 c2 c3 c4 cl
    go_region_held3 (fun X => X.cell? ⟨x, 2, none⟩ = some (.pointer (some ⟨q, 0, none⟩)) ∧ X.cell? ⟨lbk, 1, none⟩ = some (.int .i64 of)) (go_keep) ((go_at_call 68; refine (HN.out _ (Below.refl _ _).drew).mono ?_; rintro e w3 ⟨rfl, H3⟩; obtain ⟨h5, z2, zb⟩ := H3.out))
    have HQ := hid h5
    clear h5 H3 HN
    go_wp2_with fail
    go_ret3
    exact ⟨rfl, HQ.out⟩

end Go.Proofs.YtoknhcjneliboaaGreat

/- What Seek, Hold, Drop of the document's open files do. (Written by gen_td5.py.) -/
namespace Go.Proofs.YtoknhcjneliboaaGreat
open Go.RowKit Go.ChangeMaps Go.MapKept
set_option linter.unusedVariables false
set_option maxRecDepth 20000

theorem Ft.base_leD {T : Ft} (H : TOk T) (i : Nat) (wh : Int) : 0 ≤ T.base (T.O i) wh ∧ T.base (T.O i) wh ≤ 1048576 := by
  unfold Ft.base
  split
  · exact H.off i
  split
  · have := size_le H.F (T.O i).of.toNat
    omega
  · omega
theorem updF_updF (O : Nat → Fl) (i : Nat) (a b : Fl) : updF (updF O i a) i b = updF O i b := by
  funext j; unfold updF; by_cases h : j = i <;> simp [h]
theorem TdTo.post {w X w' : World} {x : Nat} {T : Ft} {D : Nat → Prop} (h : TdTo w x T D w') (u : Below w'.heap.size w' X) : TdTo w x T D X := ⟨h.1.grow u, h.2.trans (Upd.of_below (F := D) u) (fun _ _ h => h)⟩

set_option maxHeartbeats 16000000 in
theorem tdseek (w : World) (x : Nat) (T : Ft) (D : Nat → Prop) (HP : Td w x T D) (hT : TOk T) (n off wh : Int) :
    Calls Tryz.prog 28 #[.pointer (some ⟨x, 0, none⟩), .int .i64 n, .int .i64 off, .int .i64 wh] w fun e w' => e = .returned (.tuple #[.int .i64 (T.seek n off wh).2.1, .int .i64 (T.seek n off wh).2.2]) ∧ TdTo w x (T.seek n off wh).1 D w' := by
  have HP0 := HP
  obtain ⟨g, s, q, Dn, Dp, H, hD⟩ := HP
  have k0 := hid (r8there w x g s q Dn Dp T H hT n)
  unfold Ft.seek
  cases hh : T.there n
  · rw [hh] at k0
    rw [if_pos rfl]
    have HQ := hid (TdTo.same HP0 (Below.refl _ w))
    clear H hD HP0 hT hh
    dsimp only
    go_enter Tryz.func28, Tryz.ntmps28
    go_wp2_with fail
    refine k0.out.mono ?_
    rintro e w1 ⟨rfl, rfl⟩
    clear k0
    go_wp2_with fail
    go_ret2
    exact ⟨rfl, HQ.out⟩
  rw [hh] at k0
  obtain ⟨i, rfl, h1, hi, h0⟩ := Ft.there_lt hh
  rw [if_neg (by simp), Int.toNat_natCast]
  have cl := H.cl
  have c0 := H.gf.c0 i hi
  have c1 := H.gf.c1 i hi
  have c2 := H.gf.c2 i hi
  have c3 := H.gf.c3 i hi
  have c4 := H.gf.c4 i hi
  have i1 : (0 : Int) ≤ (i : Int) := by omega
  have i2 : (i : Int) < 11 := by omega
  obtain ⟨W, gW⟩ : ∃ W, W = w.alloc (Obj.cells #[.int .i64 (T.O i).k, .int .i64 (T.O i).of, .int .i64 (T.O i).off, .int .i64 (T.O i).fl, .int .i64 (T.O i).h] 124) := ⟨_, rfl⟩
  have hB : Below w.heap.size w W := by rw [gW]; exact one_new _ _
  have hrow : W.heap[w.heap.size]? = some (.cells #[.int .i64 (T.O i).k, .int .i64 (T.O i).of, .int .i64 (T.O i).off, .int .i64 (T.O i).fl, .int .i64 (T.O i).h] 124 (0, 0)) := by rw [gW]; exact heap_alloc_new _ _
  have hZ : w.heap.size < W.heap.size := by rw [gW]; simp
  have HS := hid (fun X (hX : Below w.heap.size w X) => TdTo.same HP0 hX)
  have HSW := hid (HS.out W hB)
  have HFZ := hid (H.gf.fz (i * 5 + 2))
  by_cases hk : (T.O i).k = 1
  · rw [if_neg (by rw [hk]; simp)]
    rw [hk] at c0 gW
    obtain ⟨m, hm, hth⟩ := hT.nodeD i hi h0 hk
    have hst := stat_thereD hth
    rw [Int.toNat_natCast] at hst
    have hbs := Ft.base_leD hT i wh
    have hxl := (H.grow hB).xlt
    have hgw := H.gf.lt
    have hxw := H.xlt
    obtain ⟨lbk, glb⟩ : ∃ lbk, lbk = w.heap.size := ⟨_, rfl⟩
    have hll : lbk < W.heap.size := by omega
    have yb : W.cell? ⟨lbk, 1, none⟩ = some (.int .i64 (T.O i).of) := by rw [glb, cell_of_row _ _ 1 _ _ _ hrow]; rfl
    have y1 : W.cell? ⟨x, 1, none⟩ = some (.pointer (some ⟨s, 0, none⟩)) := (H.grow hB).cs
    have HGB := hid glb
    have KST : Hid (∃ s1 s2, ∀ X, Below W.heap.size W X → Calls Tryz.prog 58 #[.pointer (some ⟨s, 0, none⟩), .int .i64 (T.O i).of] X fun e w' => e = .returned (.tuple #[.agg #[.int .i64 s1, .int .i64 s2, .int .i64 (T.F.size m : Int)], .int .i64 0]) ∧ Below X.heap.size X w') := by
      refine hid ⟨(T.F.stat (T.O i).of).1, (T.F.stat (T.O i).of).2.1, fun X hX => (((H.grow hB).grow hX).stat hT.F (T.O i).of).mono ?_⟩
      rintro e w' ⟨rfl, h⟩
      rw [hm, hst.1, hst.2.1]
      exact ⟨rfl, h⟩
    obtain ⟨s1, s2, KST⟩ := KST.out
    have KST := hid KST
    have HM := hid (fun X (hX : Below W.heap.size W X) v => TdTo.fil ((H.grow hB).grow hX) (hB.trans (hX.mono hB.size)) hD (((H.grow hB).grow hX).gf.offTo i hi v) (Upd.setCell (F := (· = g)) X ⟨g, _, none⟩ (.int .i64 v) rfl))
    have HC : Hid (∀ X, Below W.heap.size W X → X.cell? ⟨x, 0, none⟩ = some (.slice (some ⟨g, 0, none⟩) 11 11) ∧ X.cell? ⟨g, i * 5 + 2, none⟩ = some (.int .i64 (T.O i).off) ∧ X.frozen? ⟨g, i * 5 + 2, none⟩ = false) := hid (fun X hX => ⟨((H.grow hB).grow hX).cl, ((H.grow hB).grow hX).gf.c2 i hi, ((H.grow hB).grow hX).gf.fz _⟩)
    have e_b : T.base (T.O i) wh = if wh = 1 then (T.O i).off else if wh = 2 then (T.F.size m : Int) else 0 := by unfold Ft.base; rw [hm, Int.toNat_natCast]
    have HBS := hid (fun X (hX : Below W.heap.size W X) => HS.out X (hB.trans (hX.mono hB.size)))
    obtain ⟨v, gv⟩ : ∃ v, v = T.base (T.O i) wh + off := ⟨_, rfl⟩
    have HM := hid (fun X hX => HM.out X hX v)
    rw [← gv]
    have HM0 : Hid (TdTo w x (T.at_ i { T.O i with off := v }) D (w.setCell ⟨g, i * 5 + 2, none⟩ (.int .i64 v))) := hid (TdTo.fil H (Below.refl _ _) hD (H.gf.offTo i hi v) (Upd.setCell (F := (· = g)) w ⟨g, _, none⟩ (.int .i64 v) rfl))
    have HM : Hid (∀ X, Below W.heap.size W X → TdTo w x (T.at_ i { T.O i with off := v }) D (X.setCell ⟨g, i * 5 + 2, none⟩ (.int .i64 v))) := hid HM.out
    generalize T.at_ i { T.O i with off := v } = T' at HM HM0 ⊢
    generalize T.base (T.O i) wh = fr at hbs e_b gv
    generalize (T.F.size m : Int) = s3 at KST e_b
    have hoff := hT.off i
    clear H hD HP0 hT hh h0 hm hth hst hrow hk glb HS
    generalize (T.O i).off = xo at c2 gW e_b hoff HC
    generalize (T.O i).of = of at c1 gW KST yb
    generalize (T.O i).fl = fl at c3 gW
    generalize (T.O i).h = hh at c4 gW
    have HC0 := HC.out W (Below.refl _ _)
    have d2 := HC0.2.1
    have f2 := HC0.2.2
    have dl := HC0.1
    clear HC0
    by_cases hba : wh < 0
    · rw [if_pos (by omega)]
      dsimp only
      clear HM KST HC HBS e_b
      go_enter Tryz.func28, Tryz.ntmps28
      go_wp2_with fail
      refine k0.out.mono ?_
      rintro e w1 ⟨rfl, rfl⟩
      clear k0
      go_wp2_with fail
      go_ret2
      rw [← gW]
      exact ⟨rfl, HSW.out⟩
    by_cases hbb : 2 < wh
    · rw [if_pos (by omega)]
      dsimp only
      clear HM KST HC HBS e_b
      go_enter Tryz.func28, Tryz.ntmps28
      go_wp2_with fail
      refine k0.out.mono ?_
      rintro e w1 ⟨rfl, rfl⟩
      clear k0
      go_wp2_with fail
      go_ret2
      rw [← gW]
      exact ⟨rfl, HSW.out⟩
    by_cases hbc : off < -1048576
    · rw [if_pos (by omega)]
      dsimp only
      clear HM KST HC HBS e_b
      go_enter Tryz.func28, Tryz.ntmps28
      go_wp2_with fail
      refine k0.out.mono ?_
      rintro e w1 ⟨rfl, rfl⟩
      clear k0
      go_wp2_with fail
      go_ret2
      rw [← gW]
      exact ⟨rfl, HSW.out⟩
    by_cases hbd : 1048576 < off
    · rw [if_pos (by omega)]
      dsimp only
      clear HM KST HC HBS e_b
      go_enter Tryz.func28, Tryz.ntmps28
      go_wp2_with fail
      refine k0.out.mono ?_
      rintro e w1 ⟨rfl, rfl⟩
      clear k0
      go_wp2_with fail
      go_ret2
      rw [← gW]
      exact ⟨rfl, HSW.out⟩
    by_cases h0 : wh = 0
    · subst h0
      rw [if_neg (by decide), if_neg (by decide)] at e_b
      obtain rfl : v = off := by omega
      by_cases c5 : v < 0
      · rw [if_pos (by omega)]
        dsimp only
        have HQ := HSW
        clear HM KST HC HBS e_b gv hbs
        go_enter Tryz.func28, Tryz.ntmps28
        go_wp2_with fail
        refine k0.out.mono ?_
        rintro e w1 ⟨rfl, rfl⟩
        clear k0
        go_wp2_with fail
        rw [← gW]
        go_ret2
        exact ⟨rfl, HQ.out⟩
      by_cases c6 : 1048576 < v
      · exact absurd c6 (by omega)
      rw [if_neg (by omega)]
      dsimp only
      have HQ := HM0
      clear HM KST HC HBS e_b gv hbs
      go_enter Tryz.func28, Tryz.ntmps28
      go_wp2_with fail
      refine k0.out.mono ?_
      rintro e w1 ⟨rfl, rfl⟩
      clear k0
      have f2w : w1.frozen? ⟨g, i * 5 + 2, none⟩ = false := HFZ.out
      go_wp2_with fail
      go_ret2
      exact ⟨rfl, HQ.out.post (one_new _ _)⟩
    by_cases h1 : wh = 1
    · subst h1
      rw [if_pos rfl] at e_b
      have hv : off + xo = v := by omega
      have wv : IntKind.i64.wrap v = v := by rw [IntKind.wrap_i64]; omega
      have wv2 : IntKind.i64.wrap (off + xo) = v := by rw [hv]; exact wv
      by_cases c5 : v < 0
      · rw [if_pos (by omega)]
        dsimp only
        have HQ := HSW
        clear HM KST HC HBS e_b gv hbs
        go_enter Tryz.func28, Tryz.ntmps28
        go_wp2_with fail
        refine k0.out.mono ?_
        rintro e w1 ⟨rfl, rfl⟩
        clear k0
        go_wp2_with fail
        rw [← gW]
        go_ret2
        exact ⟨rfl, HQ.out⟩
      by_cases c6 : 1048576 < v
      · rw [if_pos (by omega)]
        dsimp only
        have HQ := HSW
        clear HM KST HC HBS e_b gv hbs
        go_enter Tryz.func28, Tryz.ntmps28
        go_wp2_with fail
        refine k0.out.mono ?_
        rintro e w1 ⟨rfl, rfl⟩
        clear k0
        go_wp2_with fail
        rw [← gW]
        go_ret2
        exact ⟨rfl, HQ.out⟩
      rw [if_neg (by omega)]
      dsimp only
      have HQ := HM0
      clear HM KST HC HBS e_b gv hbs
      go_enter Tryz.func28, Tryz.ntmps28
      go_wp2_with fail
      refine k0.out.mono ?_
      rintro e w1 ⟨rfl, rfl⟩
      clear k0
      have f2w : w1.frozen? ⟨g, i * 5 + 2, none⟩ = false := HFZ.out
      go_wp2_with fail
      go_ret2
      exact ⟨rfl, HQ.out.post (one_new _ _)⟩
    obtain rfl : wh = 2 := by omega
    rw [if_neg (by decide), if_pos rfl] at e_b
    have hv : off + s3 = v := by omega
    have wv : IntKind.i64.wrap v = v := by rw [IntKind.wrap_i64]; omega
    have wv2 : IntKind.i64.wrap (off + s3) = v := by rw [hv]; exact wv
    by_cases c5 : v < 0
    · rw [if_pos (by omega)]
      dsimp only
      clear e_b gv hbs
      go_enter Tryz.func28, Tryz.ntmps28
      go_wp2_with fail
      refine k0.out.mono ?_
      rintro e w1 ⟨rfl, rfl⟩
      clear k0
      go_wp2_with fail
      rw [← gW, ← HGB.out]
      clear gW
      go_cut [11, 12] (fun v11 v12 wx => ∃ a, v11 = .pointer (some ⟨a, 0, none⟩) ∧ v12 = .int .i64 0 ∧ Hid (Below W.heap.size W wx) ∧ Hid (wx.heap[a]? = some (.cells #[.int .i64 s1, .int .i64 s2, .int .i64 s3] 87 (0, 0))))
      case first =>
        have hnx : x ≠ W.heap.size := by omega
        have hnl : lbk ≠ W.heap.size := by omega
        have HA : Hid (Below W.heap.size W (W.alloc (.cells #[.int .i64 0, .int .i64 0, .int .i64 0] 87)).drew) := hid ((Below.refl _ _).alloc (Nat.le_refl _) (.cells #[.int .i64 0, .int .i64 0, .int .i64 0] 87)).drew
        have ya1 := (HA.out.cell (p := ⟨x, 1, none⟩) hxl).trans y1
        have yab := (HA.out.cell (p := ⟨lbk, 1, none⟩) hll).trans yb
        go_region_held3 (fun V => V.cell? ⟨x, 1, none⟩ = some (.pointer (some ⟨s, 0, none⟩)) ∧ V.cell? ⟨lbk, 1, none⟩ = some (.int .i64 of)) (first | (refine ⟨?_, ?_⟩ <;> assumption) | exact ⟨ya1, yab⟩ | (refine ⟨?_, ?_⟩ <;> first | (rw [cell_set_other _ _ _ _ _ hnx, cell_set_other _ _ _ _ _ hnx, cell_set_other _ _ _ _ _ hnx]; assumption) | (rw [cell_set_other _ _ _ _ _ hnl, cell_set_other _ _ _ _ _ hnl, cell_set_other _ _ _ _ _ hnl]; assumption)) | go_keep) (first
          | (go_at_call 58; refine (KST.out _ (Below.refl _ _).drew).mono ?_; rintro e w1 ⟨rfl, hb⟩; have HB1 : Hid (Below W.heap.size W w1) := hid ((Below.refl _ _).drew.trans hb); have z1 := (HB1.out.cell (p := ⟨x, 1, none⟩) hxl).trans y1; have zb := (HB1.out.cell (p := ⟨lbk, 1, none⟩) hll).trans yb; clear hb)
          | (go_at_call 58; refine (KST.out _ HA.out).mono ?_; rintro e w1 ⟨rfl, hb⟩; obtain ⟨_, hrow, _⟩ := box_kept hxl hb; have HB1 : Hid (Below W.heap.size W w1) := hid (HA.out.trans (hb.mono HA.out.size)); have hr0 : w1.cell? ⟨W.heap.size, 0, none⟩ = some (.int .i64 0) := (by rw [cell_of_row _ _ 0 _ _ _ hrow]; rfl); have hr1 : w1.cell? ⟨W.heap.size, 1, none⟩ = some (.int .i64 0) := (by rw [cell_of_row _ _ 1 _ _ _ hrow]; rfl); have hr2 : w1.cell? ⟨W.heap.size, 2, none⟩ = some (.int .i64 0) := (by rw [cell_of_row _ _ 2 _ _ _ hrow]; rfl); have hf0 : w1.frozen? ⟨W.heap.size, 0, none⟩ = false := (by simp [World.frozen?, hrow]); have hf1 : w1.frozen? ⟨W.heap.size, 1, none⟩ = false := (by simp [World.frozen?, hrow]); have hf2 : w1.frozen? ⟨W.heap.size, 2, none⟩ = false := (by simp [World.frozen?, hrow]); have HROW := hid hrow; clear hrow; have z1 := (HB1.out.cell (p := ⟨x, 1, none⟩) hxl).trans y1; have zb := (HB1.out.cell (p := ⟨lbk, 1, none⟩) hll).trans yb; clear hb)
          | fail)
        all_goals
          go_wp2_with fail
          go_meet
          case rel =>
            first
            | exact ⟨W.heap.size, rfl, rfl, hid (((HB1.out.setCell (Nat.le_refl _) _).setCell (Nat.le_refl _) _).setCell (Nat.le_refl _) _), hid (heap_setCell_same _ W.heap.size 2 _ _ _ (heap_setCell_same _ W.heap.size 1 _ _ _ (heap_setCell_same w1 W.heap.size 0 _ _ _ HROW.out)))⟩
            | exact ⟨W.heap.size, rfl, rfl, hid (((HB1.out.setCell (Nat.le_refl _) _).setCell (Nat.le_refl _) _).setCell (Nat.le_refl _) _).drew, hid (heap_setCell_same _ W.heap.size 2 _ _ _ (heap_setCell_same _ W.heap.size 1 _ _ _ (heap_setCell_same w1 W.heap.size 0 _ _ _ HROW.out)))⟩
            | exact ⟨w1.heap.size, rfl, rfl, hid (HB1.out.trans ((one_new w1 _).mono HB1.out.size)), hid (heap_alloc_new _ _)⟩
            | exact ⟨w1.heap.size, rfl, rfl, hid (HB1.out.trans ((one_new w1 _).mono HB1.out.size)).drew, hid (heap_alloc_new _ _)⟩
      case rest =>
        obtain ⟨a, rfl, rfl, HBC, HRA⟩ := hcut
        have d2' : wc.cell? ⟨a, 2, none⟩ = some (.int .i64 s3) := by rw [cell_of_row _ _ 2 _ _ _ HRA.out]; rfl
        obtain ⟨e2, e3, e4⟩ := HC.out wc HBC.out
        have HQ := hid (HBS.out wc HBC.out)
        clear HRA c0 c1 c2 c3 c4 cl y1 yb d2 f2 dl HM HC HBS KST
        go_wp2_with fail
        go_ret2
        exact ⟨rfl, HQ.out⟩
    by_cases c6 : 1048576 < v
    · rw [if_pos (by omega)]
      dsimp only
      clear e_b gv hbs
      go_enter Tryz.func28, Tryz.ntmps28
      go_wp2_with fail
      refine k0.out.mono ?_
      rintro e w1 ⟨rfl, rfl⟩
      clear k0
      go_wp2_with fail
      rw [← gW, ← HGB.out]
      clear gW
      go_cut [11, 12] (fun v11 v12 wx => ∃ a, v11 = .pointer (some ⟨a, 0, none⟩) ∧ v12 = .int .i64 0 ∧ Hid (Below W.heap.size W wx) ∧ Hid (wx.heap[a]? = some (.cells #[.int .i64 s1, .int .i64 s2, .int .i64 s3] 87 (0, 0))))
      case first =>
        have hnx : x ≠ W.heap.size := by omega
        have hnl : lbk ≠ W.heap.size := by omega
        have HA : Hid (Below W.heap.size W (W.alloc (.cells #[.int .i64 0, .int .i64 0, .int .i64 0] 87)).drew) := hid ((Below.refl _ _).alloc (Nat.le_refl _) (.cells #[.int .i64 0, .int .i64 0, .int .i64 0] 87)).drew
        have ya1 := (HA.out.cell (p := ⟨x, 1, none⟩) hxl).trans y1
        have yab := (HA.out.cell (p := ⟨lbk, 1, none⟩) hll).trans yb
        go_region_held3 (fun V => V.cell? ⟨x, 1, none⟩ = some (.pointer (some ⟨s, 0, none⟩)) ∧ V.cell? ⟨lbk, 1, none⟩ = some (.int .i64 of)) (first | (refine ⟨?_, ?_⟩ <;> assumption) | exact ⟨ya1, yab⟩ | (refine ⟨?_, ?_⟩ <;> first | (rw [cell_set_other _ _ _ _ _ hnx, cell_set_other _ _ _ _ _ hnx, cell_set_other _ _ _ _ _ hnx]; assumption) | (rw [cell_set_other _ _ _ _ _ hnl, cell_set_other _ _ _ _ _ hnl, cell_set_other _ _ _ _ _ hnl]; assumption)) | go_keep) (first
          | (go_at_call 58; refine (KST.out _ (Below.refl _ _).drew).mono ?_; rintro e w1 ⟨rfl, hb⟩; have HB1 : Hid (Below W.heap.size W w1) := hid ((Below.refl _ _).drew.trans hb); have z1 := (HB1.out.cell (p := ⟨x, 1, none⟩) hxl).trans y1; have zb := (HB1.out.cell (p := ⟨lbk, 1, none⟩) hll).trans yb; clear hb)
          | (go_at_call 58; refine (KST.out _ HA.out).mono ?_; rintro e w1 ⟨rfl, hb⟩; obtain ⟨_, hrow, _⟩ := box_kept hxl hb; have HB1 : Hid (Below W.heap.size W w1) := hid (HA.out.trans (hb.mono HA.out.size)); have hr0 : w1.cell? ⟨W.heap.size, 0, none⟩ = some (.int .i64 0) := (by rw [cell_of_row _ _ 0 _ _ _ hrow]; rfl); have hr1 : w1.cell? ⟨W.heap.size, 1, none⟩ = some (.int .i64 0) := (by rw [cell_of_row _ _ 1 _ _ _ hrow]; rfl); have hr2 : w1.cell? ⟨W.heap.size, 2, none⟩ = some (.int .i64 0) := (by rw [cell_of_row _ _ 2 _ _ _ hrow]; rfl); have hf0 : w1.frozen? ⟨W.heap.size, 0, none⟩ = false := (by simp [World.frozen?, hrow]); have hf1 : w1.frozen? ⟨W.heap.size, 1, none⟩ = false := (by simp [World.frozen?, hrow]); have hf2 : w1.frozen? ⟨W.heap.size, 2, none⟩ = false := (by simp [World.frozen?, hrow]); have HROW := hid hrow; clear hrow; have z1 := (HB1.out.cell (p := ⟨x, 1, none⟩) hxl).trans y1; have zb := (HB1.out.cell (p := ⟨lbk, 1, none⟩) hll).trans yb; clear hb)
          | fail)
        all_goals
          go_wp2_with fail
          go_meet
          case rel =>
            first
            | exact ⟨W.heap.size, rfl, rfl, hid (((HB1.out.setCell (Nat.le_refl _) _).setCell (Nat.le_refl _) _).setCell (Nat.le_refl _) _), hid (heap_setCell_same _ W.heap.size 2 _ _ _ (heap_setCell_same _ W.heap.size 1 _ _ _ (heap_setCell_same w1 W.heap.size 0 _ _ _ HROW.out)))⟩
            | exact ⟨W.heap.size, rfl, rfl, hid (((HB1.out.setCell (Nat.le_refl _) _).setCell (Nat.le_refl _) _).setCell (Nat.le_refl _) _).drew, hid (heap_setCell_same _ W.heap.size 2 _ _ _ (heap_setCell_same _ W.heap.size 1 _ _ _ (heap_setCell_same w1 W.heap.size 0 _ _ _ HROW.out)))⟩
            | exact ⟨w1.heap.size, rfl, rfl, hid (HB1.out.trans ((one_new w1 _).mono HB1.out.size)), hid (heap_alloc_new _ _)⟩
            | exact ⟨w1.heap.size, rfl, rfl, hid (HB1.out.trans ((one_new w1 _).mono HB1.out.size)).drew, hid (heap_alloc_new _ _)⟩
      case rest =>
        obtain ⟨a, rfl, rfl, HBC, HRA⟩ := hcut
        have d2' : wc.cell? ⟨a, 2, none⟩ = some (.int .i64 s3) := by rw [cell_of_row _ _ 2 _ _ _ HRA.out]; rfl
        obtain ⟨e2, e3, e4⟩ := HC.out wc HBC.out
        have HQ := hid (HBS.out wc HBC.out)
        clear HRA c0 c1 c2 c3 c4 cl y1 yb d2 f2 dl HM HC HBS KST
        go_wp2_with fail
        go_ret2
        exact ⟨rfl, HQ.out⟩
    rw [if_neg (by omega)]
    dsimp only
    clear e_b gv hbs
    go_enter Tryz.func28, Tryz.ntmps28
    go_wp2_with fail
    refine k0.out.mono ?_
    rintro e w1 ⟨rfl, rfl⟩
    clear k0
    go_wp2_with fail
    rw [← gW, ← HGB.out]
    clear gW
    go_cut [11, 12] (fun v11 v12 wx => ∃ a, v11 = .pointer (some ⟨a, 0, none⟩) ∧ v12 = .int .i64 0 ∧ Hid (Below W.heap.size W wx) ∧ Hid (wx.heap[a]? = some (.cells #[.int .i64 s1, .int .i64 s2, .int .i64 s3] 87 (0, 0))))
    case first =>
      have hnx : x ≠ W.heap.size := by omega
      have hnl : lbk ≠ W.heap.size := by omega
      have HA : Hid (Below W.heap.size W (W.alloc (.cells #[.int .i64 0, .int .i64 0, .int .i64 0] 87)).drew) := hid ((Below.refl _ _).alloc (Nat.le_refl _) (.cells #[.int .i64 0, .int .i64 0, .int .i64 0] 87)).drew
      have ya1 := (HA.out.cell (p := ⟨x, 1, none⟩) hxl).trans y1
      have yab := (HA.out.cell (p := ⟨lbk, 1, none⟩) hll).trans yb
      go_region_held3 (fun V => V.cell? ⟨x, 1, none⟩ = some (.pointer (some ⟨s, 0, none⟩)) ∧ V.cell? ⟨lbk, 1, none⟩ = some (.int .i64 of)) (first | (refine ⟨?_, ?_⟩ <;> assumption) | exact ⟨ya1, yab⟩ | (refine ⟨?_, ?_⟩ <;> first | (rw [cell_set_other _ _ _ _ _ hnx, cell_set_other _ _ _ _ _ hnx, cell_set_other _ _ _ _ _ hnx]; assumption) | (rw [cell_set_other _ _ _ _ _ hnl, cell_set_other _ _ _ _ _ hnl, cell_set_other _ _ _ _ _ hnl]; assumption)) | go_keep) (first
        | (go_at_call 58; refine (KST.out _ (Below.refl _ _).drew).mono ?_; rintro e w1 ⟨rfl, hb⟩; have HB1 : Hid (Below W.heap.size W w1) := hid ((Below.refl _ _).drew.trans hb); have z1 := (HB1.out.cell (p := ⟨x, 1, none⟩) hxl).trans y1; have zb := (HB1.out.cell (p := ⟨lbk, 1, none⟩) hll).trans yb; clear hb)
        | (go_at_call 58; refine (KST.out _ HA.out).mono ?_; rintro e w1 ⟨rfl, hb⟩; obtain ⟨_, hrow, _⟩ := box_kept hxl hb; have HB1 : Hid (Below W.heap.size W w1) := hid (HA.out.trans (hb.mono HA.out.size)); have hr0 : w1.cell? ⟨W.heap.size, 0, none⟩ = some (.int .i64 0) := (by rw [cell_of_row _ _ 0 _ _ _ hrow]; rfl); have hr1 : w1.cell? ⟨W.heap.size, 1, none⟩ = some (.int .i64 0) := (by rw [cell_of_row _ _ 1 _ _ _ hrow]; rfl); have hr2 : w1.cell? ⟨W.heap.size, 2, none⟩ = some (.int .i64 0) := (by rw [cell_of_row _ _ 2 _ _ _ hrow]; rfl); have hf0 : w1.frozen? ⟨W.heap.size, 0, none⟩ = false := (by simp [World.frozen?, hrow]); have hf1 : w1.frozen? ⟨W.heap.size, 1, none⟩ = false := (by simp [World.frozen?, hrow]); have hf2 : w1.frozen? ⟨W.heap.size, 2, none⟩ = false := (by simp [World.frozen?, hrow]); have HROW := hid hrow; clear hrow; have z1 := (HB1.out.cell (p := ⟨x, 1, none⟩) hxl).trans y1; have zb := (HB1.out.cell (p := ⟨lbk, 1, none⟩) hll).trans yb; clear hb)
        | fail)
      all_goals
        go_wp2_with fail
        go_meet
        case rel =>
          first
          | exact ⟨W.heap.size, rfl, rfl, hid (((HB1.out.setCell (Nat.le_refl _) _).setCell (Nat.le_refl _) _).setCell (Nat.le_refl _) _), hid (heap_setCell_same _ W.heap.size 2 _ _ _ (heap_setCell_same _ W.heap.size 1 _ _ _ (heap_setCell_same w1 W.heap.size 0 _ _ _ HROW.out)))⟩
          | exact ⟨W.heap.size, rfl, rfl, hid (((HB1.out.setCell (Nat.le_refl _) _).setCell (Nat.le_refl _) _).setCell (Nat.le_refl _) _).drew, hid (heap_setCell_same _ W.heap.size 2 _ _ _ (heap_setCell_same _ W.heap.size 1 _ _ _ (heap_setCell_same w1 W.heap.size 0 _ _ _ HROW.out)))⟩
          | exact ⟨w1.heap.size, rfl, rfl, hid (HB1.out.trans ((one_new w1 _).mono HB1.out.size)), hid (heap_alloc_new _ _)⟩
          | exact ⟨w1.heap.size, rfl, rfl, hid (HB1.out.trans ((one_new w1 _).mono HB1.out.size)).drew, hid (heap_alloc_new _ _)⟩
    case rest =>
      obtain ⟨a, rfl, rfl, HBC, HRA⟩ := hcut
      have d2' : wc.cell? ⟨a, 2, none⟩ = some (.int .i64 s3) := by rw [cell_of_row _ _ 2 _ _ _ HRA.out]; rfl
      obtain ⟨e2, e3, e4⟩ := HC.out wc HBC.out
      have HQ := hid (HM.out wc HBC.out)
      clear HRA c0 c1 c2 c3 c4 cl y1 yb d2 f2 dl HM HC HBS KST
      go_wp2_with fail
      go_ret2
      exact ⟨rfl, HQ.out⟩
  · rw [if_pos hk]
    have HQ := HSW
    have hk' : ¬ (T.O i).k = 1 := hk
    clear H hD HP0 hT hh h0 hrow hk HS HSW
    generalize (T.O i).off = xo at c2 gW
    generalize (T.O i).of = of at c1 gW
    generalize (T.O i).fl = fl at c3 gW
    generalize (T.O i).h = hh at c4 gW
    generalize (T.O i).k = k at c0 gW hk'
    dsimp only
    go_enter Tryz.func28, Tryz.ntmps28
    go_wp2_with fail
    refine k0.out.mono ?_
    rintro e w1 ⟨rfl, rfl⟩
    clear k0
    go_wp2_with fail
    rw [← gW]
    go_ret2
    exact ⟨rfl, HQ.out⟩

set_option maxHeartbeats 2000000 in
theorem tdhold (w : World) (x : Nat) (T : Ft) (D : Nat → Prop) (HP : Td w x T D) (hT : TOk T) (n : Int) :
    Calls Tryz.prog 30 #[.pointer (some ⟨x, 0, none⟩), .int .i64 n] w fun e w' => e = .returned (.int .i64 (T.hold n).2) ∧ TdTo w x (T.hold n).1 D w' := by
  have HP0 := HP
  obtain ⟨g, s, q, Dn, Dp, H, hD⟩ := HP
  have k0 := hid (r8there w x g s q Dn Dp T H hT n)
  have HQ := hid (TdTo.same HP0 (Below.refl _ w))
  unfold Ft.hold
  cases hh : T.there n
  · rw [hh] at k0
    rw [if_pos rfl]
    clear H hD HP0 hT hh
    dsimp only
    go_enter Tryz.func30, Tryz.ntmps30
    go_wp2_with fail
    refine k0.out.mono ?_
    rintro e w1 ⟨rfl, rfl⟩
    clear k0
    go_wp2_with fail
    go_ret
    exact ⟨rfl, HQ.out⟩
  rw [hh] at k0
  obtain ⟨i, rfl, h1, hi, h0⟩ := Ft.there_lt hh
  rw [if_neg (by simp), Int.toNat_natCast]
  have cl := H.cl
  have c4 := H.gf.c4 i hi
  have f4 := H.gf.fz (i * 5 + 4)
  have i1 : (0 : Int) ≤ (i : Int) := by omega
  have i2 : (i : Int) < 11 := by omega
  have hle := hT.h i
  by_cases h9 : 1000 ≤ (T.O i).h
  · rw [if_pos h9]
    clear H hD HP0 hT hh h0
    generalize (T.O i).h = h at c4 h9 hle
    dsimp only
    go_enter Tryz.func30, Tryz.ntmps30
    go_wp2_with fail
    refine k0.out.mono ?_
    rintro e w1 ⟨rfl, rfl⟩
    clear k0
    go_wp2_with fail
    go_ret
    exact ⟨rfl, HQ.out⟩
  · rw [if_neg h9]
    have H4 : Hid (TdTo w x (T.at_ i { T.O i with h := (T.O i).h + 1 }) D (w.setCell ⟨g, i * 5 + 4, none⟩ (.int .i64 ((T.O i).h + 1)))) := hid (TdTo.fil H (Below.refl _ _) hD (H.gf.heldTo i hi _) (Upd.setCell (F := (· = g)) w ⟨g, _, none⟩ _ rfl))
    dsimp only
    generalize T.at_ i { T.O i with h := (T.O i).h + 1 } = T' at H4 ⊢
    clear H hD HP0 hT hh h0 HQ
    generalize (T.O i).h = h at c4 h9 hle H4
    go_enter Tryz.func30, Tryz.ntmps30
    go_wp2_with fail
    refine k0.out.mono ?_
    rintro e w1 ⟨rfl, rfl⟩
    clear k0
    go_wp2_with fail
    go_ret
    exact ⟨rfl, H4.out⟩

end Go.Proofs.YtoknhcjneliboaaGreat

/- What Drop of the document's open files does. -/
namespace Go.Proofs.YtoknhcjneliboaaGreat
open Go.RowKit Go.ChangeMaps Go.MapKept
set_option linter.unusedVariables false
set_option maxRecDepth 20000

theorem builtFl0 : Tryz.prog.built 124 [] = some #[.int .i64 0, .int .i64 0, .int .i64 0, .int .i64 0, .int .i64 0] := by kernel_rfl
theorem Ft.set_set (T : Ft) (i : Nat) (a b : Fl) : ({ T.at_ i a with O := updF (T.at_ i a).O i b } : Ft) = T.at_ i b := by
  unfold Ft.at_
  dsimp only
  rw [updF_updF]

set_option maxHeartbeats 8000000 in
theorem tddrop (w : World) (x : Nat) (T : Ft) (D : Nat → Prop) (HP : Td w x T D) (hT : TOk T) (n : Int) :
    Calls Tryz.prog 32 #[.pointer (some ⟨x, 0, none⟩), .int .i64 n] w fun e w' => e = .returned (.int .i64 (T.drop n).2) ∧ TdTo w x (T.drop n).1 D w' := by
  have HP0 := HP
  obtain ⟨g, s, q, Dn, Dp, H, hD⟩ := HP
  have k0 := hid (r8there w x g s q Dn Dp T H hT n)
  unfold Ft.drop
  cases hh : T.there n
  · rw [hh] at k0
    rw [if_pos rfl]
    have HQ := hid (TdTo.same HP0 (Below.refl _ w))
    clear H hD HP0 hT hh
    dsimp only
    go_enter Tryz.func32, Tryz.ntmps32
    go_wp2_with fail
    refine k0.out.mono ?_
    rintro e w1 ⟨rfl, rfl⟩
    clear k0
    go_wp2_with fail
    go_ret
    exact ⟨rfl, HQ.out⟩
  rw [hh] at k0
  obtain ⟨i, rfl, h1, hi, h0⟩ := Ft.there_lt hh
  rw [if_neg (by simp), Int.toNat_natCast]
  have cl := H.cl
  have c4 := H.gf.c4 i hi
  have f4 := H.gf.fz (i * 5 + 4)
  have i1 : (0 : Int) ≤ (i : Int) := by omega
  have i2 : (i : Int) < 11 := by omega
  have hle := hT.h i
  have hxg := H.xg
  by_cases h9 : 1 < (T.O i).h
  · rw [if_pos h9]
    have hs := H.fil (H.gf.heldTo i hi ((T.O i).h - 1)) (Upd.setCell (F := (· = g)) w ⟨g, i * 5 + 4, none⟩ (.int .i64 ((T.O i).h - 1)) rfl)
    have d4 := hs.gf.c4 i hi
    rw [show (updF T.O i { T.O i with h := (T.O i).h - 1 } i).h = (T.O i).h - 1 by rw [updF_same]] at d4
    have dl := hs.cl
    have H4 : Hid (TdTo w x (T.at_ i { T.O i with h := (T.O i).h - 1 }) D (w.setCell ⟨g, i * 5 + 4, none⟩ (.int .i64 ((T.O i).h - 1)))) := hid (TdTo.fil H (Below.refl _ _) hD (H.gf.heldTo i hi _) (Upd.setCell (F := (· = g)) w ⟨g, _, none⟩ _ rfl))
    dsimp only
    generalize T.at_ i { T.O i with h := (T.O i).h - 1 } = T' at H4 ⊢
    clear H hD HP0 hT hh h0 hs
    generalize (T.O i).h = h at c4 h9 hle H4 d4 dl
    have hh1 : (0 : Int) < h - 1 := by omega
    go_enter Tryz.func32, Tryz.ntmps32
    go_wp2_with fail
    refine k0.out.mono ?_
    rintro e w1 ⟨rfl, rfl⟩
    clear k0
    go_wp2_with fail
    go_ret
    exact ⟨rfl, H4.out⟩
  rw [if_neg h9]
  have e1 : (T.O i).h = 1 := by omega
  rw [e1] at c4
  obtain ⟨W1, g1⟩ : ∃ W1, W1 = w.setCell ⟨g, i * 5 + 4, none⟩ (.int .i64 0) := ⟨_, rfl⟩
  have hs1 := H.fil (H.gf.heldTo i hi 0) (Upd.setCell (F := (· = g)) w ⟨g, i * 5 + 4, none⟩ (.int .i64 0) rfl)
  rw [← g1] at hs1
  have u1 : Upd (RFoot x g Dn Dp) w W1 := by rw [g1]; exact Upd.setCell (F := RFoot x g Dn Dp) w ⟨g, _, none⟩ _ (.inr (.inl rfl))
  have gf1 : Gf W1 g (updF T.O i { T.O i with h := 0 }) := hs1.gf
  have a0 := gf1.c0 i hi
  have a1 := gf1.c1 i hi
  have a2 := gf1.c2 i hi
  have a3 := gf1.c3 i hi
  have a4 := gf1.c4 i hi
  have al := hs1.cl
  rw [updF_same] at a0 a1 a2 a3 a4
  obtain ⟨W2, g2⟩ : ∃ W2, W2 = W1.alloc (Obj.cells #[.int .i64 (T.O i).k, .int .i64 (T.O i).of, .int .i64 (T.O i).off, .int .i64 (T.O i).fl, .int .i64 0] 124) := ⟨_, rfl⟩
  have hB2 : Below W1.heap.size W1 W2 := by rw [g2]; exact one_new _ _
  have hrow : W2.heap[W1.heap.size]? = some (.cells #[.int .i64 (T.O i).k, .int .i64 (T.O i).of, .int .i64 (T.O i).off, .int .i64 (T.O i).fl, .int .i64 0] 124 (0, 0)) := by rw [g2]; exact heap_alloc_new _ _
  have hZ : W1.heap.size < W2.heap.size := by rw [g2]; simp
  have hs2 := hs1.grow hB2
  have gf2 : Gf W2 g (updF T.O i { T.O i with h := 0 }) := hs2.gf
  have b0 := gf2.c0 i hi
  have b1 := gf2.c1 i hi
  have b2 := gf2.c2 i hi
  have b3 := gf2.c3 i hi
  have b4 := gf2.c4 i hi
  have bl := hs2.cl
  have z0 := hs2.gf.fz (i * 5)
  have z1 := hs2.gf.fz (i * 5 + 1)
  have z2 := hs2.gf.fz (i * 5 + 2)
  have z3 := hs2.gf.fz (i * 5 + 3)
  have z4 := hs2.gf.fz (i * 5 + 4)
  rw [updF_same] at b0 b1 b2 b3 b4
  obtain ⟨W3, g3⟩ : ∃ W3, W3 = ((((W2.setCell ⟨g, i * 5, none⟩ (.int .i64 0)).setCell ⟨g, i * 5 + 1, none⟩ (.int .i64 0)).setCell ⟨g, i * 5 + 2, none⟩ (.int .i64 0)).setCell ⟨g, i * 5 + 3, none⟩ (.int .i64 0)).setCell ⟨g, i * 5 + 4, none⟩ (.int .i64 0) := ⟨_, rfl⟩
  have e3 : W3 = W2.setCells g (i * 5) (flC noFl) := g3
  have u3 : Upd (· = g) W2 W3 := by rw [e3]; exact upd_setCells g _ _ W2
  have hs3 : Rs W3 x g s q Dn Dp (T.at_ i noFl) := by
    have := hs2.fil (by rw [e3]; exact hs2.gf.put i hi noFl) u3
    rw [show ({ ({ T with O := updF T.O i { T.O i with h := 0 } } : Ft) with O := updF ({ T with O := updF T.O i { T.O i with h := 0 } } : Ft).O i noFl } : Ft) = T.at_ i noFl from Ft.set_set T i _ noFl] at this
    exact this
  have hu13 : Upd (RFoot x g Dn Dp) w W3 := (u1.trans (Upd.of_below (F := RFoot x g Dn Dp) hB2) (fun _ _ h => h)).trans u3 (fun b _ e => .inr (.inl e))
  have hsz : w.heap.size = W1.heap.size := by rw [g1]; simp
  obtain ⟨lbk, glb⟩ : ∃ lbk, lbk = W1.heap.size := ⟨_, rfl⟩
  have hgl := hs1.gf.lt
  have hxl1 := hs1.xlt
  have hl3 : lbk < W3.heap.size := Nat.lt_of_lt_of_le (by omega) u3.size
  have hrow3 := u3.heap hrow (by omega)
  rw [← glb] at hrow3
  have l0 : W3.cell? ⟨lbk, 0, none⟩ = some (.int .i64 (T.O i).k) := by rw [cell_of_row _ _ 0 _ _ _ hrow3]; rfl
  have l1 : W3.cell? ⟨lbk, 1, none⟩ = some (.int .i64 (T.O i).of) := by rw [cell_of_row _ _ 1 _ _ _ hrow3]; rfl
  have hlw : ∀ b, RFoot x g Dn Dp b → b < lbk := fun b hb => by
    rw [glb, ← hsz]
    rcases hb with rfl | rfl | e | e
    · exact H.xlt
    · exact H.gf.lt
    · exact H.ln b e
    · exact H.lp b e
  have ys := hs3.cs
  have yq := hs3.cq
  have HGB : Hid (lbk = w.heap.size) := hid (glb.trans hsz.symm)
  by_cases hk : (T.O i).k = 1
  · rw [if_pos hk]
    obtain ⟨m, hm, hth⟩ := hT.nodeD i hi h0 hk
    have HN : Hid (∀ X, Below W3.heap.size W3 X → Calls Tryz.prog 71 #[.pointer (some ⟨s, 0, none⟩), .int .i64 (T.O i).of] X fun e w' => (∃ z, e = .returned (.int .i64 z)) ∧ Hid (TdTo w x { T with F := (T.F.drop (T.O i).of).1, O := updF T.O i noFl } D w' ∧ w'.cell? ⟨x, 1, none⟩ = some (.pointer (some ⟨s, 0, none⟩)) ∧ w'.cell? ⟨lbk, 1, none⟩ = some (.int .i64 (T.O i).of))) := by
      refine hid (fun X hX => ?_)
      have hSX := hs3.grow hX
      refine (hSX.drop hT.F (T.O i).of).mono ?_
      rintro e w' ⟨rfl, h⟩
      have hr := hSX.sys h (drop_d _ _)
      refine ⟨⟨_, rfl⟩, hid ⟨?_, hr.cs, ?_⟩⟩
      · exact TdTo.of hr hD (fun b hb => hb.1.imp id (fun h => Nat.le_trans (Nat.le_trans hu13.size hX.size) h)) (fun b hb => .inl hb) ((hu13.trans (Upd.of_below (F := RFoot x g Dn Dp) hX) (fun _ _ h => h)).trans h.2 (fun b _ hb => .inr (.inr (.inl hb))))
      · have hb := h.2.block lbk (Nat.lt_of_lt_of_le hl3 hX.size) (fun e => by have := hlw lbk (.inr (.inr (.inl e))); omega)
        exact (World.cell?_of_block (a := ⟨lbk, 1, none⟩) hb).trans ((hX.cell (p := ⟨lbk, 1, none⟩) hl3).trans l1)
    dsimp only
    clear H hD HP0 hT hh h0 hs1 hs2 hs3 u1 u3 hu13 hB2 hrow hrow3 hlw e3 hsz hgl hxl1 hm hth hle h9 hZ glb gf1 gf2
    generalize ({ T with F := (T.F.drop (T.O i).of).1, O := updF T.O i noFl } : Ft) = T' at HN ⊢
    rw [hk] at a0 b0 g2 l0
    generalize (T.O i).of = of at a1 b1 g2 l1 HN
    generalize (T.O i).off = off at a2 b2 g2
    generalize (T.O i).fl = fl at a3 b3 g2
    have m0 := b0
    have m1 := b1
    have m2 := b2
    have m3 := b3
    have m4 := b4
    go_enter Tryz.func32, Tryz.ntmps32
    go_wp2_with fail
    refine k0.out.mono ?_
    rintro e w1 ⟨rfl, rfl⟩
    clear k0
    rw [g1] at a0 a1 a2 a3 a4 al
    rw [g2, g1] at b0 b1 b2 b3 b4 bl z0 z1 z2 z3 z4
    go_wp2_with (refine wpList_build_is rfl 124 #[] rfl _ (by simpa [Act.eval] using builtFl0) ?_)
    rw [← g1, ← g2, ← g3, ← HGB.out]
    clear g1 g2 g3 a0 a1 a2 a3 a4 al b0 b1 b2 b3 b4 bl z0 z1 z2 z3 z4 m0 m1 m2 m3 m4 cl c4 f4
    go_region_held3 (fun V => V.cell? ⟨x, 1, none⟩ = some (.pointer (some ⟨s, 0, none⟩)) ∧ V.cell? ⟨lbk, 1, none⟩ = some (.int .i64 of)) (go_keep) ((go_at_call 71; refine (HN.out _ (Below.refl _ _).drew).mono ?_; rintro e w9 ⟨⟨z, rfl⟩, H9⟩; obtain ⟨h5, y8, y9⟩ := H9.out))
    have HQ := hid h5
    clear h5 H9 HN
    go_wp2_with fail
    go_ret
    exact ⟨rfl, HQ.out⟩
  · rw [if_neg hk]
    have PDR : ∀ X, Below W3.heap.size W3 X → Calls Tryz.prog 72 #[.pointer (some ⟨q, 0, none⟩), .int .i64 (T.O i).of, .bool (decide ((T.O i).k = 3))] X fun e w' => e = .returned (.int .i64 (Pi.dropE T.P (T.O i).of (decide ((T.O i).k = 3)))) ∧ PdTo X q T.F.d (Pi.dropP T.kp T.P (T.O i).of (decide ((T.O i).k = 3))) Dp w' := by
      intro X hX
      obtain ⟨B, gq, A, hR, hDq⟩ := (hs3.grow hX).pd
      refine (Pi.rdrop_any B q gq (T.O i).of T.F.d (decide ((T.O i).k = 3)) A T.P X hR (fun i _ => hT.r1 i)).mono ?_
      rintro e w' ⟨rfl, h, u⟩
      exact ⟨rfl, PdTo.own hDq h u⟩
    have HN : Hid (∀ X, Below W3.heap.size W3 X → Calls Tryz.prog 72 #[.pointer (some ⟨q, 0, none⟩), .int .i64 (T.O i).of, .bool (decide ((T.O i).k = 3))] X fun e w' => (∃ z, e = .returned (.int .i64 z)) ∧ Hid (TdTo w x { T with P := Pi.dropP T.kp T.P (T.O i).of (decide ((T.O i).k = 3)), O := updF T.O i noFl } D w' ∧ w'.cell? ⟨x, 2, none⟩ = some (.pointer (some ⟨q, 0, none⟩)) ∧ w'.cell? ⟨lbk, 1, none⟩ = some (.int .i64 (T.O i).of) ∧ w'.cell? ⟨lbk, 0, none⟩ = some (.int .i64 (T.O i).k))) := by
      refine hid (fun X hX => ?_)
      have hSX := hs3.grow hX
      refine (PDR X hX).mono ?_
      rintro e w' ⟨rfl, h⟩
      have hr := hSX.pip h
      have hb := h.2.block lbk (Nat.lt_of_lt_of_le hl3 hX.size) (fun e => by have := hlw lbk (.inr (.inr (.inr e))); omega)
      refine ⟨⟨_, rfl⟩, hid ⟨?_, hr.cq, ?_, ?_⟩⟩
      · exact TdTo.of hr hD (fun b hb => .inl hb) (fun b hb => hb.1.imp id (fun h => Nat.le_trans (Nat.le_trans hu13.size hX.size) h)) ((hu13.trans (Upd.of_below (F := RFoot x g Dn Dp) hX) (fun _ _ h => h)).trans h.2 (fun b _ hb => .inr (.inr (.inr hb))))
      · exact (World.cell?_of_block (a := ⟨lbk, 1, none⟩) hb).trans ((hX.cell (p := ⟨lbk, 1, none⟩) hl3).trans l1)
      · exact (World.cell?_of_block (a := ⟨lbk, 0, none⟩) hb).trans ((hX.cell (p := ⟨lbk, 0, none⟩) hl3).trans l0)
    dsimp only
    clear H hD HP0 hT hh h0 hs1 hs2 hs3 u1 u3 hu13 hB2 hrow hrow3 hlw e3 hsz hgl hxl1 PDR hle h9 hZ glb gf1 gf2
    generalize ({ T with P := Pi.dropP T.kp T.P (T.O i).of (decide ((T.O i).k = 3)), O := updF T.O i noFl } : Ft) = T' at HN ⊢
    have hk' : ¬ (T.O i).k = 1 := hk
    clear hk
    generalize (T.O i).k = k at a0 b0 g2 l0 HN hk'
    generalize (T.O i).of = of at a1 b1 g2 l1 HN
    generalize (T.O i).off = off at a2 b2 g2
    generalize (T.O i).fl = fl at a3 b3 g2
    have m0 := b0
    have m1 := b1
    have m2 := b2
    have m3 := b3
    have m4 := b4
    go_enter Tryz.func32, Tryz.ntmps32
    go_wp2_with fail
    refine k0.out.mono ?_
    rintro e w1 ⟨rfl, rfl⟩
    clear k0
    rw [g1] at a0 a1 a2 a3 a4 al
    rw [g2, g1] at b0 b1 b2 b3 b4 bl z0 z1 z2 z3 z4
    go_wp2_with (refine wpList_build_is rfl 124 #[] rfl _ (by simpa [Act.eval] using builtFl0) ?_)
    rw [← g1, ← g2, ← g3, ← HGB.out]
    clear g1 g2 g3 a0 a1 a2 a3 a4 al b0 b1 b2 b3 b4 bl z0 z1 z2 z3 z4 m0 m1 m2 m3 m4 cl c4 f4
    go_region_held3 (fun V => V.cell? ⟨x, 2, none⟩ = some (.pointer (some ⟨q, 0, none⟩)) ∧ V.cell? ⟨lbk, 1, none⟩ = some (.int .i64 of) ∧ V.cell? ⟨lbk, 0, none⟩ = some (.int .i64 k)) (go_keep) ((go_at_call 72; refine (HN.out _ (Below.refl _ _).drew).mono ?_; rintro e w9 ⟨⟨z, rfl⟩, H9⟩; obtain ⟨h5, y8, y9, y10⟩ := H9.out))
    have HQ := hid h5
    clear h5 H9 HN
    go_wp2_with fail
    go_ret
    exact ⟨rfl, HQ.out⟩

end Go.Proofs.YtoknhcjneliboaaGreat

/- What Name, Truncate, Stat, Look of the document's open files do. (Written by gen_td7.py.) -/
namespace Go.Proofs.YtoknhcjneliboaaGreat
open Go.RowKit Go.ChangeMaps Go.MapKept
set_option linter.unusedVariables false
set_option maxRecDepth 20000

set_option maxHeartbeats 4000000 in
theorem tdname (w : World) (x : Nat) (T : Ft) (D : Nat → Prop) (HP : Td w x T D) (hT : TOk T) (c : Int) (l l2 : ByteArray) (hs : l.size ≤ 1048576) (hs2 : l2.size ≤ 1048576) (hlm : ∀ i, (T.F.P i).l ≤ 1000000) :
    Calls Tryz.prog 34 #[.pointer (some ⟨x, 0, none⟩), .int .i64 c, .string l, .string l2] w fun e w' => e = .returned (.int .i64 (T.name c (bl l) (bl l2)).2) ∧ TdTo w x (T.name c (bl l) (bl l2)).1 D w' := by
  have HP0 := HP
  obtain ⟨g, s, q, Dn, Dp, H, hD⟩ := HP
  have cs := H.cs
  unfold Ft.name Ft.nameF
  by_cases h7 : c = 7
  · subst h7
    rw [if_pos rfl]
    have k1 : Hid (Calls Tryz.prog 75 #[.pointer (some ⟨s, 0, none⟩), .string l] w fun e w' => e = .returned (.int .i64 (T.F.unlink (bl l)).2) ∧ Hid (TdTo w x { T with F := (T.F.unlink (bl l)).1 } D w')) := by
      refine hid ((H.unlink hT.F hlm l hs).mono ?_)
      rintro e w' ⟨rfl, hk⟩
      exact ⟨rfl, hid (TdTo.sys H (Below.refl _ _) hD hk (SH.unlink hT.F _).1)⟩
    generalize T.F.unlink (bl l) = r at k1 ⊢
    obtain ⟨F', E⟩ := r
    dsimp only at k1 ⊢
    clear H hT hD HP0 hlm
    go_enter Tryz.func34, Tryz.ntmps34
    go_wp2_with fail
    refine k1.out.mono ?_
    rintro e w2 ⟨rfl, HQ⟩
    clear k1
    go_wp2_with fail
    go_ret
    exact ⟨rfl, HQ.out⟩
  by_cases h8 : c = 8
  · subst h8
    rw [if_neg (by decide), if_pos rfl]
    have k1 : Hid (Calls Tryz.prog 76 #[.pointer (some ⟨s, 0, none⟩), .string l, .int .i64 2] w fun e w' => e = .returned (.tuple #[.int .i64 ((T.F.make (bl l) 2).2.1 : Int), .int .i64 (T.F.make (bl l) 2).2.2]) ∧ Hid (TdTo w x { T with F := (T.F.make (bl l) 2).1 } D w')) := by
      refine hid ((H.make hT.F l hs 2).mono ?_)
      rintro e w' ⟨rfl, hk⟩
      exact ⟨rfl, hid (TdTo.sys H (Below.refl _ _) hD hk (SH.make hT.F _ _).1)⟩
    generalize T.F.make (bl l) 2 = r at k1 ⊢
    obtain ⟨F', m, E⟩ := r
    dsimp only at k1 ⊢
    clear H hT hD HP0 hlm
    go_enter Tryz.func34, Tryz.ntmps34
    go_wp2_with fail
    refine k1.out.mono ?_
    rintro e w2 ⟨rfl, HQ⟩
    clear k1
    go_wp2_with fail
    go_ret
    exact ⟨rfl, HQ.out⟩
  by_cases h9 : c = 9
  · subst h9
    rw [if_neg (by decide), if_neg (by decide), if_pos rfl]
    have k1 : Hid (Calls Tryz.prog 77 #[.pointer (some ⟨s, 0, none⟩), .string l] w fun e w' => e = .returned (.int .i64 (T.F.rmdir (bl l)).2) ∧ Hid (TdTo w x { T with F := (T.F.rmdir (bl l)).1 } D w')) := by
      refine hid ((H.rmdir hT.F hlm l hs).mono ?_)
      rintro e w' ⟨rfl, hk⟩
      exact ⟨rfl, hid (TdTo.sys H (Below.refl _ _) hD hk (SH.rmdir hT.F _).1)⟩
    generalize T.F.rmdir (bl l) = r at k1 ⊢
    obtain ⟨F', E⟩ := r
    dsimp only at k1 ⊢
    clear H hT hD HP0 hlm
    go_enter Tryz.func34, Tryz.ntmps34
    go_wp2_with fail
    refine k1.out.mono ?_
    rintro e w2 ⟨rfl, HQ⟩
    clear k1
    go_wp2_with fail
    go_ret
    exact ⟨rfl, HQ.out⟩
  by_cases h10 : c = 10
  · subst h10
    rw [if_neg (by decide), if_neg (by decide), if_neg (by decide), if_pos rfl]
    have k1 : Hid (Calls Tryz.prog 78 #[.pointer (some ⟨s, 0, none⟩), .string l, .string l2] w fun e w' => e = .returned (.int .i64 (T.F.link (bl l) (bl l2)).2) ∧ Hid (TdTo w x { T with F := (T.F.link (bl l) (bl l2)).1 } D w')) := by
      refine hid ((H.link hT.F hlm l l2 hs hs2).mono ?_)
      rintro e w' ⟨rfl, hk⟩
      exact ⟨rfl, hid (TdTo.sys H (Below.refl _ _) hD hk (SH.link _ _).1)⟩
    generalize T.F.link (bl l) (bl l2) = r at k1 ⊢
    obtain ⟨F', E⟩ := r
    dsimp only at k1 ⊢
    clear H hT hD HP0 hlm
    go_enter Tryz.func34, Tryz.ntmps34
    go_wp2_with fail
    refine k1.out.mono ?_
    rintro e w2 ⟨rfl, HQ⟩
    clear k1
    go_wp2_with fail
    go_ret
    exact ⟨rfl, HQ.out⟩
  by_cases h11 : c = 11
  · subst h11
    rw [if_neg (by decide), if_neg (by decide), if_neg (by decide), if_neg (by decide), if_pos rfl]
    have k1 : Hid (Calls Tryz.prog 79 #[.pointer (some ⟨s, 0, none⟩), .string l, .string l2] w fun e w' => e = .returned (.int .i64 (T.F.rename (bl l) (bl l2)).2) ∧ Hid (TdTo w x { T with F := (T.F.rename (bl l) (bl l2)).1 } D w')) := by
      refine hid ((H.rename hT.F hlm l l2 hs hs2).mono ?_)
      rintro e w' ⟨rfl, hk⟩
      exact ⟨rfl, hid (TdTo.sys H (Below.refl _ _) hD hk (SH.rename hT.F _ _).1)⟩
    generalize T.F.rename (bl l) (bl l2) = r at k1 ⊢
    obtain ⟨F', E⟩ := r
    dsimp only at k1 ⊢
    clear H hT hD HP0 hlm
    go_enter Tryz.func34, Tryz.ntmps34
    go_wp2_with fail
    refine k1.out.mono ?_
    rintro e w2 ⟨rfl, HQ⟩
    clear k1
    go_wp2_with fail
    go_ret
    exact ⟨rfl, HQ.out⟩
  rw [if_neg h7, if_neg h8, if_neg h9, if_neg h10, if_neg h11]
  have HQ := hid (TdTo.same HP0 (Below.refl _ w))
  clear H hT hD HP0 hlm
  dsimp only
  go_enter Tryz.func34, Tryz.ntmps34
  go_wp2_with fail
  go_ret
  exact ⟨rfl, HQ.out⟩

set_option maxHeartbeats 2000000 in
theorem tdtrunc (w : World) (x : Nat) (T : Ft) (D : Nat → Prop) (HP : Td w x T D) (hT : TOk T) (l : ByteArray) (hs : l.size ≤ 1048576) (z : Int) (hz : z ≤ 9223372036854775807) :
    Calls Tryz.prog 36 #[.pointer (some ⟨x, 0, none⟩), .string l, .int .i64 z] w fun e w' => e = .returned (.int .i64 (T.trunc (bl l) z).2) ∧ TdTo w x (T.trunc (bl l) z).1 D w' := by
  have HP0 := HP
  obtain ⟨g, s, q, Dn, Dp, H, hD⟩ := HP
  have cs := H.cs
  have k1 := hid (H.find hT.F l hs)
  have HS := hid (fun X (hX : Below w.heap.size w X) => TdTo.same HP0 hX)
  have HC := hid (fun X (hX : Below w.heap.size w X) => (H.grow hX).cs)
  have k2 : Hid (∀ X m, Below w.heap.size w X → Calls Tryz.prog 59 #[.pointer (some ⟨s, 0, none⟩), .int .i64 m, .int .i64 z] X fun e w' => e = .returned (.int .i64 (T.F.resize m z).2) ∧ Hid (TdTo w x { T with F := (T.F.resize m z).1 } D w')) := by
    refine hid (fun X m hX => ((H.grow hX).resize hT.F m z hz).mono ?_)
    rintro e w' ⟨rfl, hk⟩
    exact ⟨rfl, hid (TdTo.sys (H.grow hX) hX hD hk (SH.resize _ _ _).1)⟩
  unfold Ft.trunc
  clear H hT hD HP0
  generalize T.F.find (bl l) = r at k1 ⊢
  obtain ⟨m, E⟩ := r
  dsimp only at k1 ⊢
  by_cases hE : E = 0
  · subst hE
    rw [if_neg (by simp)]
    have k2 := hid (fun X hX => k2.out X (m : Int) hX)
    generalize T.F.resize m z = r at k2 ⊢
    obtain ⟨F', E⟩ := r
    dsimp only at k2 ⊢
    go_enter Tryz.func36, Tryz.ntmps36
    go_wp2_with fail
    refine k1.out.mono ?_
    rintro e w1 ⟨rfl, hb⟩
    have K2 := hid (k2.out w1 hb)
    have cs1 := HC.out w1 hb
    clear k1 k2 hb HS HC
    go_wp2_with fail
    refine K2.out.mono ?_
    rintro e w2 ⟨rfl, HQ⟩
    clear K2
    go_wp2_with fail
    go_ret
    exact ⟨rfl, HQ.out⟩
  · rw [if_pos hE]
    clear k2
    dsimp only
    go_enter Tryz.func36, Tryz.ntmps36
    go_wp2_with fail
    refine k1.out.mono ?_
    rintro e w1 ⟨rfl, hb⟩
    have HQ := hid (HS.out w1 hb)
    have hne : (E == 0) = false := by simpa using hE
    clear k1 hb HS HC
    go_wp2_with fail
    go_ret
    exact ⟨rfl, HQ.out⟩

set_option maxHeartbeats 2000000 in
theorem tdstat (w : World) (x : Nat) (T : Ft) (D : Nat → Prop) (HP : Td w x T D) (hT : TOk T) (l : ByteArray) (hs : l.size ≤ 1048576) :
    Calls Tryz.prog 38 #[.pointer (some ⟨x, 0, none⟩), .string l] w fun e w' => e = .returned (.tuple #[.agg #[.int .i64 (T.stat (bl l)).1, .int .i64 (T.stat (bl l)).2.1, .int .i64 (T.stat (bl l)).2.2.1], .int .i64 (T.stat (bl l)).2.2.2]) ∧ Below w.heap.size w w' := by
  obtain ⟨g, s, q, Dn, Dp, H, hD⟩ := HP
  obtain ⟨W, gW⟩ : ∃ W, W = w.alloc (Obj.cells #[.int .i64 0, .int .i64 0, .int .i64 0] 87) := ⟨_, rfl⟩
  have hB : Below w.heap.size w W := by rw [gW]; exact one_new _ _
  have hN : W.heap[w.heap.size]? = some (.cells #[.int .i64 0, .int .i64 0, .int .i64 0] 87 (0, 0)) := by rw [gW]; exact heap_alloc_new _ _
  have hZ : w.heap.size < W.heap.size := by rw [gW]; simp
  have k1 := hid ((H.grow hB).find hT.F l hs)
  have csW := (H.grow hB).cs
  have HC := hid (fun X (hX : Below w.heap.size w X) => (H.grow hX).cs)
  have k2 := hid (fun X (hX : Below w.heap.size w X) (m : Int) => (H.grow hX).stat hT.F m)
  have HB := hid hB
  have HN := hid (And.intro hN hZ)
  unfold Ft.stat
  clear H hT hD hB hN hZ
  generalize T.F.find (bl l) = r at k1 ⊢
  obtain ⟨m, E⟩ := r
  dsimp only at k1 ⊢
  by_cases hE : E = 0
  · subst hE
    rw [if_neg (by simp)]
    have k2 := hid (fun X hX => k2.out X hX (m : Int))
    generalize T.F.stat m = st0 at k2 ⊢
    obtain ⟨s1, s2, s3, s4⟩ := st0
    dsimp only at k2 ⊢
    have csw := csW
    rw [gW] at csw
    go_enter Tryz.func38, Tryz.ntmps38
    go_wp2_with fail
    rw [← gW]
    clear csw csW
    refine k1.out.mono ?_
    rintro e w1 ⟨rfl, hb⟩
    have hw1 := HB.out.trans (hb.mono HB.out.size)
    have K2 := hid (k2.out w1 hw1)
    have cs1 := HC.out w1 hw1
    have n1 := (hb.block _ HN.out.2).trans HN.out.1
    have HB1 := hid hw1
    have HN1 := hid n1
    have HL1 : Hid (w.heap.size < w1.heap.size) := hid (Nat.lt_of_lt_of_le HN.out.2 hb.size)
    clear k1 k2 hb HC hw1 n1 gW
    go_wp2_with fail
    refine K2.out.mono ?_
    rintro e w2 ⟨rfl, hb2⟩
    have h2 := (hb2.block _ HL1.out).trans HN1.out
    have r0 : w2.cell? ⟨w.heap.size, 0, none⟩ = some (.int .i64 0) := by rw [cell_of_row w2 _ 0 _ _ _ h2]; rfl
    have r1 : w2.cell? ⟨w.heap.size, 1, none⟩ = some (.int .i64 0) := by rw [cell_of_row w2 _ 1 _ _ _ h2]; rfl
    have r2 : w2.cell? ⟨w.heap.size, 2, none⟩ = some (.int .i64 0) := by rw [cell_of_row w2 _ 2 _ _ _ h2]; rfl
    have f0 : ∀ j, w2.frozen? ⟨w.heap.size, j, none⟩ = false := fun j => by simp [World.frozen?, h2]
    have f1 := f0 0
    have f2 := f0 1
    have f3 := f0 2
    have HB2 := hid (HB1.out.trans (hb2.mono HB1.out.size))
    have HN2 := hid h2
    clear K2 h2 f0 hb2 cs1
    go_wp2_with fail
    have q3 : (((w2.setCell ⟨w.heap.size, 0, none⟩ (.int .i64 s1)).setCell ⟨w.heap.size, 1, none⟩ (.int .i64 s2)).setCell ⟨w.heap.size, 2, none⟩ (.int .i64 s3)).heap[w.heap.size]? = some (.cells (List.toArray [.int .i64 s1, .int .i64 s2, .int .i64 s3]) 87 (0, 0)) := by
      have g1 := heap_setCell_same w2 w.heap.size 0 _ _ (.int .i64 s1) HN2.out
      have g2 := heap_setCell_same _ w.heap.size 1 _ _ (.int .i64 s2) g1
      have g3 := heap_setCell_same _ w.heap.size 2 _ _ (.int .i64 s3) g2
      exact g3
    refine bodyPost_ret (cell_result2 rfl _ _ w.heap.size 0 rfl [.int .i64 s1, .int .i64 s2, .int .i64 s3] _ (rangeAt_block q3) Tryz.underlying87 rfl csizeInfo) rfl ?_
    exact ⟨rfl, ((HB2.out.setCell (Nat.le_refl _) _).setCell (Nat.le_refl _) _).setCell (Nat.le_refl _) _⟩
  · rw [if_pos hE]
    dsimp only
    have hne : (E == 0) = false := by simpa using hE
    clear k2 HC
    have csw := csW
    rw [gW] at csw
    go_enter Tryz.func38, Tryz.ntmps38
    go_wp2_with fail
    rw [← gW]
    clear csw csW
    refine k1.out.mono ?_
    rintro e w2 ⟨rfl, hb⟩
    have h2 := (hb.block _ HN.out.2).trans HN.out.1
    have r0 : w2.cell? ⟨w.heap.size, 0, none⟩ = some (.int .i64 0) := by rw [cell_of_row w2 _ 0 _ _ _ h2]; rfl
    have r1 : w2.cell? ⟨w.heap.size, 1, none⟩ = some (.int .i64 0) := by rw [cell_of_row w2 _ 1 _ _ _ h2]; rfl
    have r2 : w2.cell? ⟨w.heap.size, 2, none⟩ = some (.int .i64 0) := by rw [cell_of_row w2 _ 2 _ _ _ h2]; rfl
    have f0 : ∀ j, w2.frozen? ⟨w.heap.size, j, none⟩ = false := fun j => by simp [World.frozen?, h2]
    have f1 := f0 0
    have f2 := f0 1
    have f3 := f0 2
    have HB2 := hid (HB.out.trans (hb.mono HB.out.size))
    have HN2 := hid h2
    clear k1 h2 f0 hb gW
    go_wp2_with (refine wpList_build_is rfl 87 #[] rfl _ (by simpa [Act.eval] using builtInfo0) ?_)
    have q3 : (((w2.setCell ⟨w.heap.size, 0, none⟩ (.int .i64 0)).setCell ⟨w.heap.size, 1, none⟩ (.int .i64 0)).setCell ⟨w.heap.size, 2, none⟩ (.int .i64 0)).heap[w.heap.size]? = some (.cells (List.toArray [.int .i64 0, .int .i64 0, .int .i64 0]) 87 (0, 0)) := by
      have g1 := heap_setCell_same w2 w.heap.size 0 _ _ (.int .i64 0) HN2.out
      have g2 := heap_setCell_same _ w.heap.size 1 _ _ (.int .i64 0) g1
      have g3 := heap_setCell_same _ w.heap.size 2 _ _ (.int .i64 0) g2
      exact g3
    refine bodyPost_ret (cell_result2 rfl _ _ w.heap.size 0 rfl [.int .i64 0, .int .i64 0, .int .i64 0] _ (rangeAt_block q3) Tryz.underlying87 rfl csizeInfo) rfl ?_
    exact ⟨rfl, ((HB2.out.setCell (Nat.le_refl _) _).setCell (Nat.le_refl _) _).setCell (Nat.le_refl _) _⟩


set_option maxHeartbeats 4000000 in
theorem tdlook (w : World) (x : Nat) (T : Ft) (D : Nat → Prop) (HP : Td w x T D) (hT : TOk T) :
    Calls Tryz.prog 40 #[.pointer (some ⟨x, 0, none⟩)] w fun e w' => (∃ v, e = .returned v ∧ w'.ownsRow w.heap.size 40 6 v (oiN T.O 11) (oiL T.O 11)) ∧ Below w.heap.size w w' := by
  obtain ⟨g, s, q, Dn, Dp, H, hD⟩ := HP
  obtain ⟨i0, hi0, hz0, hz1, hz2⟩ := info_parts infoOI
  have cl := H.cl
  have HK := hid hT.k0
  have hgl := H.gf.lt
  obtain ⟨O0, gO⟩ : ∃ O0, O0 = T.O := ⟨_, rfl⟩
  rw [← gO] at HK ⊢
  have HC : Hid (∀ X, Below w.heap.size w X → ∀ j, j < 11 → X.cell? ⟨g, j * 5, none⟩ = some (.int .i64 (O0 j).k) ∧ X.cell? ⟨g, j * 5 + 1, none⟩ = some (.int .i64 (O0 j).of) ∧ X.cell? ⟨g, j * 5 + 2, none⟩ = some (.int .i64 (O0 j).off) ∧ X.cell? ⟨g, j * 5 + 3, none⟩ = some (.int .i64 (O0 j).fl) ∧ X.cell? ⟨g, j * 5 + 4, none⟩ = some (.int .i64 (O0 j).h)) := by
    rw [gO]
    exact hid (fun X hX j hj => ⟨(H.grow hX).gf.c0 j hj, (H.grow hX).gf.c1 j hj, (H.grow hX).gf.c2 j hj, (H.grow hX).gf.c3 j hj, (H.grow hX).gf.c4 j hj⟩)
  clear H gO hD hT
  go_enter Tryz.func40, Tryz.ntmps40
  go_wp2_with fail
  rename World => w1
  go_loopw [3, 11] (fun v k wr => ∃ (j : Nat) (a : Option Addr) (c : Nat), j ≤ 11 ∧ k = .int .i64 (j : Int) ∧ v = .slice a (oiN O0 j) c ∧ Hid (wr.ownsRow w1.heap.size 40 6 (.slice a (oiN O0 j) c) (oiN O0 j) (oiL O0 j)) ∧ Hid (Below w1.heap.size w1 wr)) (fun _ k _ => 11 - (intOf k).toNat)
  case atStart => exact ⟨0, none, 0, by omega, rfl, rfl, hid (World.ownsRow_nil _ _ _ _), hid (Below.refl _ _)⟩
  case round =>
    obtain ⟨j, a, c, hj5, rfl, rfl, HO, HB⟩ := hrel
    by_cases e : j = 11
    · subst e
      go_wp2_with fail
      go_ret
      exact ⟨⟨_, rfl, HO.out⟩, HB.out⟩
    · have hj : j < 11 := by omega
      obtain ⟨c0, c1, c2, c3, c4⟩ := HC.out _ HB.out j hj
      have hj6 : (j : Int) < 11 := by omega
      have hj7 : (0 : Int) ≤ (j : Int) := by omega
      have hkk := HK.out j
      have hcl := oiN_le O0 j
      have HN : Hid ((O0 j).h = 0 → oiL O0 (j + 1) = oiL O0 j ∧ oiN O0 (j + 1) = oiN O0 j) := hid (fun e => ⟨by rw [oiL, if_pos e], by rw [oiN, if_pos e]⟩)
      have HY : Hid ((O0 j).h ≠ 0 → oiL O0 (j + 1) = oiL O0 j ++ oiV j (O0 j) ∧ oiN O0 (j + 1) = oiN O0 j + 1) := hid (fun e => ⟨by rw [oiL, if_neg e], by rw [oiN, if_neg e]⟩)
      rename World => wr
      have hX := (Below.refl wr.heap.size wr).alloc (Nat.le_refl _) (.cells #[.int .i64 (O0 j).k, .int .i64 (O0 j).of, .int .i64 (O0 j).off, .int .i64 (O0 j).fl, .int .i64 (O0 j).h] 124)
      have HB2 : Hid (Below w1.heap.size w1 (wr.alloc (.cells #[.int .i64 (O0 j).k, .int .i64 (O0 j).of, .int .i64 (O0 j).off, .int .i64 (O0 j).fl, .int .i64 (O0 j).h] 124))) := hid (HB.out.trans (hX.mono HB.out.size))
      have HO2 : Hid ((wr.alloc (.cells #[.int .i64 (O0 j).k, .int .i64 (O0 j).of, .int .i64 (O0 j).off, .int .i64 (O0 j).fl, .int .i64 (O0 j).h] 124)).ownsRow w1.heap.size 40 6 (.slice a (oiN O0 j) c) (oiN O0 j) (oiL O0 j)) := hid ((Upd.of_below (F := fun _ => False) hX).own HO.out (fun _ _ h => h))
      clear hX HO HB e
      by_cases hh : (O0 j).h = 0
      · obtain ⟨e1, e2⟩ := HN.out hh
        have HO3 := HO2
        rw [← e1, ← e2] at HO3
        have hk0 := hkk.2 hh
        have E2 := hid e2
        have HK0 := hid hk0
        rw [hk0] at c0 HO3 HB2
        clear HN HY e1 e2 hh hkk hk0
        go_wp2_with fail
        go_roundw
        case rel => exact ⟨j + 1, a, c, by omega, by go_num, by rw [E2.out], HO3, HB2⟩
        case measure => simp [intOf]; omega
      · obtain ⟨e1, e2⟩ := HY.out hh
        have E1 := hid e1
        have E2 := hid e2
        have hk0 : ¬ (O0 j).k = 0 := fun e => hh (hkk.1 e)
        have E3 : Hid (oiV j (O0 j) = [.int .i64 (j : Int), .int .i64 (O0 j).k, .int .i64 (O0 j).of, .int .i64 (O0 j).off, .int .i64 (O0 j).fl, .int .i64 (O0 j).h]) := hid rfl
        clear HN HY e1 e2 hh hkk
        generalize (O0 j).k = fk at c0 HB2 HO2 E3 hk0
        generalize (O0 j).of = fo at c1 HB2 HO2 E3
        generalize (O0 j).off = ff at c2 HB2 HO2 E3
        generalize (O0 j).fl = fg at c3 HB2 HO2 E3
        generalize (O0 j).h = fh at c4 HB2 HO2 E3
        rw [E3.out] at E1
        generalize oiN O0 j = nn at HO2 E2 hcl ⊢
        generalize oiL O0 j = ll at HO2 E1
        go_wp2_with (at_builtin; go_must (refine wpList_append_own _ rfl (.tmp 19) (.tmp 32) 37 rfl w1.heap.size 40 i0 _ 6 48 Tryz.underlying37 hi0 hz0 hz1 hz2 rfl (by decide) _ nn ll rfl (HO2.out.alloc _) ⟨_, 0, none⟩ 1 1 [.int .i64 (j : Int), .int .i64 fk, .int .i64 fo, .int .i64 ff, .int .i64 fg, .int .i64 fh] rfl rfl (cells_new _ _ _ _ (by simp)) (by simp [Value.oneCell']) (by unfold maxLen; omega) (by omega) (by have := HB2.out.size; simp at this ⊢; omega) ?_))
        intro v' w6 hO6 hG6 hN6
        obtain ⟨va, vc, rfl, _⟩ := own_shp hO6
        have HB6 : Hid (Below w1.heap.size w1 w6) := hid ((HB2.out.alloc HB2.out.size _).grown hG6 (by have := HB2.out.size; simp at this ⊢; omega) (fun x hx => (HO2.out.lt x hx).1))
        have HO6 : Hid (w6.ownsRow w1.heap.size 40 6 (.slice va (nn + 1) vc) (nn + 1) (oiL O0 (j + 1))) := hid (by rw [E1.out]; exact hO6)
        clear hO6 hG6 hN6 HO2 HB2
        go_wp2_with fail
        go_roundw
        case rel => exact ⟨j + 1, va, vc, by omega, by go_num, by rw [E2.out], by rw [E2.out]; exact HO6, HB6⟩
        case measure => simp [intOf]; omega

end Go.Proofs.YtoknhcjneliboaaGreat
