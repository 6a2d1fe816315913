/- What disk.Write does with a sector that the disk has and 128 bytes: the write is put into the last epoch, or into a new one, and what is written turns. -/
import Derived.Test.YtkmnhpnlkmiiiaaGreatDoorDWrote
import Derived.Deep.RegionHeld3
namespace Go.Proofs.YtkmnhpnlkmiiiaaGreatDoor
open Go.RowKit
set_option linter.unusedVariables false

theorem Tryz.infoSL : (Tryz.prog.info? 80).map (fun i => (i.zero, i.size, i.bytes)) = some (some (.slice none 0 0), 1, 24) := by kernel_rfl

/-- What Write leaves. -/
def Wrote (w : World) (d : Dk) (p i : Nat) (bs : List Int) (r : Ending) (w' : World) : Prop :=
  r = .returned (.int .i64 0) ∧ ∃ d' : Dk, d'.ok w' p ∧ d'.n = d.n ∧ d'.gd = d.gd ∧ d'.dur = d.dur ∧ d'.wr = splice d.wr (i * 128) bs ∧ d'.ab = writeE d.ab d.opn i bs ∧ d'.opn = true ∧ Upd (· ∈ d.foot p) w w' ∧ Grew w (d.foot p) (d'.foot p)

theorem slices_one (l : List Value) (h : ∀ u ∈ l, ∃ a n c, u = .slice a n c) : ∀ u ∈ l, u.oneCell' = true := by
  intro u hu
  obtain ⟨a, n, c, rfl⟩ := h u hu
  rfl

theorem splice_map {α β : Type} (f : α → β) (L cs : List α) (off : Nat) : (splice L off cs).map f = splice (L.map f) off (cs.map f) := by
  simp [splice, List.map_take, List.map_drop]

theorem take_splice {α : Type} (L cs : List α) (off m : Nat) (h : off + cs.length ≤ m) (hm : m ≤ L.length) : (splice L off cs).take m = splice (L.take m) off cs := by
  apply List.ext_getElem?
  intro j
  simp only [splice, List.getElem?_take, List.getElem?_append, List.length_take, List.getElem?_drop]
  grind

theorem cell_setCell_block (w : World) (g j : Nat) (v : Value) (a : Addr) (h : a.block ≠ g) : (w.setCell ⟨g, j, none⟩ v).cell? a = w.cell? a :=
  World.cell?_of_block (heap_setCell_other w ⟨g, j, none⟩ a.block v h)

theorem Upd.comp {A B : List Nat} {a b c : World} (h : Upd (· ∈ A) a b) (k : Upd (· ∈ B) b c) (hg : Grew a A B) : Upd (· ∈ A) a c :=
  h.trans k (fun x hx hB => by
    rcases hg x hB with h' | h'
    · exact h'
    · omega)

theorem Grew.comp {A B C : List Nat} {a b : World} (h : Grew a A B) (hs : a.heap.size ≤ b.heap.size) (k : Grew b B C) : Grew a A C := fun x hx => by
  rcases k x hx with h' | h'
  · exact h x h'
  · exact .inr (Nat.le_trans hs h')

set_option maxHeartbeats 2000000 in
set_option maxRecDepth 20000 in
theorem write_any (d : Dk) (p i : Nat) (ab : Addr) (cb : Nat) (bs : List Int) (w : World) (hok : d.ok w p) (hi : i < d.n) (hs : Src w (some ab) 128 bs) (hab : ab.block ∉ d.foot p) (hsz : d.eps.length ≤ 5000000000000) :
    Calls Tryz.prog 73 #[.pointer (some ⟨p, 0, none⟩), .int .i64 i, .slice (some ab) 128 cb] w (Wrote w d p i bs) := by
  have k1 := hid (dusable d p w hok)
  have k2 := hid (dhas d p i w hok)
  rw [show decide ((0 : Int) ≤ (i : Int) ∧ (i : Int) < (d.n : Int)) = true from decide_eq_true ⟨by omega, by omega⟩] at k2
  obtain ⟨c0, c1, c2, c3⟩ := hok.cell
  obtain ⟨ae, ce, hve, hce1, hce2⟩ := own_shape hok.row
  rw [hve] at c2
  have HK := hid hok
  have HR := hid hs
  have HA := hid hab
  have HV := hid hve
  clear hok hs hab hve
  cases ho : d.opn
  · rw [ho] at c3
    have f2 := HK.out.frozen 2
    have f3 := HK.out.frozen 3
    obtain ⟨i0, hi0, hz0, hz1, hz2⟩ := info_parts Tryz.infoSL
    have HRow := HK.out.row
    rw [HV.out] at HRow
    have HRw := hid HRow
    clear HRow
    go_enter Tryz.func73, Tryz.ntmps73
    go_wp2_with fail
    refine k1.out.mono ?_
    rintro r w1 ⟨rfl, h⟩
    subst w1
    go_wp2_with fail
    refine k2.out.mono ?_
    rintro r w1 ⟨rfl, h⟩
    subst w1
    go_wp2_with (at_builtin; go_must (refine wpList_append_where rfl _ _ 62 rfl 80 i0 _ 1 24 Tryz.underlying62 hi0 hz0 hz1 hz2 rfl (by decide) (.slice ae d.eps.length ce) d.eps.length (d.eps.map Ep.v) rfl (HRw.out.alloc _) ⟨_, 0, none⟩ 1 1 [.slice none 0 0] rfl rfl (by intro j u hj; rw [Addr.add_lit]; refine heap_cells (heap_alloc_new _ _) _ u ?_; simpa using hj) (by simp [Value.oneCell']) (by unfold maxLen; omega) (by omega) ?_))
    intro v' w2 hO hU hN hW
    have hU0 : Upd (fun x => d.ve.ownBlock = some x) w w2 := (Upd.alloc _ w _).trans hU (fun x _ hx => by rw [HV.out]; exact hx)
    have hW0 : v'.ownBlock = d.ve.ownBlock ∨ ∀ x, v'.ownBlock = some x → w.heap.size ≤ x := by
      rcases hW.out with h | h
      · exact .inl (by rw [HV.out]; exact h)
      · exact .inr fun x hx => Nat.le_trans (by simp) (h x hx)
    obtain ⟨ae', ce', hv', hc1', hc2'⟩ := own_shape hO.out
    have hopd := HK.out.opened hU0 hO.out hW0
    have hpv : d.ve.ownBlock ≠ some p := fun h => by
      have := HK.out.nodup
      simp only [Dk.foot, List.nodup_cons, List.mem_cons, List.mem_append, not_or] at this
      exact this.1.2.2.1 (by simp [vb, h])
    have hp2 := hU0.heap HK.out.cells hpv
    have d2 : w2.cell? ⟨p, 2, none⟩ = some d.ve := by rw [cell_of_row w2 p 2 _ _ _ hp2]; rfl
    have d3 : w2.cell? ⟨p, 3, none⟩ = some (.bool d.opn) := by rw [cell_of_row w2 p 3 _ _ _ hp2]; rfl
    have e2 : w2.frozen? ⟨p, 2, none⟩ = false := frozen_of_row w2 p 2 _ _ hp2
    have e3 : w2.frozen? ⟨p, 3, none⟩ = false := frozen_of_row w2 p 3 _ _ hp2
    have HOP := hid hopd
    clear hopd hp2 hU hU0 hW0 c0 c1 c2 c3 f2 f3
    subst hv'
    go_wp2_with fail
    obtain ⟨W3, gW3⟩ : ∃ W3, W3 = (w2.setCell ⟨p, 2, none⟩ (.slice ae' (d.eps.length + 1) ce')).setCell ⟨p, 3, none⟩ (.bool true) := ⟨_, rfl⟩
    rw [← gW3] at HOP ⊢
    obtain ⟨ge, rfl⟩ : ∃ ge, ae' = some ⟨ge, 0, none⟩ := by
      rcases hO.out.2 with ⟨_, h⟩ | ⟨g, c, cur, h, _⟩
      · omega
      · injection h with h1 h2 h3; exact ⟨g, h1⟩
    obtain ⟨d1, hd1⟩ : ∃ d1 : Dk, d1 = { d with ve := .slice (some ⟨ge, 0, none⟩) (d.eps.length + 1) ce', eps := d.eps ++ [⟨.slice none 0 0, []⟩], opn := true } := ⟨_, rfl⟩
    rw [← hd1] at HOP
    obtain ⟨init, gi⟩ : ∃ init, init = d.eps := ⟨_, rfl⟩
    obtain ⟨e, hed⟩ : ∃ e : Ep, e = ⟨.slice none 0 0, []⟩ := ⟨_, rfl⟩
    have hi1 : d1.eps = init ++ [e] := by rw [hd1, gi, hed]
    have hve1 : d1.ve = .slice (some ⟨ge, 0, none⟩) (init.length + 1) ce' := by rw [hd1, gi]
    have hn1 : d1.n = d.n := by rw [hd1]
    have hx1 : d1.gd = d.gd ∧ d1.dur = d.dur ∧ d1.wr = d.wr ∧ d1.opn = true := by rw [hd1]; exact ⟨rfl, rfl, rfl, rfl⟩
    have hab1e : ∀ e' : Ep, e'.ab = putE i bs e.ab → (init ++ [e']).map Ep.ab = writeE d.ab d.opn i bs := by
      intro e' h
      rw [show e.ab = [] by rw [hed]; rfl] at h
      simp [writeE, ho, gi, Dk.ab, h, putE]
    rw [← gi]
    clear gW3 hd1 gi hed
    -- the tail: the last epoch, and what is written
    obtain ⟨hok1, hU1, hG1⟩ := HOP.out
    have hpos : init.length < d1.eps.length := by rw [hi1]; simp
    have hfs := foot_split d1 p init e hi1
    have hnd1 := hok1.nodup
    rw [hfs] at hnd1
    have hndA := List.nodup_append.1 hnd1
    have heok : e.ok W3 d1.n := hok1.eps e (by rw [hi1]; simp)
    obtain ⟨ae2, ce2, hev, hev1, hev2⟩ := own_shape heok.row
    have habl : ab.block < w.heap.size := by
      obtain ⟨b, o, e0, hlt, _⟩ := HR.out.2 (by omega)
      rw [Option.some.inj e0]; exact hlt
    have hab1 : ab.block ∉ d1.foot p := fun hx => by
      rcases hG1 _ hx with h | h
      · exact HA.out h
      · omega
    have habe : ab.block ∉ e.foot := fun hx => hab1 (by rw [hfs]; exact List.mem_append.2 (.inr hx))
    have hs3 : Src W3 (some ab) 128 bs := hU1.src HR.out (fun b o e0 => by have := Option.some.inj e0; subst this; exact HA.out)
    have hrow3 := hok1.row
    rw [hve1, hi1] at hrow3
    have hvbe : vb d1.ve = [ge] := by simp [hve1, vb, Value.ownBlock]
    have hpge : p ≠ ge := by
      have := hndA.1
      simp only [hvbe, List.nodup_cons, List.mem_cons, List.singleton_append, not_or] at this
      exact this.1.2.2.1
    have hpe : p ∉ e.foot := fun hx => hndA.2.2 p (by simp) p hx rfl
    have hgee : ge ∉ e.foot := fun hx => hndA.2.2 ge (by simp [hvbe]) ge hx rfl
    have hgwe : d1.gw ∉ e.foot := fun hx => hndA.2.2 d1.gw (by simp) d1.gw hx rfl
    have hgwge : d1.gw ≠ ge := by
      have := hndA.1
      simp only [hvbe, List.nodup_cons, List.mem_cons, List.singleton_append, not_or] at this
      exact this.2.2.1.1
    obtain ⟨t0, t1, t2, t3⟩ := hok1.cell
    rw [hve1] at t2
    have hl3 : (List.map Ep.v (init ++ [e])).length = init.length + 1 := by simp
    have hlen3 : (init ++ [e]).length = init.length + 1 := by simp
    rw [hlen3] at hrow3
    have tl : W3.cell? ⟨ge, init.length, none⟩ = some (.slice ae2 e.es.length ce2) := by
      rw [hrow3.cellAt _ (by omega), ← hev]; simp
    have fl : W3.frozen? ⟨ge, init.length, none⟩ = false := hrow3.frozenAt _
    obtain ⟨cw, hcw, hcw1, hcw2, hcw3, hcw4⟩ := own_heap hok1.wr
    have hplt : p < W3.heap.size := hok1.lt p (by simp [Dk.foot])
    have hgelt : ge < W3.heap.size := hok1.lt ge (by rw [hfs]; simp [hvbe])
    have hgwlt : d1.gw < W3.heap.size := hok1.lt d1.gw (by simp [Dk.foot])
    have kp := hid (dput_any e d1.n i ab cb bs W3.drew (heok.frame fun _ _ => rfl) hndA.2.1 hok1.n2 (by rw [hn1]; exact hi) ⟨hs3.1, hs3.2⟩ habe)
    rw [hev] at kp
    have HOK := hid hok1
    have HU1 := hid hU1
    have HG1 := hid hG1
    have HS3 := hid hs3
    have HROW := hid hrow3
    have HCW := hid hcw
    have hi2 := hid hi1
    have hve2 := hid hve1
    have hev3 := hid hev
    have hfin : ∀ (w5 : World) (e' : Ep), e'.ok w5 d1.n → Upd (· ∈ e.foot) W3.drew w5 → (∀ x ∈ e'.foot, x ∈ e.foot ∨ W3.drew.heap.size ≤ x) → e'.foot.Nodup → e'.ab = putE i bs e.ab →
        ∃ R : List Value, (Builtin.copy_ #[29, 29] 3 #[.slice (some ⟨d1.gw, i * 128, none⟩) 128 128, .slice (some ab) 128 cb]).run Tryz.prog (w5.setCell ⟨ge, init.length, none⟩ e'.v) = .ok (goInt 128) ((w5.setCell ⟨ge, init.length, none⟩ e'.v).setRow d1.gw R.toArray) ∧
          Wrote w d p i bs (.returned (.int .i64 0)) ((w5.setCell ⟨ge, init.length, none⟩ e'.v).setRow d1.gw R.toArray) := by
      intro w5 e' he' hU5 hf5 hnd5 hab5
      have hU5' : Upd (· ∈ e.foot) W3 w5 := ⟨hU5.os, hU5.tape, hU5.output, hU5.size, hU5.block⟩
      have hrow5 := (hU5'.own HROW.out (fun k hk => by simp [Value.ownBlock] at hk; subst hk; exact hgee)).stored init.length e'.v
      have hcw5 := hU5'.heap HCW.out hgwe
      have hcw6 : (w5.setCell ⟨ge, init.length, none⟩ e'.v).heap[d1.gw]? = some (.cells cw.toArray 5 (0, 0)) := by rw [heap_setCell_other _ _ _ _ hgwge]; exact hcw5
      have hbl := HS3.out.1
      have hs6 : Src (w5.setCell ⟨ge, init.length, none⟩ e'.v) (some ab) 128 bs := by
        have hU6 : Upd (· ∈ ge :: e.foot) W3 (w5.setCell ⟨ge, init.length, none⟩ e'.v) := (hU5'.mono (fun x _ hx => by simp [hx])).trans (Upd.setCell (F := (· = ge)) w5 ⟨ge, init.length, none⟩ e'.v rfl) (fun x _ hx => by simp [hx])
        refine hU6.src HS3.out (fun b o e0 => ?_)
        have := Option.some.inj e0
        subst this
        intro hx
        rcases List.mem_cons.1 hx with h | h
        · exact hab1 (by rw [hfs]; simp [hvbe, h])
        · exact habe h
      have hin : (i + 1) * 128 ≤ d1.n * 128 := Nat.mul_le_mul_right _ (by omega)
      refine ⟨splice cw (i * 128) (bs.map (Value.int .u8)), ?_, ?_⟩
      · have crun := run_copy_row2 (P := Tryz.prog) _ 29 29 3 5 1 d1.gw (i * 128) 128 128 ab 128 cb 128 cw.toArray 5 (bs.map (Value.int .u8)) Tryz.underlying29 Tryz.psz5 hcw6 (by decide) (by simp [hbl]) (src_cells hs6) (by simp [hbl]; omega) (u8_one bs)
        rw [crun]
        simp [splice]
      · have hU4 : Upd (fun x => x = ge ∨ x = d1.gw) w5 ((w5.setCell ⟨ge, init.length, none⟩ e'.v).setRow d1.gw (splice cw (i * 128) (bs.map (Value.int .u8))).toArray) := (Upd.setCell (F := fun x => x = ge ∨ x = d1.gw) w5 ⟨ge, init.length, none⟩ e'.v (.inl rfl)).trans (Upd.setRow (F := fun x => x = ge ∨ x = d1.gw) _ d1.gw _ (.inr rfl)) (fun x _ h => h)
        have hrow7 := (Upd.setRow (F := (· = d1.gw)) (w5.setCell ⟨ge, init.length, none⟩ e'.v) d1.gw (splice cw (i * 128) (bs.map (Value.int .u8))).toArray rfl).own hrow5.1 (fun k hk => by simp [Value.ownBlock] at hk; subst hk; exact fun h => hgwge h.symm)
        rw [show (List.map Ep.v (init ++ [e])).set init.length e'.v = init.map Ep.v ++ [e'.v] by simp] at hrow7
        have hcl : cw.length = d1.cw := by omega
        have hsl : (splice cw (i * 128) (bs.map (Value.int .u8))).length = cw.length := length_splice _ _ _ (by simp [hbl]; omega)
        have hwl := HOK.out.wr.1
        have hw7 : ((w5.setCell ⟨ge, init.length, none⟩ e'.v).setRow d1.gw (splice cw (i * 128) (bs.map (Value.int .u8))).toArray).ownsRow 0 5 1 (.slice (some ⟨d1.gw, 0, none⟩) (d1.n * 128) d1.cw) (d1.n * 128) ((splice d1.wr (i * 128) bs).map (Value.int .u8)) := by
          refine ⟨?_, .inr ⟨d1.gw, d1.cw, (splice cw (i * 128) (bs.map (Value.int .u8))).toArray, rfl, Nat.zero_le _, setRow_heap _ _ _ _ _ _ hcw6, hcw1, hcw2, by simp [hsl, hcl], ?_⟩⟩
          · rw [splice_map, length_splice _ _ _ (by rw [hwl]; simp [hbl]; omega), hwl]
          · rw [splice_map, ← hcw4, List.toList_toArray, take_splice _ _ _ _ (by simp [hbl]; omega) (by omega)]
        obtain ⟨hA, hB, hC⟩ := HOK.out.wrote (w2 := w5) (i := i) (bs := bs) (ce := ce') hi2.out hve2.out he' hU5' hf5 hnd5 hU4 (by rw [hve2.out]; exact hrow7) hw7 hx1.2.2.2
        refine ⟨rfl, _, hA, hn1, hx1.1, hx1.2.1, by rw [show ({ d1 with eps := init ++ [e'], wr := splice d1.wr (i * 128) bs } : Dk).wr = splice d1.wr (i * 128) bs from rfl, hx1.2.2.1], hab1e e' hab5, hx1.2.2.2, HU1.out.comp hB HG1.out, HG1.out.comp HU1.out.size hC⟩
    have HFIN := hid hfin
    clear hfin
    have hcap : d1.n * 128 ≤ d1.cw := hcw1
    have hcap2 : d1.cw ≤ 9223372036854775807 := by unfold maxLen at hcw2; omega
    have hid1 : i < d1.n := by omega
    clear hn1 hx1 hab1e hok1 hU1 hG1 hs3 hrow3 hcw hi1 hve1 hev heok hnd1 hndA hfs hcw4 t0 t3 hl3 hlen3
    have b1 : (0 : Int) ≤ (init.length : Int) := by omega
    have b2 : (init.length : Int) < (init.length : Int) + 1 := by omega
    go_region_with (first | (go_at_call 90; refine kp.out.mono ?_; rintro r w5 ⟨e', rfl, he5, hab5, hU5, hf5, hnd5, _⟩; have u2 : w5.cell? ⟨p, 2, none⟩ = some (.slice (some ⟨ge, 0, none⟩) (init.length + 1) ce') := (World.cell?_of_block (w := W3) (a := ⟨p, 2, none⟩) (hU5.block p hplt hpe)).trans t2; have ul : w5.cell? ⟨ge, init.length, none⟩ = some (.slice ae2 e.es.length ce2) := (World.cell?_of_block (w := W3) (a := ⟨ge, init.length, none⟩) (hU5.block ge hgelt hgee)).trans tl; have fl5 : w5.frozen? ⟨ge, init.length, none⟩ = false := (World.frozen?_of_block (w := W3) (a := ⟨ge, init.length, none⟩) (hU5.block ge hgelt hgee)).trans fl; have u1 : w5.cell? ⟨p, 1, none⟩ = some (.slice (some ⟨d1.gw, 0, none⟩) (d1.n * 128) d1.cw) := (World.cell?_of_block (w := W3) (a := ⟨p, 1, none⟩) (hU5.block p hplt hpe)).trans t1; obtain ⟨ae5, ce5, hv5, _, _⟩ := own_shape he5.row; have HF5 := hid (HFIN.out w5 e' he5 hU5 hf5 hnd5 hab5); clear he5 hab5 hU5 hf5 hnd5))
    all_goals
      obtain ⟨R, hrun, hwr⟩ := HF5.out
      rw [hv5] at hrun hwr
      have v1 : (w5.setCell ⟨ge, init.length, none⟩ (.slice ae5 e'.es.length ce5)).cell? ⟨p, 1, none⟩ = some (.slice (some ⟨d1.gw, 0, none⟩) (d1.n * 128) d1.cw) := (cell_setCell_block _ _ _ _ _ hpge).trans u1
      have HWR := hid hwr
      clear hwr HF5
      obtain ⟨W6, gW6⟩ : ∃ W6, W6 = w5.setCell ⟨ge, init.length, none⟩ (.slice ae5 e'.es.length ce5) := ⟨_, rfl⟩
      rw [← gW6] at hrun HWR v1 ⊢
      clear gW6 u1 u2 ul fl5 t1 t2 tl fl kp
      go_wp2_with fail
      refine (sector_any d1.gw d1.n i d1.cw _ hid1 HOK.out.n2 hcap hcap2).mono ?_
      rintro r w6 ⟨rfl, h⟩
      subst w6
      go_wp2_with fail
      go_ret
      exact HWR.out
  · rw [ho] at c3
    obtain ⟨init, e, hi1⟩ : ∃ init e, d.eps = init ++ [e] := by
      have := HK.out.last ho
      exact ⟨d.eps.dropLast, d.eps.getLast this, (List.dropLast_concat_getLast this).symm⟩
    have hlen1 : d.eps.length = init.length + 1 := by rw [hi1]; simp
    obtain ⟨ge, rfl⟩ : ∃ ge, ae = some ⟨ge, 0, none⟩ := by
      rcases HK.out.row.2 with ⟨_, h⟩ | ⟨g, c, cur, h, _⟩
      · omega
      · rw [HV.out] at h; injection h with h1 h2 h3; exact ⟨g, h1⟩
    obtain ⟨ce', gce⟩ : ∃ ce', ce' = ce := ⟨_, rfl⟩
    obtain ⟨d1, hd1⟩ : ∃ d1 : Dk, d1 = d := ⟨_, rfl⟩
    have HOP : Hid (d1.ok w p ∧ Upd (· ∈ d.foot p) w w ∧ Grew w (d.foot p) (d1.foot p)) := by
      rw [hd1]; exact ⟨HK.out, Upd.refl _ _, Grew.refl _ _⟩
    have hve1 : d1.ve = .slice (some ⟨ge, 0, none⟩) (init.length + 1) ce' := by rw [hd1, HV.out, gce, hlen1]
    have hn1 : d1.n = d.n := by rw [hd1]
    have hx1 : d1.gd = d.gd ∧ d1.dur = d.dur ∧ d1.wr = d.wr ∧ d1.opn = true := by rw [hd1]; exact ⟨rfl, rfl, rfl, ho⟩
    have hab1e : ∀ e' : Ep, e'.ab = putE i bs e.ab → (init ++ [e']).map Ep.ab = writeE d.ab d.opn i bs := by
      intro e' h
      simp [writeE, ho, Dk.ab, h, hi1]
    rw [hlen1, ← gce] at c2
    rw [hlen1] at hce1 hsz
    rw [← gce] at hce1 hce2
    rw [← hd1] at hi1
    obtain ⟨W3, gW3⟩ : ∃ W3, W3 = w := ⟨_, rfl⟩
    rw [show (Hid (d1.ok w p ∧ Upd (· ∈ d.foot p) w w ∧ Grew w (d.foot p) (d1.foot p))) = (Hid (d1.ok W3 p ∧ Upd (· ∈ d.foot p) w W3 ∧ Grew w (d.foot p) (d1.foot p))) by rw [gW3]] at HOP
    clear hd1 gce hlen1
    go_enter Tryz.func73, Tryz.ntmps73
    go_wp2_with fail
    refine k1.out.mono ?_
    rintro r w1 ⟨rfl, h⟩
    subst w1
    go_wp2_with fail
    refine k2.out.mono ?_
    rintro r w1 ⟨rfl, h⟩
    subst w1
    go_wp2_with fail
    clear c0 c1 c2 c3
    rw [← gW3]
    clear gW3
    -- the tail: the last epoch, and what is written
    obtain ⟨hok1, hU1, hG1⟩ := HOP.out
    have hpos : init.length < d1.eps.length := by rw [hi1]; simp
    have hfs := foot_split d1 p init e hi1
    have hnd1 := hok1.nodup
    rw [hfs] at hnd1
    have hndA := List.nodup_append.1 hnd1
    have heok : e.ok W3 d1.n := hok1.eps e (by rw [hi1]; simp)
    obtain ⟨ae2, ce2, hev, hev1, hev2⟩ := own_shape heok.row
    have habl : ab.block < w.heap.size := by
      obtain ⟨b, o, e0, hlt, _⟩ := HR.out.2 (by omega)
      rw [Option.some.inj e0]; exact hlt
    have hab1 : ab.block ∉ d1.foot p := fun hx => by
      rcases hG1 _ hx with h | h
      · exact HA.out h
      · omega
    have habe : ab.block ∉ e.foot := fun hx => hab1 (by rw [hfs]; exact List.mem_append.2 (.inr hx))
    have hs3 : Src W3 (some ab) 128 bs := hU1.src HR.out (fun b o e0 => by have := Option.some.inj e0; subst this; exact HA.out)
    have hrow3 := hok1.row
    rw [hve1, hi1] at hrow3
    have hvbe : vb d1.ve = [ge] := by simp [hve1, vb, Value.ownBlock]
    have hpge : p ≠ ge := by
      have := hndA.1
      simp only [hvbe, List.nodup_cons, List.mem_cons, List.singleton_append, not_or] at this
      exact this.1.2.2.1
    have hpe : p ∉ e.foot := fun hx => hndA.2.2 p (by simp) p hx rfl
    have hgee : ge ∉ e.foot := fun hx => hndA.2.2 ge (by simp [hvbe]) ge hx rfl
    have hgwe : d1.gw ∉ e.foot := fun hx => hndA.2.2 d1.gw (by simp) d1.gw hx rfl
    have hgwge : d1.gw ≠ ge := by
      have := hndA.1
      simp only [hvbe, List.nodup_cons, List.mem_cons, List.singleton_append, not_or] at this
      exact this.2.2.1.1
    obtain ⟨t0, t1, t2, t3⟩ := hok1.cell
    rw [hve1] at t2
    have hl3 : (List.map Ep.v (init ++ [e])).length = init.length + 1 := by simp
    have hlen3 : (init ++ [e]).length = init.length + 1 := by simp
    rw [hlen3] at hrow3
    have tl : W3.cell? ⟨ge, init.length, none⟩ = some (.slice ae2 e.es.length ce2) := by
      rw [hrow3.cellAt _ (by omega), ← hev]; simp
    have fl : W3.frozen? ⟨ge, init.length, none⟩ = false := hrow3.frozenAt _
    obtain ⟨cw, hcw, hcw1, hcw2, hcw3, hcw4⟩ := own_heap hok1.wr
    have hplt : p < W3.heap.size := hok1.lt p (by simp [Dk.foot])
    have hgelt : ge < W3.heap.size := hok1.lt ge (by rw [hfs]; simp [hvbe])
    have hgwlt : d1.gw < W3.heap.size := hok1.lt d1.gw (by simp [Dk.foot])
    have kp := hid (dput_any e d1.n i ab cb bs W3.drew (heok.frame fun _ _ => rfl) hndA.2.1 hok1.n2 (by rw [hn1]; exact hi) ⟨hs3.1, hs3.2⟩ habe)
    rw [hev] at kp
    have HOK := hid hok1
    have HU1 := hid hU1
    have HG1 := hid hG1
    have HS3 := hid hs3
    have HROW := hid hrow3
    have HCW := hid hcw
    have hi2 := hid hi1
    have hve2 := hid hve1
    have hev3 := hid hev
    have hfin : ∀ (w5 : World) (e' : Ep), e'.ok w5 d1.n → Upd (· ∈ e.foot) W3.drew w5 → (∀ x ∈ e'.foot, x ∈ e.foot ∨ W3.drew.heap.size ≤ x) → e'.foot.Nodup → e'.ab = putE i bs e.ab →
        ∃ R : List Value, (Builtin.copy_ #[29, 29] 3 #[.slice (some ⟨d1.gw, i * 128, none⟩) 128 128, .slice (some ab) 128 cb]).run Tryz.prog (w5.setCell ⟨ge, init.length, none⟩ e'.v) = .ok (goInt 128) ((w5.setCell ⟨ge, init.length, none⟩ e'.v).setRow d1.gw R.toArray) ∧
          Wrote w d p i bs (.returned (.int .i64 0)) ((w5.setCell ⟨ge, init.length, none⟩ e'.v).setRow d1.gw R.toArray) := by
      intro w5 e' he' hU5 hf5 hnd5 hab5
      have hU5' : Upd (· ∈ e.foot) W3 w5 := ⟨hU5.os, hU5.tape, hU5.output, hU5.size, hU5.block⟩
      have hrow5 := (hU5'.own HROW.out (fun k hk => by simp [Value.ownBlock] at hk; subst hk; exact hgee)).stored init.length e'.v
      have hcw5 := hU5'.heap HCW.out hgwe
      have hcw6 : (w5.setCell ⟨ge, init.length, none⟩ e'.v).heap[d1.gw]? = some (.cells cw.toArray 5 (0, 0)) := by rw [heap_setCell_other _ _ _ _ hgwge]; exact hcw5
      have hbl := HS3.out.1
      have hs6 : Src (w5.setCell ⟨ge, init.length, none⟩ e'.v) (some ab) 128 bs := by
        have hU6 : Upd (· ∈ ge :: e.foot) W3 (w5.setCell ⟨ge, init.length, none⟩ e'.v) := (hU5'.mono (fun x _ hx => by simp [hx])).trans (Upd.setCell (F := (· = ge)) w5 ⟨ge, init.length, none⟩ e'.v rfl) (fun x _ hx => by simp [hx])
        refine hU6.src HS3.out (fun b o e0 => ?_)
        have := Option.some.inj e0
        subst this
        intro hx
        rcases List.mem_cons.1 hx with h | h
        · exact hab1 (by rw [hfs]; simp [hvbe, h])
        · exact habe h
      have hin : (i + 1) * 128 ≤ d1.n * 128 := Nat.mul_le_mul_right _ (by omega)
      refine ⟨splice cw (i * 128) (bs.map (Value.int .u8)), ?_, ?_⟩
      · have crun := run_copy_row2 (P := Tryz.prog) _ 29 29 3 5 1 d1.gw (i * 128) 128 128 ab 128 cb 128 cw.toArray 5 (bs.map (Value.int .u8)) Tryz.underlying29 Tryz.psz5 hcw6 (by decide) (by simp [hbl]) (src_cells hs6) (by simp [hbl]; omega) (u8_one bs)
        rw [crun]
        simp [splice]
      · have hU4 : Upd (fun x => x = ge ∨ x = d1.gw) w5 ((w5.setCell ⟨ge, init.length, none⟩ e'.v).setRow d1.gw (splice cw (i * 128) (bs.map (Value.int .u8))).toArray) := (Upd.setCell (F := fun x => x = ge ∨ x = d1.gw) w5 ⟨ge, init.length, none⟩ e'.v (.inl rfl)).trans (Upd.setRow (F := fun x => x = ge ∨ x = d1.gw) _ d1.gw _ (.inr rfl)) (fun x _ h => h)
        have hrow7 := (Upd.setRow (F := (· = d1.gw)) (w5.setCell ⟨ge, init.length, none⟩ e'.v) d1.gw (splice cw (i * 128) (bs.map (Value.int .u8))).toArray rfl).own hrow5.1 (fun k hk => by simp [Value.ownBlock] at hk; subst hk; exact fun h => hgwge h.symm)
        rw [show (List.map Ep.v (init ++ [e])).set init.length e'.v = init.map Ep.v ++ [e'.v] by simp] at hrow7
        have hcl : cw.length = d1.cw := by omega
        have hsl : (splice cw (i * 128) (bs.map (Value.int .u8))).length = cw.length := length_splice _ _ _ (by simp [hbl]; omega)
        have hwl := HOK.out.wr.1
        have hw7 : ((w5.setCell ⟨ge, init.length, none⟩ e'.v).setRow d1.gw (splice cw (i * 128) (bs.map (Value.int .u8))).toArray).ownsRow 0 5 1 (.slice (some ⟨d1.gw, 0, none⟩) (d1.n * 128) d1.cw) (d1.n * 128) ((splice d1.wr (i * 128) bs).map (Value.int .u8)) := by
          refine ⟨?_, .inr ⟨d1.gw, d1.cw, (splice cw (i * 128) (bs.map (Value.int .u8))).toArray, rfl, Nat.zero_le _, setRow_heap _ _ _ _ _ _ hcw6, hcw1, hcw2, by simp [hsl, hcl], ?_⟩⟩
          · rw [splice_map, length_splice _ _ _ (by rw [hwl]; simp [hbl]; omega), hwl]
          · rw [splice_map, ← hcw4, List.toList_toArray, take_splice _ _ _ _ (by simp [hbl]; omega) (by omega)]
        obtain ⟨hA, hB, hC⟩ := HOK.out.wrote (w2 := w5) (i := i) (bs := bs) (ce := ce') hi2.out hve2.out he' hU5' hf5 hnd5 hU4 (by rw [hve2.out]; exact hrow7) hw7 hx1.2.2.2
        refine ⟨rfl, _, hA, hn1, hx1.1, hx1.2.1, by rw [show ({ d1 with eps := init ++ [e'], wr := splice d1.wr (i * 128) bs } : Dk).wr = splice d1.wr (i * 128) bs from rfl, hx1.2.2.1], hab1e e' hab5, hx1.2.2.2, HU1.out.comp hB HG1.out, HG1.out.comp HU1.out.size hC⟩
    have HFIN := hid hfin
    clear hfin
    have hcap : d1.n * 128 ≤ d1.cw := hcw1
    have hcap2 : d1.cw ≤ 9223372036854775807 := by unfold maxLen at hcw2; omega
    have hid1 : i < d1.n := by omega
    clear hn1 hx1 hab1e hok1 hU1 hG1 hs3 hrow3 hcw hi1 hve1 hev heok hnd1 hndA hfs hcw4 t0 t3 hl3 hlen3
    have b1 : (0 : Int) ≤ (init.length : Int) := by omega
    have b2 : (init.length : Int) < (init.length : Int) + 1 := by omega
    go_region_with (first | (go_at_call 90; refine kp.out.mono ?_; rintro r w5 ⟨e', rfl, he5, hab5, hU5, hf5, hnd5, _⟩; have u2 : w5.cell? ⟨p, 2, none⟩ = some (.slice (some ⟨ge, 0, none⟩) (init.length + 1) ce') := (World.cell?_of_block (w := W3) (a := ⟨p, 2, none⟩) (hU5.block p hplt hpe)).trans t2; have ul : w5.cell? ⟨ge, init.length, none⟩ = some (.slice ae2 e.es.length ce2) := (World.cell?_of_block (w := W3) (a := ⟨ge, init.length, none⟩) (hU5.block ge hgelt hgee)).trans tl; have fl5 : w5.frozen? ⟨ge, init.length, none⟩ = false := (World.frozen?_of_block (w := W3) (a := ⟨ge, init.length, none⟩) (hU5.block ge hgelt hgee)).trans fl; have u1 : w5.cell? ⟨p, 1, none⟩ = some (.slice (some ⟨d1.gw, 0, none⟩) (d1.n * 128) d1.cw) := (World.cell?_of_block (w := W3) (a := ⟨p, 1, none⟩) (hU5.block p hplt hpe)).trans t1; obtain ⟨ae5, ce5, hv5, _, _⟩ := own_shape he5.row; have HF5 := hid (HFIN.out w5 e' he5 hU5 hf5 hnd5 hab5); clear he5 hab5 hU5 hf5 hnd5))
    all_goals
      obtain ⟨R, hrun, hwr⟩ := HF5.out
      rw [hv5] at hrun hwr
      have v1 : (w5.setCell ⟨ge, init.length, none⟩ (.slice ae5 e'.es.length ce5)).cell? ⟨p, 1, none⟩ = some (.slice (some ⟨d1.gw, 0, none⟩) (d1.n * 128) d1.cw) := (cell_setCell_block _ _ _ _ _ hpge).trans u1
      have HWR := hid hwr
      clear hwr HF5
      obtain ⟨W6, gW6⟩ : ∃ W6, W6 = w5.setCell ⟨ge, init.length, none⟩ (.slice ae5 e'.es.length ce5) := ⟨_, rfl⟩
      rw [← gW6] at hrun HWR v1 ⊢
      clear gW6 u1 u2 ul fl5 t1 t2 tl fl kp
      go_wp2_with fail
      refine (sector_any d1.gw d1.n i d1.cw _ hid1 HOK.out.n2 hcap hcap2).mono ?_
      rintro r w6 ⟨rfl, h⟩
      subst w6
      go_wp2_with fail
      go_ret
      exact HWR.out

end Go.Proofs.YtkmnhpnlkmiiiaaGreatDoor
