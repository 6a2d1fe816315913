/- The corpus and what it stands on, merged. -/
import Derived.Test.YtbgommpdmnbplaaGreatDoorCoA15
import Derived.Test.YtbgommpdmnbplaaGreatDoorCoA16

/- What Compact does. -/
namespace Go.Proofs.YtbgommpdmnbplaaGreatDoor
open Go.RowKit Num Jr
set_option linter.unusedVariables false
set_option maxRecDepth 20000

theorem jsize8 : (Tryz.prog.info? 138).map (·.size) = some 8 := by kernel_rfl

/-- A journal in a box of its own. -/
structure Jbox (w wx : World) (q : Nat) (cs : List Value) : Prop where
  box : wx.heap[q]? = some (.cells cs.toArray 138 (0, 0))
  new : w.heap.size ≤ q
  bel : Below w.heap.size w wx
theorem jbox_new {w w3 : World} (hb : Below w.heap.size w w3) (cs : List Value) : Jbox w (w3.alloc (.cells cs.toArray 138)) w3.heap.size cs := ⟨heap_alloc_new _ _, hb.size, hb.alloc hb.size _⟩
theorem jbox_old8 {w w3 : World} {q : Nat} {a b c d e f g h : Value} (hb : Below w.heap.size w w3) (hq : w3.heap[q]? = some (.cells ([.pointer none, .int .i64 0, .int .i64 0, .int .i64 0, .int .i64 0, .int .i64 0, .slice none 0 0, .int .i64 0] : List Value).toArray 138 (0, 0))) (hn : w.heap.size ≤ q) :
    Jbox w ((((((((w3.setCell ⟨q, 0, none⟩ a).setCell ⟨q, 1, none⟩ b).setCell ⟨q, 2, none⟩ c).setCell ⟨q, 3, none⟩ d).setCell ⟨q, 4, none⟩ e).setCell ⟨q, 5, none⟩ f).setCell ⟨q, 6, none⟩ g).setCell ⟨q, 7, none⟩ h) q [a, b, c, d, e, f, g, h] := by
  refine ⟨?_, hn, hb.trans ((upd_setCells q [a, b, c, d, e, f, g, h] 0 w3).below hb.size (by intro x hx; omega))⟩
  have := heap_setCells q 138 [a, b, c, d, e, f, g, h] 0 w3 _ hq (by simp)
  simp only [splice, List.take_zero, List.nil_append, List.length_cons, List.length_nil, Nat.zero_add, List.drop_succ_cons, List.drop_zero, List.append_nil] at this
  exact this

/-- What Compact leaves. -/
def CptP (d : Dk) (w : World) (jp p n : Nat) (S : Nat → List Int) (gen groups used : Nat) (done waits : List (List Int)) (wv : Value) (L : List (List Int)) (e : Ending) (w' : World) : Prop :=
  ∃ (code : Nat), e = .returned (.int .i64 code) ∧ Upd (· ∈ Jf d p jp wv) w w' ∧
    ((code = 0 ∧ waits = [] ∧ (∀ r ∈ L, RecOk r) ∧ gen < 2147483648 ∧ needN (loadOf L).length ≤ szOf n ∧ ∃ (d' : Dk) (groups' used' : Nat), Js d' w' jp p n (upS (beginS n gen S (needN (loadOf L).length) (loadOf L)) ((gen + 1) % 2) (headB (gen + 1))) (gen + 1) groups' used' L [] (.slice none 0 0) ∧ Grew' w (Jf d p jp wv) (Jf d' p jp (.slice none 0 0))) ∨
     (code ≠ 0 ∧ Js d w' jp p n S gen groups used done waits wv ∧ (waits ≠ [] → code = 3)))

set_option maxHeartbeats 4000000 in
theorem compact_any (d : Dk) (jp p n gen groups used : Nat) (S : Nat → List Int) (done waits : List (List Int)) (wv : Value) (al : Option Addr) (nl cl : Nat) (L : List (List Int)) (w : World) (h : Js d w jp p n S gen groups used done waits wv) (hT : Tab w) (hTf : 1 ∉ Jf d p jp wv) (hi : Img w al L) (hn : L.length = nl) (hc : nl ≤ cl) (hc2 : cl ≤ 9223372036854775807) (hB : ∀ l ∈ L, Bytes l) (hn4 : 4 ≤ n) :
    Calls Tryz.prog 162 #[.pointer (some ⟨jp, 0, none⟩), .slice al nl cl] w (CptP d w jp p n S gen groups used done waits wv L) := by
  have hn2 : n ≤ 2048 := by rw [← h.jd.dn]; exact h.jd.ok.n2
  have hsz : szOf n ≤ 1024 := by unfold szOf; omega
  have hg2 := h.ji.g2
  have hjl : jp < w.heap.size := (Array.getElem?_eq_some_iff.1 h.jc).1
  have kU := hid (jusable jp p _ _ _ _ _ _ _ w h.jc)
  have kR := hid (refused_any al nl cl L w hi hn hc hc2)
  have HRC := hid (fun hc : refC L = 0 => refC_zero hc)
  obtain ⟨C, gC⟩ : ∃ C, C = refC L := ⟨_, rfl⟩
  rw [← gC] at kR HRC
  obtain ⟨m, gm⟩ : ∃ m, m = waits.length := ⟨_, rfl⟩
  have hjc := h.jc
  rw [← gm] at hjc
  have c7 : w.cell? ⟨jp, 7, none⟩ = some (.int .i64 m) := heap_cells hjc 7 _ rfl
  have HH := hid h
  have GM := hid gm
  have HTF := hid hTf
  have HT := hid hT
  by_cases hm : m = 0
  · by_cases hC : C = 0
    · have hw0 : waits = [] := List.eq_nil_of_length_eq_zero (by rw [← gm]; exact hm)
      have hok : ∀ r ∈ L, RecOk r := fun r hr => ⟨(HRC.out hC r hr).1, (HRC.out hC r hr).2, hB r hr⟩
      have kJ := hid (joined_any al nl cl (szOf n * 100) L w hi hn hc hc2 hok (by omega))
      have c0 : w.cell? ⟨jp, 0, none⟩ = some (.pointer (some ⟨p, 0, none⟩)) := heap_cells hjc 0 _ rfl
      have c1 : w.cell? ⟨jp, 1, none⟩ = some (.int .i64 gen) := heap_cells hjc 1 _ rfl
      have c2 : w.cell? ⟨jp, 2, none⟩ = some (.int .i64 (firstOf gen n : Nat)) := heap_cells hjc 2 _ rfl
      have c3 : w.cell? ⟨jp, 3, none⟩ = some (.int .i64 (szOf n : Nat)) := heap_cells hjc 3 _ rfl
      have kN := hid (fun wx => next_any gen n wx hg2 hn2)
      have HW0 := hid hw0
      have HOK := hid hok
      obtain ⟨first, gfirst⟩ : ∃ first, first = firstOf gen n := ⟨_, rfl⟩
      obtain ⟨size, gsize⟩ : ∃ size, size = szOf n := ⟨_, rfl⟩
      obtain ⟨first2, gfirst2⟩ : ∃ first2, first2 = firstOf (gen + 1) n := ⟨_, rfl⟩
      rw [← gfirst] at c2 kN
      rw [← gsize] at c3 kN kJ hsz
      rw [← gfirst2] at kN
      have eg : ((gen + 1 : Nat) : Int) = (gen : Int) + 1 := by omega
      rw [eg] at kN
      have GF := hid gfirst
      have GF2 := hid gfirst2
      have GS := hid gsize
      have esz : ((size * 100 : Nat) : Int) = (size : Int) * 100 := by omega
      rw [esz] at kJ
      subst hm
      subst hC
      clear h hT hTf hi hB hjc gm gC hw0 hok gfirst gfirst2 gsize eg esz
      go_enter Tryz.func162, Tryz.ntmps162
      go_upto_region 9 with (first | (go_at_call 200; refine kU.out.mono ?_; rintro r w1 ⟨rfl, h⟩; subst w1) | (go_at_call 201; refine kR.out.mono ?_; rintro r w1 ⟨rfl, h⟩; subst w1) | (go_at_call 205; refine kJ.out.mono ?_; rintro r w5 h5; have H5 := hid h5; clear h5; rcases H5.out with ⟨hfit, v5, rfl, ho5, hb5⟩ | ⟨hbig, rfl, hb5⟩))
      · have HO5 := hid ho5
        have HB5 := hid hb5
        have hJ5 : Js d w5 jp p n S gen groups used done waits wv := HH.out.below hb5
        have HJ5 := hid hJ5
        have e0 : w5.cell? ⟨jp, 0, none⟩ = some (.pointer (some ⟨p, 0, none⟩)) := (hb5.cell (p := ⟨jp, 0, none⟩) hjl).trans c0
        have e1 : w5.cell? ⟨jp, 1, none⟩ = some (.int .i64 gen) := (hb5.cell (p := ⟨jp, 1, none⟩) hjl).trans c1
        have e2 : w5.cell? ⟨jp, 2, none⟩ = some (.int .i64 first) := (hb5.cell (p := ⟨jp, 2, none⟩) hjl).trans c2
        have e3 : w5.cell? ⟨jp, 3, none⟩ = some (.int .i64 size) := (hb5.cell (p := ⟨jp, 3, none⟩) hjl).trans c3
        have hj5 : jp < w5.heap.size := Nat.lt_of_lt_of_le hjl hb5.size
        clear ho5 hb5 H5 hJ5 c0 c1 c2 c3 c7 kU kR kJ
        by_cases hgl : gen = 2147483648
        · subst hgl
          go_wp2_with fail
          go_ret
          exact ⟨4, rfl, Upd.of_below HB5.out, .inr ⟨by omega, HJ5.out, fun h => absurd HW0.out h⟩⟩
        · have hglv : ¬ (gen : Int) = 2147483648 := by omega
          have HD5 : Hid (Below w5.heap.size w5 w5.drew) := hid (below_drewN (Below.refl _ _) 1)
          have HDA : Hid (∀ ob, Below w5.heap.size w5 (w5.alloc ob).drew) := hid (fun ob => below_drewN ((Below.refl _ _).alloc (Nat.le_refl _) _) 1)
          go_upto_region 11 with fail
          go_cut [8] (fun v8 wx => ∃ mj, v8 = .pointer (some ⟨mj, 0, none⟩) ∧ Hid (Jbox w5 wx mj [.pointer (some ⟨p, 0, none⟩), .int .i64 ((gen : Int) + 1), .int .i64 first2, .int .i64 size, .int .i64 0, .int .i64 0, .slice none 0 0, .int .i64 0]))
          case first =>
            go_region_with (first | (go_at_call 206; refine (kN.out _).mono ?_; rintro r w3 ⟨rfl, hb3⟩; have HB3 : Hid (Below w5.heap.size w5 w3) := (by first | exact hid (HD5.out.trans hb3) | exact hid ((HDA.out _).trans (hb3.mono (by simp)))); have x0 : w3.cell? ⟨jp, 0, none⟩ = some (.pointer (some ⟨p, 0, none⟩)) := (HB3.out.cell (p := ⟨jp, 0, none⟩) hj5).trans e0; have hj3 : jp < w3.heap.size := Nat.lt_of_lt_of_le hj5 HB3.out.size; first | (have hx3 : w3.heap[w5.heap.size]? = some (.cells ([.pointer none, .int .i64 0, .int .i64 0, .int .i64 0, .int .i64 0, .int .i64 0, .slice none 0 0, .int .i64 0] : List Value).toArray 138 (0, 0)) := (hb3.block w5.heap.size (by simp)).trans (heap_alloc_new w5 _); have z0 : w3.cell? ⟨w5.heap.size, 0, none⟩ = some (.pointer none) := heap_cells hx3 0 _ rfl; have y0 : w3.frozen? ⟨w5.heap.size, 0, none⟩ = false := frozen_of_row w3 w5.heap.size 0 _ _ hx3; have z1 : w3.cell? ⟨w5.heap.size, 1, none⟩ = some (.int .i64 0) := heap_cells hx3 1 _ rfl; have y1 : w3.frozen? ⟨w5.heap.size, 1, none⟩ = false := frozen_of_row w3 w5.heap.size 1 _ _ hx3; have z2 : w3.cell? ⟨w5.heap.size, 2, none⟩ = some (.int .i64 0) := heap_cells hx3 2 _ rfl; have y2 : w3.frozen? ⟨w5.heap.size, 2, none⟩ = false := frozen_of_row w3 w5.heap.size 2 _ _ hx3; have z3 : w3.cell? ⟨w5.heap.size, 3, none⟩ = some (.int .i64 0) := heap_cells hx3 3 _ rfl; have y3 : w3.frozen? ⟨w5.heap.size, 3, none⟩ = false := frozen_of_row w3 w5.heap.size 3 _ _ hx3; have z4 : w3.cell? ⟨w5.heap.size, 4, none⟩ = some (.int .i64 0) := heap_cells hx3 4 _ rfl; have y4 : w3.frozen? ⟨w5.heap.size, 4, none⟩ = false := frozen_of_row w3 w5.heap.size 4 _ _ hx3; have z5 : w3.cell? ⟨w5.heap.size, 5, none⟩ = some (.int .i64 0) := heap_cells hx3 5 _ rfl; have y5 : w3.frozen? ⟨w5.heap.size, 5, none⟩ = false := frozen_of_row w3 w5.heap.size 5 _ _ hx3; have z6 : w3.cell? ⟨w5.heap.size, 6, none⟩ = some (.slice none 0 0) := heap_cells hx3 6 _ rfl; have y6 : w3.frozen? ⟨w5.heap.size, 6, none⟩ = false := frozen_of_row w3 w5.heap.size 6 _ _ hx3; have z7 : w3.cell? ⟨w5.heap.size, 7, none⟩ = some (.int .i64 0) := heap_cells hx3 7 _ rfl; have y7 : w3.frozen? ⟨w5.heap.size, 7, none⟩ = false := frozen_of_row w3 w5.heap.size 7 _ _ hx3;  have HX3 := hid hx3; clear hx3 hb3) | (have HX3 : Hid True := hid trivial; clear hb3)))
            all_goals
              go_wp2_with fail
              go_meet
              case rel => exact ⟨_, rfl, hid (by first | with_reducible exact jbox_new HB3.out _ | with_reducible exact jbox_old8 HB3.out HX3.out (Nat.le_refl _))⟩
          case rest =>
            obtain ⟨mj, rfl, HX⟩ := hcut
            have eg : ((gen + 1 : Nat) : Int) = (gen : Int) + 1 := by omega
            have hjm : Jc wc mj p (gen + 1) (firstOf (gen + 1) n) (szOf n) 0 0 (.slice none 0 0) 0 := by
              unfold Jc
              rw [← GF2.out, ← GS.out, eg]
              exact HX.out.box
            have hbc : Below w.heap.size w wc := HB5.out.trans (HX.out.bel.mono HB5.out.size)
            have hJc : Js d wc jp p n S gen groups used done waits wv := HJ5.out.below HX.out.bel
            have hTl : 1 < w.heap.size := World.block_lt_of_cell? _ _ (HT.out 0 (by omega))
            have hwm : w.heap.size ≤ mj := Nat.le_trans HB5.out.size HX.out.new
            have hTd : 1 ∉ d.foot p := fun hx => HTF.out (by simp [Jf, hx])
            have hmf : mj ∉ d.foot p := fun hx => by have := HH.out.jd.ok.lt mj hx; omega
            have hvc := own_below HO5.out HX.out.bel
            have hnl : needN (loadOf L).length ≤ szOf n := by rw [← GS.out]; exact needN_le _ _ (by omega)
            have kb := hid (begin_any d mj p n gen (loadOf L).length S v5 (loadOf L) wc hjm hJc.jd hJc.rest hmf (HT.out.below hbc hTl) (by omega) hTd (own_base hvc (Nat.zero_le _)) (fun k hk => by
              have h1 := HO5.out.lt k hk
              have h2 := HX.out.new
              exact ⟨fun hx => by have := HH.out.jd.ok.lt k hx; omega, by omega⟩) (bytes_loadOf HOK.out) hnl (by omega) hn4)
            have HJc := hid hJc
            have HBC := hid hbc
            have HNL := hid hnl
            have hjmj : jp ≠ mj := by omega
            have hjc5 : jp < wc.heap.size := Nat.lt_of_lt_of_le hjl hbc.size
            clear hjm hbc hJc hTd hmf hvc hnl kN e0 e1 e2 e3 eg
            go_upto_region 13 with (first | (go_at_call 207; refine kb.out.mono ?_; rintro r w9 h9; have H9 := hid h9; clear h9; obtain ⟨e9, d9, hm9, hj9⟩ := H9.out; subst e9))
            have hjp9 : Jc w9 jp p gen (firstOf gen n) (szOf n) groups used wv waits.length := hm9.upd.heap HJc.out.jc (fun h => by
              rcases h with h | h
              · exact hjmj h
              · exact HJc.out.jf h)
            obtain ⟨gg, ggg⟩ : ∃ gg, gg = if loadOf L = [] then 0 else 1 := ⟨_, rfl⟩
            rw [← ggg] at hj9
            have m0 : w9.cell? ⟨mj, 0, none⟩ = some (.pointer (some ⟨p, 0, none⟩)) := heap_cells hj9 0 _ rfl
            have m1 : w9.cell? ⟨mj, 1, none⟩ = some (.int .i64 ((gen + 1 : Nat) : Int)) := heap_cells hj9 1 _ rfl
            have m2 : w9.cell? ⟨mj, 2, none⟩ = some (.int .i64 (firstOf (gen + 1) n : Nat)) := heap_cells hj9 2 _ rfl
            have m3 : w9.cell? ⟨mj, 3, none⟩ = some (.int .i64 (szOf n : Nat)) := heap_cells hj9 3 _ rfl
            have m4 : w9.cell? ⟨mj, 4, none⟩ = some (.int .i64 gg) := heap_cells hj9 4 _ rfl
            have m5 : w9.cell? ⟨mj, 5, none⟩ = some (.int .i64 (needN (loadOf L).length : Nat)) := heap_cells hj9 5 _ rfl
            have m6 : w9.cell? ⟨mj, 6, none⟩ = some (.slice none 0 0) := heap_cells hj9 6 _ rfl
            have m7 : w9.cell? ⟨mj, 7, none⟩ = some (.int .i64 0) := heap_cells hj9 7 _ rfl
            obtain ⟨G1, gG1⟩ : ∃ G1, G1 = gen + 1 := ⟨_, rfl⟩
            obtain ⟨NN, gNN⟩ : ∃ NN, NN = needN (loadOf L).length := ⟨_, rfl⟩
            rw [← gG1] at m1
            rw [← GF2.out] at m2
            rw [← GS.out] at m3
            rw [← gNN] at m5
            have HTH := hid (there_of_block (C := [.pointer (some ⟨p, 0, none⟩), .int .i64 gen, .int .i64 (firstOf gen n : Nat), .int .i64 (szOf n : Nat), .int .i64 groups, .int .i64 used, wv, .int .i64 (waits.length : Nat)]) hjp9 0 8 (by simp))
            obtain ⟨W10, g10⟩ : ∃ W10, w9.setCells jp 0 [.pointer (some ⟨p, 0, none⟩), .int .i64 G1, .int .i64 first2, .int .i64 size, .int .i64 gg, .int .i64 NN, .slice none 0 0, .int .i64 0] = W10 := ⟨_, rfl⟩
            have hj10 : Jc W10 jp p G1 first2 size gg NN (.slice none 0 0) 0 := by
              unfold Jc
              rw [← g10, heap_setCells jp 138 _ 0 w9 _ hjp9 (by simp)]
              simp [splice]
            have hU10 : Upd (· = jp) w9 W10 := by rw [← g10]; exact upd_setCells jp _ 0 w9
            have hjf9 : jp ∉ d9.foot p := fun hx => by
              rcases hm9.grew jp hx with h | h
              · exact HJc.out.jf h
              · omega
            have hfin : CptP d w jp p n S gen groups used done waits wv L (.returned (.int .i64 0)) W10 := by
              have hUw : Upd (· ∈ Jf d p jp wv) w W10 := by
                have hcs := HBC.out.size
                refine ⟨hU10.os.trans (hm9.upd.os.trans HBC.out.os), hU10.tape.trans (hm9.upd.tape.trans HBC.out.tape), hU10.output.trans (hm9.upd.output.trans HBC.out.output), Nat.le_trans hcs (Nat.le_trans hm9.upd.size hU10.size), fun k hk hnk => ?_⟩
                have hkj : k ≠ jp := fun e => hnk (by simp [Jf, e])
                have hkd : k ∉ d.foot p := fun e => hnk (by simp [Jf, e])
                rw [hU10.block k (by have := hm9.upd.size; omega) hkj, hm9.upd.block k (by omega) (fun h => by
                  rcases h with h | h
                  · omega
                  · exact hkd h), HBC.out.block k hk]
              refine ⟨0, rfl, hUw, .inl ⟨rfl, HW0.out, HOK.out, by omega, HNL.out, d9, gg, NN, ?_, ?_⟩⟩
              · have hci := HH.out.ji.compact L HOK.out HNL.out (needN (loadOf L).length) (Nat.le_refl _) (by omega)
                rw [← ggg, ← gNN] at hci
                refine ⟨?_, hm9.rest, ?_, ?_, by simpa [loadOf] using World.ownsRow_nil _ _ _ _, fun r hr => by simp at hr, Nat.zero_le _, hjf9, fun k hk => by simp [Value.ownBlock] at hk⟩
                · exact hm9.jd.upd hU10 (fun k hk e => hjf9 (e ▸ hk))
                · rw [← gG1, ← GS.out]
                  rw [show firstOf G1 n = first2 by rw [gG1, GF2.out]]
                  exact hj10
                · rw [← gNN]; exact hci
              · intro x hx
                simp only [Jf, List.mem_cons, List.mem_append] at hx ⊢
                rcases hx with h | h | h
                · exact .inl (.inl h)
                · simp [vb, Value.ownBlock] at h
                · rcases hm9.grew x h with h' | h'
                  · exact .inl (.inr (.inr h'))
                  · exact .inr (Nat.le_trans HBC.out.size h')
            have HFIN := hid hfin
            have G10 := hid g10
            clear hfin hjp9 hj9 hm9 H9 hj10 hU10 g10 gG1 gNN ggg hjf9
            go_wp2_with (refine jstore_as rfl 138 (.tmp 62) (.tmp 61) rfl jp 0 #[.pointer (some ⟨p, 0, none⟩), .int .i64 G1, .int .i64 first2, .int .i64 size, .int .i64 gg, .int .i64 NN, .slice none 0 0, .int .i64 0] rfl rfl HTH.out jsize8 (by simp [Value.oneCell']) W10 G10.out ?_)
            go_ret
            exact HFIN.out
      · have HB5 := hid hb5
        clear hb5 H5
        go_wp2_with fail
        go_ret
        exact ⟨4, rfl, Upd.of_below HB5.out, .inr ⟨by omega, HH.out.below HB5.out, fun h => absurd HW0.out h⟩⟩
    · have hCv : ¬ (C : Int) = 0 := by omega
      have hw0 : waits = [] := List.eq_nil_of_length_eq_zero (by rw [← gm]; exact hm)
      have HW0 := hid hw0
      subst hm
      clear h hT hTf hi hB hjc gm gC hw0
      go_enter Tryz.func162, Tryz.ntmps162
      go_wp2_with (first | (go_at_call 200; refine kU.out.mono ?_; rintro r w1 ⟨rfl, h⟩; subst w1) | (go_at_call 201; refine kR.out.mono ?_; rintro r w1 ⟨rfl, h⟩; subst w1))
      go_ret
      exact ⟨C, rfl, Upd.refl _ _, .inr ⟨hC, HH.out, fun h => absurd HW0.out h⟩⟩
  · have hmv : (0 : Int) < (m : Int) := by omega
    clear h hT hTf hi hB hjc gm gC
    go_enter Tryz.func162, Tryz.ntmps162
    go_wp2_with (first | (go_at_call 200; refine kU.out.mono ?_; rintro r w1 ⟨rfl, h⟩; subst w1))
    go_ret
    exact ⟨3, rfl, Upd.refl _ _, .inr ⟨by omega, HH.out, fun _ => rfl⟩⟩

end Go.Proofs.YtbgommpdmnbplaaGreatDoor
