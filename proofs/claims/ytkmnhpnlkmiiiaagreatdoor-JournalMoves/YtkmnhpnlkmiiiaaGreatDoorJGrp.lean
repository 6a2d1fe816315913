/- What journal's readGroups does. -/
import Derived.Test.YtkmnhpnlkmiiiaaGreatDoorJLoad
namespace Go.Proofs.YtkmnhpnlkmiiiaaGreatDoor
open Go.RowKit Num Jr
set_option linter.unusedVariables false
set_option maxRecDepth 20000

namespace Jr
theorem recsGo_len (f : Nat) : ∀ (zs : List Int) (acc : List (List Int)), Bytes zs → (recsGo f zs acc).length ≤ acc.length + zs.length := by
  induction f with
  | zero => intro zs acc hz; simp [recsGo]
  | succ f ih =>
    intro zs acc hz
    rw [recsGo]
    by_cases h : zs = []
    · rw [if_pos h]; omega
    · rw [if_neg h]
      by_cases h1 : (txt zs 2000).2.2 ≠ 0 ∨ (txt zs 2000).1 = []
      · rw [if_pos h1]; simp
      · rw [if_neg h1]
        have h2 : (txt zs 2000).2.2 = 0 := by
          rcases Nat.eq_zero_or_pos (txt zs 2000).2.2 with h | h
          · exact h
          · exact absurd (Or.inl (by omega)) h1
        have h3 := txt_ok hz 2000 h2
        rw [show ((2000 : Nat) : Int) = 2000 by rfl] at h3
        have := ih (zs.drop (txt zs 2000).2.1) (acc ++ [(txt zs 2000).1]) (hz.drop _)
        rw [List.length_append, List.length_drop, List.length_singleton] at this
        omega
theorem recsOf_len {zs : List Int} (hz : Bytes zs) : (recsOf zs).length ≤ zs.length := by
  have := recsGo_len (zs.length + 1) zs [] hz
  simpa [recsOf] using this

theorem ldOf_bytes {zs : List Int} (hz : Bytes zs) : Bytes (ldOf zs) := (hz.drop _).take _
theorem loadGo_bytes (S : Nat → List Int) (first gen num : Nat) (hS : ∀ i, Bytes (S i)) : ∀ (k place : Nat) (acc : List Int), Bytes acc → Bytes (loadGo S first gen num k place acc)
  | 0, place, acc, _ => Bytes.nil
  | k + 1, place, acc, ha => by
    unfold loadGo
    split
    · split
      · exact ha.append (ldOf_bytes (hS _))
      · split
        · exact Bytes.nil
        · exact loadGo_bytes S first gen num hS k (place + 1) _ (ha.append (ldOf_bytes (hS _)))
    · exact Bytes.nil
end Jr

theorem Rec.one {w : World} {B : Nat} {g : Option Nat} {u : Value} {bs : List Int} (h : Rec w B g u bs) : u.oneCell' = true := by obtain ⟨b, c, rfl, _⟩ := h; rfl

theorem Jc.turn {w : World} {jp p gen first size groups used cnt : Nat} {wv : Value} (h : Jc w jp p gen first size groups used wv cnt) (g' u' : Nat) : Jc ((w.setCell ⟨jp, 4, none⟩ (.int .i64 g')).setCell ⟨jp, 5, none⟩ (.int .i64 u')) jp p gen first size g' u' wv cnt := by
  unfold Jc
  rw [heap_setCell_same _ jp 5 _ _ _ (heap_setCell_same w jp 4 _ _ _ h)]
  rfl

set_option maxHeartbeats 4000000 in
theorem readgroups_any (d : Dk) (jp p n gen first size cnt : Nat) (wv : Value) (S : Nat → List Int) (w : World) (hj : Jc w jp p gen first size 0 0 wv cnt) (J : Jd d w p n S) (hjf : jp ∉ d.foot p) (hT : Tab w) (hjT : 1 ≠ jp)
    (hfs : first + size ≤ n) (hg : gen ≤ 4294967296) :
    Calls Tryz.prog 68 #[.pointer (some ⟨jp, 0, none⟩)] w fun e w' => ∃ v, e = .returned (.tuple #[v, .nilIface]) ∧ Rcs w' w.heap.size v (grps S first gen size).1 ∧ Jc w' jp p gen first size (grps S first gen size).2.1 (grps S first gen size).2.2 wv cnt ∧ (grps S first gen size).2.2 ≤ size ∧ Upd (· = jp) w w' := by
  obtain ⟨i0, hi0, hz0, hz1, hz2⟩ := info_parts Tryz.infoTB
  have hn2 : n ≤ 2048 := by rw [← J.dn]; exact J.ok.n2
  have hjl : jp < w.heap.size := (Array.getElem?_eq_some_iff.1 hj).1
  obtain ⟨G, gG⟩ : ∃ G, G = grps S first gen size := ⟨_, rfl⟩
  rw [← gG]
  have GG := hid gG
  have HJ := hid J
  have HT := hid hT
  have HJC := hid hj
  have HJF := hid hjf
  have HJT := hid hjT
  clear gG J hT hj hjf hjT
  go_enter Tryz.func68, Tryz.ntmps68
  go_wp2_with fail
  go_loopw [4] (fun v wr => Hid (∃ (g u f : Nat) (acc : List (List Int)), Jc wr jp p gen first size g u wv cnt ∧ Rcs wr w.heap.size v acc ∧ Upd (· = jp) w wr ∧ u ≤ size ∧ g ≤ u ∧ size - u < f ∧ acc.length ≤ 100 * u ∧ grpsGo S first gen size f g u acc = G)) (fun v _ => 100 * size - slen v)
  case atStart => exact hid ⟨0, 0, size + 1, [], HJC.out, Rcs.nil _ _, Upd.refl _ _, by omega, Nat.le_refl _, by omega, by simp, GG.out.symm⟩
  case round =>
    obtain ⟨g, u, f, acc, hJc, hC, hU, hus, hgu, hf, hal, hG⟩ := hrel.out
    clear hrel
    obtain ⟨v, gv⟩ : ∃ v, v = u4 := ⟨_, rfl⟩
    rw [← gv] at hC ⊢
    clear gv
    have hJr : Jd d wr p n S := HJ.out.upd hU (fun k hk e => HJF.out (e ▸ hk))
    have hTr : Tab wr := HT.out.upd hU HJT.out
    have kl := hid (readload_any d jp p n gen first size g u cnt wv S wr hJc hJr hTr hfs hus hg (by omega))
    have hl0 := loadGo_len S first gen (g + 1) HJ.out.all (size - u) u []
    have hlb := loadGo_bytes S first gen (g + 1) HJ.out.byt (size - u) u [] Bytes.nil
    have hstep : G = if recsOf (loadGo S first gen (g + 1) (size - u) u []) = [] then (acc, g, u) else grpsGo S first gen size (f - 1) (g + 1) (u + needN (loadGo S first gen (g + 1) (size - u) u []).length) (acc ++ recsOf (loadGo S first gen (g + 1) (size - u) u [])) := by
      rw [← hG]
      cases f with
      | zero => omega
      | succ f => rw [grpsGo]; rfl
    obtain ⟨L, gL⟩ : ∃ L, L = loadGo S first gen (g + 1) (size - u) u [] := ⟨_, rfl⟩
    rw [← gL] at kl hl0 hlb hstep
    have hrl := recsOf_len hlb
    have hLl : L.length ≤ 100 * (size - u) := by
      by_cases h : L = []
      · rw [h]; simp
      · have := (hl0 h).2; simpa using this
    have hL0 : L = [] → recsOf L = [] := fun h => by rw [h]; exact recsOf_nil
    obtain ⟨nl, gnl⟩ : ∃ nl, nl = L.length := ⟨_, rfl⟩
    rw [← gnl] at kl hrl hLl hstep
    have hjlr : jp < wr.heap.size := Nat.lt_of_lt_of_le hjl hU.size
    have HJr := hid hJc
    have HCr := hid hC
    have HUr := hid hU
    have HST := hid hstep
    have HLB := hid hlb
    have HL0 := hid hL0
    have GNL := hid gnl
    clear hJc hC hU hG hJr hTr hl0 hlb hstep gL hL0 gnl
    have kr : Hid (∀ (a0 : Option Addr) (lc : Nat) (wx : World), Src wx a0 nl L → Calls Tryz.prog 88 #[.slice a0 nl lc] wx fun e w' => ∃ v, e = .returned v ∧ Rcs w' wx.heap.size v (recsOf L) ∧ Below wx.heap.size wx w') := hid (fun a0 lc wx hs => records_any a0 nl lc L wx hs HLB.out (by omega))
    go_upto_region 3 with (first | (go_at_call 87; refine kl.out.mono ?_; rintro r w2 ⟨v2, rfl, ho2, hb2⟩; have HO2 := hid ho2; have HB2 := hid hb2; clear ho2 hb2))
    obtain ⟨a2, c2, gv2, hc21, hc22⟩ := own_shape HO2.out
    subst gv2
    have hs2 : Src w2 a2 nl L := by
      rcases HO2.out.2 with ⟨h, h0⟩ | ⟨g2, c, cur, h, _⟩
      · rw [h0]
        have : L = [] := List.eq_nil_of_length_eq_zero (by rw [← GNL.out]; exact h0)
        rw [this]
        exact Src.nil _ _
      · injection h with h1 h2 h3
        subst h1
        exact Src.own HO2.out
    have HS2 := hid hs2
    clear hs2
    go_upto_region 6 with (first | (go_at_call 88; refine (kr.out _ _ _ HS2.out).mono ?_; rintro r w3 ⟨v3, rfl, hC3, hb3⟩; have HC3 := hid hC3; have HB3 := hid hb3; clear hC3 hb3))
    obtain ⟨us3, ho3, hj3⟩ := HC3.out
    obtain ⟨a3, c3, gv3, hc31, hc32⟩ := own_shape ho3
    subst gv3
    have hb23 : Below wr.heap.size wr w3 := HB2.out.trans (HB3.out.mono HB2.out.size)
    have hU3 : Upd (· = jp) w w3 := HUr.out.trans (Upd.of_below (F := (· = jp)) hb23) (fun _ _ h => h)
    have hJ3 : Jc w3 jp p gen first size g u wv cnt := (hb23.block jp hjlr).trans HJr.out
    have hCa : Rcs w3 w.heap.size v acc := HCr.out.below hb23
    have hwl : w.heap.size ≤ wr.heap.size := HUr.out.size
    have hw2 : wr.heap.size ≤ w2.heap.size := HB2.out.size
    have hw3 : w2.heap.size ≤ w3.heap.size := HB3.out.size
    obtain ⟨Rr, gRr⟩ : ∃ Rr, Rr = recsOf L := ⟨_, rfl⟩
    rw [← gRr] at ho3 hj3 hrl hc31 HST HL0
    have HO3 := hid ho3
    have HJ3 := hid hj3
    have HU3 := hid hU3
    have HJC3 := hid hJ3
    have HCA := hid hCa
    have HRr := hid gRr
    rw [← gRr]
    obtain ⟨nr, gnr⟩ : ∃ nr, nr = Rr.length := ⟨_, rfl⟩
    rw [← gnr] at hrl hc31 HO3
    rw [← gnr]
    have GNR := hid gnr
    have HCX := HCr
    clear ho3 hj3 hU3 hJ3 hCa hb23 gRr gnr kl kr HO2 HS2 HC3 HCr HJr
    by_cases h0 : nr = 0
    · have hR0 : Rr = [] := List.eq_nil_of_length_eq_zero (by rw [← GNR.out]; exact h0)
      have HF : Hid (G = (acc, g, u)) := hid (by rw [HST.out, if_pos hR0])
      subst h0
      clear hR0
      go_wp2_with fail
      go_ret2
      rw [HF.out]
      exact ⟨v, rfl, HCA.out, HJC3.out, hus, HU3.out⟩
    · have hRn : Rr ≠ [] := fun h => h0 (by rw [GNR.out, h]; rfl)
      have hLn : L ≠ [] := fun h => hRn (HL0.out h)
      have hnl : 1 ≤ nl := by rw [GNL.out]; exact List.length_pos_iff.2 hLn
      have HF : Hid (grpsGo S first gen size (f - 1) (g + 1) (u + needN nl) (acc ++ Rr) = G) := hid (by rw [HST.out, if_neg hRn])
      have h0v : ¬ (nr : Int) = 0 := by omega
      obtain ⟨g3, rfl⟩ : ∃ g3, a3 = some ⟨g3, 0, none⟩ := by
        rcases HO3.out.2 with ⟨_, h⟩ | ⟨g, c, cur, h, _⟩
        · exact absurd h h0
        · injection h with h1 h2 h3; exact ⟨g, h1⟩
      obtain ⟨us, huo, huj⟩ := HCA.out
      obtain ⟨av, cv, gv, _, _⟩ := own_shape huo
      subst gv
      have HUO := hid huo
      have HUJ := hid huj
      obtain ⟨m, gm⟩ : ∃ m, m = acc.length := ⟨_, rfl⟩
      rw [← gm] at HUO hal
      rw [← gm]
      have GM := hid gm
      have hus3 : us3.length = nr := by have := HO3.out.1; omega
      have hcell : ∀ j uu, us3[j]? = some uu → w3.cell? ((⟨g3, 0, none⟩ : Addr).add j) = some uu := fun j uu hj => by
        have hjl := (List.getElem?_eq_some_iff.1 hj).1
        rw [Addr.add_lit, Nat.zero_add, HO3.out.cellAt j (by omega)]; exact hj
      have hone : ∀ uu ∈ us3, uu.oneCell' = true := fun uu hu => by
        obtain ⟨j, hj, e⟩ := List.getElem_of_mem hu
        obtain ⟨u', h1, h2⟩ := HJ3.out j (by rw [← GNR.out]; omega)
        rw [List.getElem?_eq_getElem hj, e] at h1
        rw [Option.some.inj h1]
        exact h2.one
      have hneed : needN nl ≤ size - u ∧ 1 ≤ needN nl := by unfold needN; omega
      have hneed2 : nl ≤ 100 * needN nl := by unfold needN; omega
      have HCL := hid hcell
      have HON := hid hone
      clear huo huj gm hcell hone hRn hLn
      go_upto_region 9 with (at_builtin; go_must (refine wpList_append_where rfl _ _ 22 rfl 29 i0 _ 1 24 Tryz.underlying22 hi0 hz0 hz1 hz2 rfl (by decide) (.slice av m cv) m us rfl (own_base HUO.out (Nat.zero_le _)) ⟨g3, 0, none⟩ nr c3 us3 rfl (by rw [hus3, Nat.mul_one]) HCL.out HON.out (by unfold maxLen; omega) (by omega) ?_; intro v' w4 hO4 hU4 hN4 hW4))
      have hvl : ∀ x, (Value.slice av m cv).ownBlock = some x → w.heap.size ≤ x ∧ x < w2.heap.size := fun x hx => by
        have h1 := HUO.out.lt x hx
        obtain ⟨us', h2, _⟩ := HCX.out
        obtain ⟨a', c', e', _, _⟩ := own_shape h2
        have h3 := h2.lt x (by rw [show acc.length = m from GM.out.symm]; exact hx)
        exact ⟨h1.1, Nat.lt_of_lt_of_le h3.2 hw2⟩
      have hC4 : Rcs w4 w.heap.size v' (acc ++ Rr) := Rcs.app (L := acc) (L2 := Rr) (us := us) (us2 := us3) (v := .slice av m cv) (by rw [← GM.out]; exact HUO.out) (by rw [GM.out]; exact HUJ.out) (by rw [hus3, GNR.out]) (fun j hj => by
          obtain ⟨u', h1, b, c, e, h2, h3, h4, h5, h6⟩ := HJ3.out j hj
          exact ⟨u', h1, b, c, e, h2, by omega, h4, fun h => by have := (hvl b h).2; omega, h6⟩) (by rw [← GM.out, ← GNR.out]; exact hO4.out) hU4 hW4.out (by omega)
      have hjv : (Value.slice av m cv).ownBlock ≠ some jp := fun h => by have := (hvl jp h).1; omega
      have hJ4 : Jc w4 jp p gen first size g u wv cnt := hU4.heap HJC3.out hjv
      have hU04 : Upd (· = jp) w w4 := HU3.out.trans hU4 (fun x hx h => by have := (hvl x h).1; omega)
      obtain ⟨av4, cv4, gv4, _, _⟩ := own_shape hO4.out
      have e4 : w4.cell? ⟨jp, 4, none⟩ = some (.int .i64 g) := heap_cells hJ4 4 _ rfl
      have e5 : w4.cell? ⟨jp, 5, none⟩ = some (.int .i64 u) := heap_cells hJ4 5 _ rfl
      have f4 : w4.frozen? ⟨jp, 4, none⟩ = false := frozen_of_row w4 jp 4 _ _ hJ4
      have f5 : w4.frozen? ⟨jp, 5, none⟩ = false := frozen_of_row w4 jp 5 _ _ hJ4
      have hJ6 := hJ4.turn (g + 1) (u + needN nl)
      have hU6 : Upd (· = jp) w4 ((w4.setCell ⟨jp, 4, none⟩ (.int .i64 ((g + 1 : Nat) : Int))).setCell ⟨jp, 5, none⟩ (.int .i64 ((u + needN nl : Nat) : Int))) := (Upd.setCell (F := (· = jp)) w4 ⟨jp, 4, none⟩ _ rfl).trans (Upd.setCell (F := (· = jp)) _ ⟨jp, 5, none⟩ _ rfl) (fun _ _ h => h)
      have hC6 := hC4.upd hU6 (fun b hb => .inl (by omega))
      have hU06 := hU04.trans hU6 (fun _ _ h => h)
      have kn := hid (fun wx => need_any nl wx (by omega))
      have hnn : (nl + 99) / 100 = needN nl := rfl
      rw [hnn] at kn
      obtain ⟨N, gN⟩ : ∃ N, N = needN nl := ⟨_, rfl⟩
      rw [← gN] at kn hJ6 hC6 hU06 HF hneed hneed2
      have HWU : Hid (IntKind.i64.wrap ((u : Int) + (N : Int)) = ((u + N : Nat) : Int)) := hid (by rw [IntKind.wrap_i64]; omega)
      have eg : ((g + 1 : Nat) : Int) = (g : Int) + 1 := by omega
      rw [eg] at hJ6 hC6 hU06
      have HJ6 := hid hJ6
      have HC6 := hid hC6
      have HU6 := hid hU06
      subst gv4
      clear hO4 hU4 hN4 hW4 hC4 hJ4 hU04 hJ6 hU6 hC6 hU06 gN eg hnn hvl hjv HUO HUJ HCL HON
      go_upto_region 10 with fail
      go_region_with (first | (go_at_call 36; refine (kn.out _).mono ?_; rintro r wn ⟨rfl, h⟩; subst wn))
      all_goals
        go_wp2_with fail
        rw [HWU.out]
        refine ⟨hid ⟨g + 1, u + N, f - 1, acc ++ Rr, HJ6.out, HC6.out.upd (F := fun _ => False) ((Upd.refl _ _).drewN 1) (fun _ h => h.elim), HU6.out.drewN 1, by omega, by omega, by omega, by rw [List.length_append, ← GM.out, ← GNR.out]; omega, HF.out⟩, ?_⟩
        simp only [slen]
        rw [← GM.out]
        omega

end Go.Proofs.YtkmnhpnlkmiiiaaGreatDoor
