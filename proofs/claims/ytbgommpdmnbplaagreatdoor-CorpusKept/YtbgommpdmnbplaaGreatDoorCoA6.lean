/- The corpus and what it stands on, merged. -/
import Derived.Test.YtbgommpdmnbplaaGreatDoorCoA5
import Derived.Laws.AppendOwnNone
import Derived.Test.YtbgommpdmnbplaaGreatDoorCoA1

/- What journal's readGroups does. -/
namespace Go.Proofs.YtbgommpdmnbplaaGreatDoor
open Go.RowKit Num Jr
set_option linter.unusedVariables false
set_option maxRecDepth 20000

namespace Jr
theorem recsGo_len (f : Nat) : ∀ (zs : List Int) (acc : List (List Int)), Bytes zs → (recsGo f zs acc).length ≤ acc.length + zs.length := by
  induction f with
  | zero => intro zs acc hz; simp [recsGo]
  | succ f ih =>
    intro zs acc hz
    rw [recsGo]
    by_cases h : zs = []
    · rw [if_pos h]; omega
    · rw [if_neg h]
      by_cases h1 : (txt zs 2000).2.2 ≠ 0 ∨ (txt zs 2000).1 = []
      · rw [if_pos h1]; simp
      · rw [if_neg h1]
        have h2 : (txt zs 2000).2.2 = 0 := by
          rcases Nat.eq_zero_or_pos (txt zs 2000).2.2 with h | h
          · exact h
          · exact absurd (Or.inl (by omega)) h1
        have h3 := txt_ok hz 2000 h2
        rw [show ((2000 : Nat) : Int) = 2000 by rfl] at h3
        have := ih (zs.drop (txt zs 2000).2.1) (acc ++ [(txt zs 2000).1]) (hz.drop _)
        rw [List.length_append, List.length_drop, List.length_singleton] at this
        omega
theorem recsOf_len {zs : List Int} (hz : Bytes zs) : (recsOf zs).length ≤ zs.length := by
  have := recsGo_len (zs.length + 1) zs [] hz
  simpa [recsOf] using this

theorem ldOf_bytes {zs : List Int} (hz : Bytes zs) : Bytes (ldOf zs) := (hz.drop _).take _
theorem loadGo_bytes (S : Nat → List Int) (first gen num : Nat) (hS : ∀ i, Bytes (S i)) : ∀ (k place : Nat) (acc : List Int), Bytes acc → Bytes (loadGo S first gen num k place acc)
  | 0, place, acc, _ => Bytes.nil
  | k + 1, place, acc, ha => by
    unfold loadGo
    split
    · split
      · exact ha.append (ldOf_bytes (hS _))
      · split
        · exact Bytes.nil
        · exact loadGo_bytes S first gen num hS k (place + 1) _ (ha.append (ldOf_bytes (hS _)))
    · exact Bytes.nil
end Jr

theorem Rec.one {w : World} {B : Nat} {g : Option Nat} {u : Value} {bs : List Int} (h : Rec w B g u bs) : u.oneCell' = true := by obtain ⟨b, c, rfl, _⟩ := h; rfl

theorem Jc.turn {w : World} {jp p gen first size groups used cnt : Nat} {wv : Value} (h : Jc w jp p gen first size groups used wv cnt) (g' u' : Nat) : Jc ((w.setCell ⟨jp, 4, none⟩ (.int .i64 g')).setCell ⟨jp, 5, none⟩ (.int .i64 u')) jp p gen first size g' u' wv cnt := by
  unfold Jc
  rw [heap_setCell_same _ jp 5 _ _ _ (heap_setCell_same w jp 4 _ _ _ h)]
  rfl

set_option maxHeartbeats 4000000 in
theorem readgroups_any (d : Dk) (jp p n gen first size cnt : Nat) (wv : Value) (S : Nat → List Int) (w : World) (hj : Jc w jp p gen first size 0 0 wv cnt) (J : Jd d w p n S) (hjf : jp ∉ d.foot p) (hT : Tab w) (hjT : 1 ≠ jp)
    (hfs : first + size ≤ n) (hg : gen ≤ 4294967296) :
    Calls Tryz.prog 137 #[.pointer (some ⟨jp, 0, none⟩)] w fun e w' => ∃ v, e = .returned (.tuple #[v, .nilIface]) ∧ Rcs w' w.heap.size v (grps S first gen size).1 ∧ Jc w' jp p gen first size (grps S first gen size).2.1 (grps S first gen size).2.2 wv cnt ∧ (grps S first gen size).2.2 ≤ size ∧ Upd (· = jp) w w' := by
  obtain ⟨i0, hi0, hz0, hz1, hz2⟩ := info_parts Tryz.infoTB
  have hn2 : n ≤ 2048 := by rw [← J.dn]; exact J.ok.n2
  have hjl : jp < w.heap.size := (Array.getElem?_eq_some_iff.1 hj).1
  obtain ⟨G, gG⟩ : ∃ G, G = grps S first gen size := ⟨_, rfl⟩
  rw [← gG]
  have GG := hid gG
  have HJ := hid J
  have HT := hid hT
  have HJC := hid hj
  have HJF := hid hjf
  have HJT := hid hjT
  clear gG J hT hj hjf hjT
  go_enter Tryz.func137, Tryz.ntmps137
  go_wp2_with fail
  go_loopw [4] (fun v wr => Hid (∃ (g u f : Nat) (acc : List (List Int)), Jc wr jp p gen first size g u wv cnt ∧ Rcs wr w.heap.size v acc ∧ Upd (· = jp) w wr ∧ u ≤ size ∧ g ≤ u ∧ size - u < f ∧ acc.length ≤ 100 * u ∧ grpsGo S first gen size f g u acc = G)) (fun v _ => 100 * size - slen v)
  case atStart => exact hid ⟨0, 0, size + 1, [], HJC.out, Rcs.nil _ _, Upd.refl _ _, by omega, Nat.le_refl _, by omega, by simp, GG.out.symm⟩
  case round =>
    obtain ⟨g, u, f, acc, hJc, hC, hU, hus, hgu, hf, hal, hG⟩ := hrel.out
    clear hrel
    obtain ⟨v, gv⟩ : ∃ v, v = u4 := ⟨_, rfl⟩
    rw [← gv] at hC ⊢
    clear gv
    have hJr : Jd d wr p n S := HJ.out.upd hU (fun k hk e => HJF.out (e ▸ hk))
    have hTr : Tab wr := HT.out.upd hU HJT.out
    have kl := hid (readload_any d jp p n gen first size g u cnt wv S wr hJc hJr hTr hfs hus hg (by omega))
    have hl0 := loadGo_len S first gen (g + 1) HJ.out.all (size - u) u []
    have hlb := loadGo_bytes S first gen (g + 1) HJ.out.byt (size - u) u [] Bytes.nil
    have hstep : G = if recsOf (loadGo S first gen (g + 1) (size - u) u []) = [] then (acc, g, u) else grpsGo S first gen size (f - 1) (g + 1) (u + needN (loadGo S first gen (g + 1) (size - u) u []).length) (acc ++ recsOf (loadGo S first gen (g + 1) (size - u) u [])) := by
      rw [← hG]
      cases f with
      | zero => omega
      | succ f => rw [grpsGo]; rfl
    obtain ⟨L, gL⟩ : ∃ L, L = loadGo S first gen (g + 1) (size - u) u [] := ⟨_, rfl⟩
    rw [← gL] at kl hl0 hlb hstep
    have hrl := recsOf_len hlb
    have hLl : L.length ≤ 100 * (size - u) := by
      by_cases h : L = []
      · rw [h]; simp
      · have := (hl0 h).2; simpa using this
    have hL0 : L = [] → recsOf L = [] := fun h => by rw [h]; exact recsOf_nil
    obtain ⟨nl, gnl⟩ : ∃ nl, nl = L.length := ⟨_, rfl⟩
    rw [← gnl] at kl hrl hLl hstep
    have hjlr : jp < wr.heap.size := Nat.lt_of_lt_of_le hjl hU.size
    have HJr := hid hJc
    have HCr := hid hC
    have HUr := hid hU
    have HST := hid hstep
    have HLB := hid hlb
    have HL0 := hid hL0
    have GNL := hid gnl
    clear hJc hC hU hG hJr hTr hl0 hlb hstep gL hL0 gnl
    have kr : Hid (∀ (a0 : Option Addr) (lc : Nat) (wx : World), Src wx a0 nl L → Calls Tryz.prog 189 #[.slice a0 nl lc] wx fun e w' => ∃ v, e = .returned v ∧ Rcs w' wx.heap.size v (recsOf L) ∧ Below wx.heap.size wx w') := hid (fun a0 lc wx hs => records_any a0 nl lc L wx hs HLB.out (by omega))
    go_upto_region 3 with (first | (go_at_call 188; refine kl.out.mono ?_; rintro r w2 ⟨v2, rfl, ho2, hb2⟩; have HO2 := hid ho2; have HB2 := hid hb2; clear ho2 hb2))
    obtain ⟨a2, c2, gv2, hc21, hc22⟩ := own_shape HO2.out
    subst gv2
    have hs2 : Src w2 a2 nl L := by
      rcases HO2.out.2 with ⟨h, h0⟩ | ⟨g2, c, cur, h, _⟩
      · rw [h0]
        have : L = [] := List.eq_nil_of_length_eq_zero (by rw [← GNL.out]; exact h0)
        rw [this]
        exact Src.nil _ _
      · injection h with h1 h2 h3
        subst h1
        exact Src.own HO2.out
    have HS2 := hid hs2
    clear hs2
    go_upto_region 6 with (first | (go_at_call 189; refine (kr.out _ _ _ HS2.out).mono ?_; rintro r w3 ⟨v3, rfl, hC3, hb3⟩; have HC3 := hid hC3; have HB3 := hid hb3; clear hC3 hb3))
    obtain ⟨us3, ho3, hj3⟩ := HC3.out
    obtain ⟨a3, c3, gv3, hc31, hc32⟩ := own_shape ho3
    subst gv3
    have hb23 : Below wr.heap.size wr w3 := HB2.out.trans (HB3.out.mono HB2.out.size)
    have hU3 : Upd (· = jp) w w3 := HUr.out.trans (Upd.of_below (F := (· = jp)) hb23) (fun _ _ h => h)
    have hJ3 : Jc w3 jp p gen first size g u wv cnt := (hb23.block jp hjlr).trans HJr.out
    have hCa : Rcs w3 w.heap.size v acc := HCr.out.below hb23
    have hwl : w.heap.size ≤ wr.heap.size := HUr.out.size
    have hw2 : wr.heap.size ≤ w2.heap.size := HB2.out.size
    have hw3 : w2.heap.size ≤ w3.heap.size := HB3.out.size
    obtain ⟨Rr, gRr⟩ : ∃ Rr, Rr = recsOf L := ⟨_, rfl⟩
    rw [← gRr] at ho3 hj3 hrl hc31 HST HL0
    have HO3 := hid ho3
    have HJ3 := hid hj3
    have HU3 := hid hU3
    have HJC3 := hid hJ3
    have HCA := hid hCa
    have HRr := hid gRr
    rw [← gRr]
    obtain ⟨nr, gnr⟩ : ∃ nr, nr = Rr.length := ⟨_, rfl⟩
    rw [← gnr] at hrl hc31 HO3
    rw [← gnr]
    have GNR := hid gnr
    have HCX := HCr
    clear ho3 hj3 hU3 hJ3 hCa hb23 gRr gnr kl kr HO2 HS2 HC3 HCr HJr
    by_cases h0 : nr = 0
    · have hR0 : Rr = [] := List.eq_nil_of_length_eq_zero (by rw [← GNR.out]; exact h0)
      have HF : Hid (G = (acc, g, u)) := hid (by rw [HST.out, if_pos hR0])
      subst h0
      clear hR0
      go_wp2_with fail
      go_ret2
      rw [HF.out]
      exact ⟨v, rfl, HCA.out, HJC3.out, hus, HU3.out⟩
    · have hRn : Rr ≠ [] := fun h => h0 (by rw [GNR.out, h]; rfl)
      have hLn : L ≠ [] := fun h => hRn (HL0.out h)
      have hnl : 1 ≤ nl := by rw [GNL.out]; exact List.length_pos_iff.2 hLn
      have HF : Hid (grpsGo S first gen size (f - 1) (g + 1) (u + needN nl) (acc ++ Rr) = G) := hid (by rw [HST.out, if_neg hRn])
      have h0v : ¬ (nr : Int) = 0 := by omega
      obtain ⟨g3, rfl⟩ : ∃ g3, a3 = some ⟨g3, 0, none⟩ := by
        rcases HO3.out.2 with ⟨_, h⟩ | ⟨g, c, cur, h, _⟩
        · exact absurd h h0
        · injection h with h1 h2 h3; exact ⟨g, h1⟩
      obtain ⟨us, huo, huj⟩ := HCA.out
      obtain ⟨av, cv, gv, _, _⟩ := own_shape huo
      subst gv
      have HUO := hid huo
      have HUJ := hid huj
      obtain ⟨m, gm⟩ : ∃ m, m = acc.length := ⟨_, rfl⟩
      rw [← gm] at HUO hal
      rw [← gm]
      have GM := hid gm
      have hus3 : us3.length = nr := by have := HO3.out.1; omega
      have hcell : ∀ j uu, us3[j]? = some uu → w3.cell? ((⟨g3, 0, none⟩ : Addr).add j) = some uu := fun j uu hj => by
        have hjl := (List.getElem?_eq_some_iff.1 hj).1
        rw [Addr.add_lit, Nat.zero_add, HO3.out.cellAt j (by omega)]; exact hj
      have hone : ∀ uu ∈ us3, uu.oneCell' = true := fun uu hu => by
        obtain ⟨j, hj, e⟩ := List.getElem_of_mem hu
        obtain ⟨u', h1, h2⟩ := HJ3.out j (by rw [← GNR.out]; omega)
        rw [List.getElem?_eq_getElem hj, e] at h1
        rw [Option.some.inj h1]
        exact h2.one
      have hneed : needN nl ≤ size - u ∧ 1 ≤ needN nl := by unfold needN; omega
      have hneed2 : nl ≤ 100 * needN nl := by unfold needN; omega
      have HCL := hid hcell
      have HON := hid hone
      clear huo huj gm hcell hone hRn hLn
      go_upto_region 9 with (at_builtin; go_must (refine wpList_append_where rfl _ _ 22 rfl 81 i0 _ 1 24 Tryz.underlying22 hi0 hz0 hz1 hz2 rfl (by decide) (.slice av m cv) m us rfl (own_base HUO.out (Nat.zero_le _)) ⟨g3, 0, none⟩ nr c3 us3 rfl (by rw [hus3, Nat.mul_one]) HCL.out HON.out (by unfold maxLen; omega) (by omega) ?_; intro v' w4 hO4 hU4 hN4 hW4))
      have hvl : ∀ x, (Value.slice av m cv).ownBlock = some x → w.heap.size ≤ x ∧ x < w2.heap.size := fun x hx => by
        have h1 := HUO.out.lt x hx
        obtain ⟨us', h2, _⟩ := HCX.out
        obtain ⟨a', c', e', _, _⟩ := own_shape h2
        have h3 := h2.lt x (by rw [show acc.length = m from GM.out.symm]; exact hx)
        exact ⟨h1.1, Nat.lt_of_lt_of_le h3.2 hw2⟩
      have hC4 : Rcs w4 w.heap.size v' (acc ++ Rr) := Rcs.app (L := acc) (L2 := Rr) (us := us) (us2 := us3) (v := .slice av m cv) (by rw [← GM.out]; exact HUO.out) (by rw [GM.out]; exact HUJ.out) (by rw [hus3, GNR.out]) (fun j hj => by
          obtain ⟨u', h1, b, c, e, h2, h3, h4, h5, h6⟩ := HJ3.out j hj
          exact ⟨u', h1, b, c, e, h2, by omega, h4, fun h => by have := (hvl b h).2; omega, h6⟩) (by rw [← GM.out, ← GNR.out]; exact hO4.out) hU4 hW4.out (by omega)
      have hjv : (Value.slice av m cv).ownBlock ≠ some jp := fun h => by have := (hvl jp h).1; omega
      have hJ4 : Jc w4 jp p gen first size g u wv cnt := hU4.heap HJC3.out hjv
      have hU04 : Upd (· = jp) w w4 := HU3.out.trans hU4 (fun x hx h => by have := (hvl x h).1; omega)
      obtain ⟨av4, cv4, gv4, _, _⟩ := own_shape hO4.out
      have e4 : w4.cell? ⟨jp, 4, none⟩ = some (.int .i64 g) := heap_cells hJ4 4 _ rfl
      have e5 : w4.cell? ⟨jp, 5, none⟩ = some (.int .i64 u) := heap_cells hJ4 5 _ rfl
      have f4 : w4.frozen? ⟨jp, 4, none⟩ = false := frozen_of_row w4 jp 4 _ _ hJ4
      have f5 : w4.frozen? ⟨jp, 5, none⟩ = false := frozen_of_row w4 jp 5 _ _ hJ4
      have hJ6 := hJ4.turn (g + 1) (u + needN nl)
      have hU6 : Upd (· = jp) w4 ((w4.setCell ⟨jp, 4, none⟩ (.int .i64 ((g + 1 : Nat) : Int))).setCell ⟨jp, 5, none⟩ (.int .i64 ((u + needN nl : Nat) : Int))) := (Upd.setCell (F := (· = jp)) w4 ⟨jp, 4, none⟩ _ rfl).trans (Upd.setCell (F := (· = jp)) _ ⟨jp, 5, none⟩ _ rfl) (fun _ _ h => h)
      have hC6 := hC4.upd hU6 (fun b hb => .inl (by omega))
      have hU06 := hU04.trans hU6 (fun _ _ h => h)
      have kn := hid (fun wx => need_any nl wx (by omega))
      have hnn : (nl + 99) / 100 = needN nl := rfl
      rw [hnn] at kn
      obtain ⟨N, gN⟩ : ∃ N, N = needN nl := ⟨_, rfl⟩
      rw [← gN] at kn hJ6 hC6 hU06 HF hneed hneed2
      have HWU : Hid (IntKind.i64.wrap ((u : Int) + (N : Int)) = ((u + N : Nat) : Int)) := hid (by rw [IntKind.wrap_i64]; omega)
      have eg : ((g + 1 : Nat) : Int) = (g : Int) + 1 := by omega
      rw [eg] at hJ6 hC6 hU06
      have HJ6 := hid hJ6
      have HC6 := hid hC6
      have HU6 := hid hU06
      subst gv4
      clear hO4 hU4 hN4 hW4 hC4 hJ4 hU04 hJ6 hU6 hC6 hU06 gN eg hnn hvl hjv HUO HUJ HCL HON
      go_upto_region 10 with fail
      go_region_with (first | (go_at_call 190; refine (kn.out _).mono ?_; rintro r wn ⟨rfl, h⟩; subst wn))
      all_goals
        go_wp2_with fail
        rw [HWU.out]
        refine ⟨hid ⟨g + 1, u + N, f - 1, acc ++ Rr, HJ6.out, HC6.out.upd (F := fun _ => False) ((Upd.refl _ _).drewN 1) (fun _ h => h.elim), HU6.out.drewN 1, by omega, by omega, by omega, by rw [List.length_append, ← GM.out, ← GNR.out]; omega, HF.out⟩, ?_⟩
        simp only [slen]
        rw [← GM.out]
        omega

end Go.Proofs.YtbgommpdmnbplaaGreatDoor

/- What journal's leftovers does. -/
namespace Go.Proofs.YtbgommpdmnbplaaGreatDoor
open Go.RowKit Num Jr
set_option linter.unusedVariables false
set_option maxRecDepth 20000

theorem jstep_append_is {P : Program} {ops : Array Oper} {o : Oper} {a : Act} {w : World} {K : Act → World → Prop} {Q : Exit → Act → World → Prop} {E : Prop}
    (hg : o.guard = none) (d x : Operand) (dT sT : TypeId) (hop : o.op = Op.call { callee := Callee.builtin Builtin.append, args := #[d, x], argTypes := #[dT, sT] })
    (v u : Value) (hd : a.eval d = v) (hx : a.eval x = u) {v' : Value} {w' : World} (hr : (Builtin.append_ #[dT, sT] o.type #[v, u]).run P w = .ok v' w') (hK : K (a.put o.dst v') w') :
    if Region.wanted o (yielded ops a.tmps) = true then Oper.wp P o a w K Q else E := by
  have hw : Region.wanted o (yielded ops a.tmps) = true := by simp [Region.wanted, hg]
  rw [if_pos hw]
  unfold Oper.wp execOp
  simp only [hop, resolve, invoke, builtin, Sem.run_bind, Sem.run_pure, Result.andThen_ok, List.map_toArray, List.map_cons, List.map_nil, hd, hx, hr]
  exact hK

/-- Numbers behind numbers. -/
theorem run_append_nums (w : World) (ty : TypeId) (B B' n1 n2 : Nat) (v1 v2 : Value) (l1 l2 : List Nat) (h1 : w.ownsRow B 3 1 v1 n1 (nums l1)) (h2 : w.ownsRow B' 3 1 v2 n2 (nums l2)) (hn : n1 + n2 ≤ 100000) (hB : B ≤ w.heap.size) :
    ∃ v' w', (Builtin.append_ #[35, 35] ty #[v1, v2]).run Tryz.prog w = .ok v' w' ∧ w'.ownsRow B 3 1 v' (n1 + n2) (nums (l1 ++ l2)) ∧ Upd (fun x => v1.ownBlock = some x) w w' := by
  obtain ⟨i0, hi0, hz0, hz1, hz2⟩ := info_parts Tryz.jinfo3
  have hl2 : (nums l2).length = n2 := by have := h2.1; omega
  rcases h2.2 with ⟨rfl, rfl⟩ | ⟨g, c, cur, rfl, _⟩
  · have : l2 = [] := List.eq_nil_of_length_eq_zero (by rw [← nums_len]; exact hl2)
    subst this
    refine ⟨v1, w, run_append_owned_none (P := Tryz.prog) w B 35 ty 3 i0 1 Tryz.underlying35 hi0 v1 n1 _ h1, by simpa using h1, Upd.refl _ _⟩
  · obtain ⟨v', w', hr, k2, k3, _⟩ := run_append_own (P := Tryz.prog) w B 35 ty 3 i0 (.int .i64 0) 1 8 Tryz.underlying35 hi0 hz0 hz1 hz2 rfl (by decide) v1 n1 _ h1 ⟨g, 0, none⟩ n2 c (nums l2) (by omega) (fun j u hj => by
      have hjl := (List.getElem?_eq_some_iff.1 hj).1
      rw [Addr.add_lit, Nat.zero_add, h2.cellAt j (by omega)]; exact hj) (fun u hu => by simp only [nums, List.mem_map] at hu; obtain ⟨k, _, rfl⟩ := hu; rfl) (by unfold maxLen; omega) (by omega) hB
    refine ⟨v', w', hr, ?_, (Upd.of_grown k3).mono fun x _ hx => hx.symm⟩
    simpa [nums] using k2

/-- The sectors that belong to nothing. -/
def leftL (gen first size used f0 f1 : Nat) : List Nat := (if (if (gen + 1) % 2 = 0 then f0 else f1) = 0 then [(gen + 1) % 2] else []) ++ List.range' (first + used) (size - used)

set_option maxHeartbeats 4000000 in
theorem leftovers_any (jp p gen first size groups used cnt f0 f1 : Nat) (wv : Value) (w : World) (hj : Jc w jp p gen first size groups used wv cnt) (hs : size ≤ 2048) (hf : first ≤ 4096) (hu : used ≤ size) (hg : gen ≤ 4294967296) :
    Calls Tryz.prog 139 #[.pointer (some ⟨jp, 0, none⟩), .agg #[.int .i64 f0, .int .i64 f1]] w fun e w' => ∃ v, e = .returned v ∧
      w'.ownsRow w.heap.size 3 1 v (leftL gen first size used f0 f1).length (nums (leftL gen first size used f0 f1)) ∧ Below w.heap.size w w' := by
  obtain ⟨i0, hi0, hz0, hz1, hz2⟩ := info_parts Tryz.jinfo3
  have hjl : jp < w.heap.size := (Array.getElem?_eq_some_iff.1 hj).1
  obtain ⟨W0, g0⟩ : ∃ W0, W0 = w.alloc (.cells #[.int .i64 f0, .int .i64 f1] 200) := ⟨_, rfl⟩
  have hb0 : Below w.heap.size w W0 := by rw [g0]; exact (Below.refl _ _).alloc (Nat.le_refl _) _
  have hs0 : W0.heap.size = w.heap.size + 1 := by rw [g0]; simp
  have hbx : W0.heap[w.heap.size]? = some (.cells #[.int .i64 f0, .int .i64 f1] 200 (0, 0)) := by rw [g0]; exact heap_alloc_new _ _
  have hL : leftL gen first size used f0 f1 = (if (if (gen + 1) % 2 = 0 then f0 else f1) = 0 then [(gen + 1) % 2] else []) ++ List.range' (first + used) (size - used) := rfl
  have kh := hid (fun wx => headof_any (gen + 1) wx (by omega))
  obtain ⟨q, gq⟩ : ∃ q, q = w.heap.size := ⟨_, rfl⟩
  have cF : W0.cell? ⟨q, (gen + 1) % 2, none⟩ = some (.int .i64 ((if (gen + 1) % 2 = 0 then f0 else f1 : Nat) : Int)) := by
    rw [gq]
    rcases (show (gen + 1) % 2 = 0 ∨ (gen + 1) % 2 = 1 by omega) with h | h
    · rw [h]; exact heap_cells hbx 0 _ rfl
    · rw [h]; exact heap_cells hbx 1 _ rfl
  have ho2 : (gen + 1) % 2 < 2 := by omega
  obtain ⟨F, gF⟩ : ∃ F, F = if (gen + 1) % 2 = 0 then f0 else f1 := ⟨_, rfl⟩
  obtain ⟨o2, go2⟩ : ∃ o2, o2 = (gen + 1) % 2 := ⟨_, rfl⟩
  rw [← gF, ← go2] at hL cF
  rw [← go2] at ho2
  rw [← go2] at kh
  obtain ⟨LL, gLL⟩ : ∃ LL, LL = leftL gen first size used f0 f1 := ⟨_, rfl⟩
  rw [← gLL] at hL
  rw [← gLL]
  have j0 : Jc W0 jp p gen first size groups used wv cnt := (hb0.block jp hjl).trans hj
  have d1 : W0.cell? ⟨jp, 1, none⟩ = some (.int .i64 gen) := heap_cells j0 1 _ rfl
  have d2 : W0.cell? ⟨jp, 2, none⟩ = some (.int .i64 first) := heap_cells j0 2 _ rfl
  have d3 : W0.cell? ⟨jp, 3, none⟩ = some (.int .i64 size) := heap_cells j0 3 _ rfl
  have d5 : W0.cell? ⟨jp, 5, none⟩ = some (.int .i64 used) := heap_cells j0 5 _ rfl
  have kb := hid (fun wx => behind_any gen first size used wx hs hf (by omega))
  have G0 := hid g0
  have GQ := hid gq
  have HLL := hid hL
  have HB0 := hid hb0
  have o20 : (0 : Int) ≤ (o2 : Int) := by omega
  have o22 : (o2 : Int) < 2 := by omega
  have eg : ((gen + 1 : Nat) : Int) = (gen : Int) + 1 := by omega
  rw [eg] at kh
  have hwl : w.heap.size ≤ W0.heap.size := by omega
  clear g0 hL gLL j0 hj hbx gq go2 gF hb0 hs0 eg
  go_enter Tryz.func139, Tryz.ntmps139
  go_upto_region 2 with fail
  rw [← G0.out, ← GQ.out]
  by_cases h0 : F = 0
  · subst h0
    rw [if_pos rfl] at HLL
    go_upto_region 5 with (first | (go_at_call 184; refine (kh.out _).mono ?_; rintro r w1 ⟨rfl, h⟩; subst w1) | (at_builtin; go_must (refine wpList_append_own _ rfl _ _ 35 rfl w.heap.size 3 i0 _ 1 8 Tryz.underlying35 hi0 hz0 hz1 hz2 rfl (by decide) (.slice none 0 0) 0 [] rfl (World.ownsRow_nil _ _ _ _) ⟨_, 0, none⟩ 1 1 [.int .i64 (o2 : Int)] rfl rfl (cell_one_new _ _ _) (by simp [Value.oneCell']) (by unfold maxLen; omega) (by omega) (by simp; omega) ?_; intro v2 WS hO2 hG2 hN2)))
    have HBS : Hid (Below w.heap.size w WS) := hid ((HB0.out.alloc HB0.out.size _).trans ((Upd.of_grown hG2).below (by have := HB0.out.size; simp; omega) (fun x hx => by cases hx)))
    have hO2' : WS.ownsRow w.heap.size 3 1 v2 1 (nums [o2]) := by simpa [nums] using hO2
    have HVS : Hid (∀ x, v2.ownBlock = some x → w.heap.size ≤ x ∧ x < WS.heap.size) := hid (fun x hx => hO2'.lt x hx)
    have HOS := hid hO2'
    have dd : ∀ o, WS.cell? ⟨jp, o, none⟩ = W0.cell? ⟨jp, o, none⟩ := fun o => (HBS.out.cell (p := ⟨jp, o, none⟩) hjl).trans (HB0.out.cell (p := ⟨jp, o, none⟩) hjl).symm
    have D1 := (dd 1).trans d1
    have D2 := (dd 2).trans d2
    have D3 := (dd 3).trans d3
    have D5 := (dd 5).trans d5
    have HAP : Hid (∀ (w4 : World) (v4 : Value), w4.ownsRow WS.heap.size 3 1 v4 (size - used) (nums (List.range' (first + used) (size - used))) → Below WS.heap.size WS w4 → ∃ v' w', (Builtin.append_ #[35, 35] 35 #[v2, v4]).run Tryz.prog w4 = .ok v' w' ∧ w'.ownsRow w.heap.size 3 1 v' ([o2] ++ List.range' (first + used) (size - used)).length (nums ([o2] ++ List.range' (first + used) (size - used))) ∧ Upd (fun x => v2.ownBlock = some x) w4 w') := hid (fun w4 v4 h1 h2 => by
      obtain ⟨v', w', hr, k1, k2⟩ := run_append_nums w4 35 w.heap.size WS.heap.size 1 (size - used) v2 v4 [o2] _ (own_below HOS.out h2) h1 (by omega) (Nat.le_trans HBS.out.size h2.size)
      exact ⟨v', w', hr, by rw [List.length_append, List.length_range']; exact k1, k2⟩)
    clear hO2 hG2 hN2 hO2' dd d1 d2 d3 d5 cF
    go_region_held3 (fun wx => wx.cell? ⟨jp, 1, none⟩ = some (.int .i64 gen) ∧ wx.cell? ⟨jp, 2, none⟩ = some (.int .i64 first) ∧ wx.cell? ⟨jp, 3, none⟩ = some (.int .i64 size) ∧ wx.cell? ⟨jp, 5, none⟩ = some (.int .i64 used)) (go_keep) (first | (go_at_call 186; refine (kb.out _).mono ?_; rintro r w4 ⟨v4, rfl, ho4, hb4⟩; have hb4' : Below WS.heap.size WS w4 := (below_drewN (Below.refl WS.heap.size WS) 1).trans hb4; obtain ⟨v6, w6, hr6, ho6, hu6⟩ := HAP.out w4 v4 (by exact ho4) hb4'; have HB6 : Hid (Below w.heap.size w w6) := hid ((HBS.out.trans (hb4'.mono HBS.out.size)).trans (hu6.below (Nat.le_trans HBS.out.size hb4'.size) (fun x hx => (HVS.out x hx).1))); have y4 : ∀ b o, b < w.heap.size → w4.cell? ⟨b, o, none⟩ = WS.cell? ⟨b, o, none⟩ := (fun b o hb => hb4'.cell (p := ⟨b, o, none⟩) (Nat.lt_of_lt_of_le hb HBS.out.size)); have y6 : ∀ b o, b < w.heap.size → w6.cell? ⟨b, o, none⟩ = WS.cell? ⟨b, o, none⟩ := (fun b o hb => ((HB6.out.cell (p := ⟨b, o, none⟩) hb).trans (HBS.out.cell (p := ⟨b, o, none⟩) hb).symm)); have HO6 := hid ho6; clear ho4 hb4 hb4' ho6 hu6) | (refine jstep_append_is rfl _ _ 35 35 rfl _ _ (by simp [Act.eval]) (by simp [Act.eval]) hr6 ?_))
    go_wp2_with fail
    go_ret
    exact ⟨v6, rfl, by rw [HLL.out]; exact HO6.out, HB6.out⟩
  · have h0v : ¬ (F : Int) = 0 := by omega
    rw [if_neg h0, List.nil_append] at HLL
    obtain ⟨WS, gWS⟩ : ∃ WS, WS = W0 := ⟨_, rfl⟩
    subst gWS
    have HBS : Hid (Below w.heap.size w WS) := HB0
    have HVS : Hid (∀ x, (Value.slice none 0 0).ownBlock = some x → w.heap.size ≤ x ∧ x < WS.heap.size) := hid (fun x hx => by simp [Value.ownBlock] at hx)
    have HAP : Hid (∀ (w4 : World) (v4 : Value), w4.ownsRow WS.heap.size 3 1 v4 (size - used) (nums (List.range' (first + used) (size - used))) → Below WS.heap.size WS w4 → ∃ v' w', (Builtin.append_ #[35, 35] 35 #[.slice none 0 0, v4]).run Tryz.prog w4 = .ok v' w' ∧ w'.ownsRow w.heap.size 3 1 v' (List.range' (first + used) (size - used)).length (nums (List.range' (first + used) (size - used))) ∧ Upd (fun x => (Value.slice none 0 0).ownBlock = some x) w4 w') := hid (fun w4 v4 h1 h2 => by
      obtain ⟨v', w', hr, k1, k2⟩ := run_append_nums w4 35 w.heap.size WS.heap.size 0 (size - used) (.slice none 0 0) v4 [] _ (World.ownsRow_nil _ _ _ _) h1 (by omega) (Nat.le_trans HBS.out.size h2.size)
      exact ⟨v', w', hr, by rw [List.length_range']; simpa using k1, k2⟩)
    go_upto_region 5 with (first | (go_at_call 184; refine (kh.out _).mono ?_; rintro r w1 ⟨rfl, h⟩; subst w1))
    go_region_held3 (fun wx => wx.cell? ⟨jp, 1, none⟩ = some (.int .i64 gen) ∧ wx.cell? ⟨jp, 2, none⟩ = some (.int .i64 first) ∧ wx.cell? ⟨jp, 3, none⟩ = some (.int .i64 size) ∧ wx.cell? ⟨jp, 5, none⟩ = some (.int .i64 used)) (go_keep) (first | (go_at_call 186; refine (kb.out _).mono ?_; rintro r w4 ⟨v4, rfl, ho4, hb4⟩; have hb4' : Below WS.heap.size WS w4 := (below_drewN (Below.refl WS.heap.size WS) 1).trans hb4; obtain ⟨v6, w6, hr6, ho6, hu6⟩ := HAP.out w4 v4 (by exact ho4) hb4'; have HB6 : Hid (Below w.heap.size w w6) := hid ((HBS.out.trans (hb4'.mono HBS.out.size)).trans (hu6.below (Nat.le_trans HBS.out.size hb4'.size) (fun x hx => (HVS.out x hx).1))); have y4 : ∀ b o, b < w.heap.size → w4.cell? ⟨b, o, none⟩ = WS.cell? ⟨b, o, none⟩ := (fun b o hb => hb4'.cell (p := ⟨b, o, none⟩) (Nat.lt_of_lt_of_le hb HBS.out.size)); have y6 : ∀ b o, b < w.heap.size → w6.cell? ⟨b, o, none⟩ = WS.cell? ⟨b, o, none⟩ := (fun b o hb => ((HB6.out.cell (p := ⟨b, o, none⟩) hb).trans (HBS.out.cell (p := ⟨b, o, none⟩) hb).symm)); have HO6 := hid ho6; clear ho4 hb4 hb4' ho6 hu6) | (refine jstep_append_is rfl _ _ 35 35 rfl _ _ (by simp [Act.eval]) (by simp [Act.eval]) hr6 ?_))
    go_wp2_with fail
    go_ret
    exact ⟨v6, rfl, by rw [HLL.out]; exact HO6.out, HB6.out⟩

end Go.Proofs.YtbgommpdmnbplaaGreatDoor

/- What a journal on an image is when it is opened, and opened again: no program here. -/
namespace Go.Proofs.YtbgommpdmnbplaaGreatDoor
open Go.RowKit Num Jr
set_option linter.unusedVariables false

namespace Jr
def newest (S : Nat → List Int) : Nat := max (rightH (S 0) 0) (rightH (S 1) 1)
def szOf (n : Nat) : Nat := (n - 2) / 2
/-- Records, groups and used sectors of the newest generation. -/
def opened (n : Nat) (S : Nat → List Int) : List (List Int) × Nat × Nat := if newest S = 0 then ([], 0, 0) else grps S (firstOf (newest S) n) (newest S) (szOf n)
def openGen (S : Nat → List Int) : Nat := if newest S = 0 then 1 else newest S
/-- The image that Open leaves. -/
def openS (n : Nat) (S : Nat → List Int) : Nat → List Int :=
  if newest S = 0 then upS (wipeS S (0 :: List.range' (firstOf 1 n) (szOf n))) 1 (headB 1)
  else wipeS S (leftL (newest S) (firstOf (newest S) n) (szOf n) (opened n S).2.2 (rightH (S 0) 0) (rightH (S 1) 1))

theorem rightH_zero (i : Nat) : rightH zero128 i = 0 := by
  unfold rightH
  have h : lowI ((zero128.drop 4).take 8) = 0 := by
    unfold lowI zero128
    rfl
  rw [h, if_neg (by omega)]

theorem rightS_zero (place gen num : Nat) : rightS zero128 place gen num = false := by
  unfold rightS
  have h : zero128.getD 1 0 = 0 := rfl
  rw [h]
  simp

theorem rightH_mod {zs : List Int} {i : Nat} (h : rightH zs i ≠ 0) : rightH zs i % 2 = i ∧ rightH zs i ≤ 2147483648 := by
  unfold rightH at h ⊢
  split at h
  · rename_i hc
    rw [if_pos hc]
    omega
  · exact absurd rfl h

theorem rightH_head (g : Nat) (h1 : 1 ≤ g) (h2 : g ≤ 2147483648) : rightH (headB g) (g % 2) = g := by
  unfold rightH
  have hd : ((headB g).drop 4).take 8 = le g 8 := by
    have h3 : headB g = [72, 0, 0, 0] ++ (le g 8 ++ (List.replicate 111 0 ++ le (Crc.crc ([72, 0, 0, 0] ++ le g 8 ++ List.replicate 111 0)) 4 ++ [165])) := by simp [headB, seald]
    rw [h3]
    show (le g 8 ++ _).take 8 = _
    rw [List.take_left' (length_le g 8)]
  have hl : lowI (le g 8) = (g : Int) := by
    unfold lowI
    rw [num_le, Nat.mod_eq_of_lt (by omega), IntKind.wrap_i64]
    omega
  rw [hd, hl, if_pos ⟨by omega, by omega, by rw [Int.toNat_natCast], by rw [Int.toNat_natCast]⟩, Int.toNat_natCast]

/-- A load is read alike where the sectors are alike, up to the last one that is read. -/
theorem loadGo_eq (S T : Nat → List Int) (first gen num : Nat) (hS : ∀ i, (S i).length = 128) : ∀ (k place : Nat) (acc : List Int), loadGo S first gen num k place acc ≠ [] →
    ((loadGo S first gen num k place acc).length ≤ acc.length + 100 * k) ∧ (∀ m : Nat, (∀ i, place ≤ i → 100 * (i - place) < (loadGo S first gen num k place acc).length - acc.length → T (first + i) = S (first + i)) → loadGo T first gen num k place acc = loadGo S first gen num k place acc)
  | 0, place, acc => fun h => absurd rfl h
  | k + 1, place, acc => by
    intro h
    have hlen := loadGo_len S first gen num hS (k + 1) place acc h
    refine ⟨hlen.2, fun m hT => ?_⟩
    have h0 : T (first + place) = S (first + place) := hT place (Nat.le_refl _) (by omega)
    revert h hT hlen
    unfold loadGo
    intro h hlen hT
    rw [h0]
    by_cases h1 : rightS (S (first + place)) place gen num = true
    · have hl := rightS_len h1 (hS _)
      rw [if_pos h1] at h hT hlen
      rw [if_pos h1, if_pos h1]
      by_cases h2 : (S (first + place)).getD 12 0 = 1
      · rw [if_pos h2, if_pos h2]
      · rw [if_neg h2] at h hT hlen
        rw [if_neg h2, if_neg h2]
        by_cases h3 : (S (first + place)).getD 1 0 < 100
        · rw [if_pos h3, if_pos h3]
        · rw [if_neg h3] at h hT hlen
          rw [if_neg h3, if_neg h3]
          have hl2 := loadGo_len S first gen num hS k (place + 1) (acc ++ ldOf (S (first + place))) h
          refine (loadGo_eq S T first gen num hS k (place + 1) _ h).2 0 (fun i hi hl => ?_)
          refine hT i (by omega) ?_
          rw [List.length_append] at hl hl2
          omega
    · rw [if_neg h1] at h; exact absurd rfl h

/-- Where the sector is wiped no load begins. -/
theorem loadGo_zero (T : Nat → List Int) (first gen num k place : Nat) (h : T (first + place) = zero128) : loadGo T first gen num k place [] = [] := by
  cases k with
  | zero => rfl
  | succ k => unfold loadGo; rw [h, rightS_zero]; rfl

theorem needN_le (k m : Nat) (h : k ≤ 100 * m) : needN k ≤ m := by unfold needN; omega
theorem needN_pos (k : Nat) (h : 0 < k) : 1 ≤ needN k ∧ k ≤ 100 * needN k ∧ 100 * (needN k - 1) < k := by unfold needN; omega

/-- The groups' end is behind their begin, within the area. -/
theorem grpsGo_le (S : Nat → List Int) (first gen size : Nat) (hS : ∀ i, (S i).length = 128) : ∀ (f g u : Nat) (acc : List (List Int)), u ≤ size → u ≤ (grpsGo S first gen size f g u acc).2.2 ∧ (grpsGo S first gen size f g u acc).2.2 ≤ size
  | 0, g, u, acc, hu => ⟨Nat.le_refl _, hu⟩
  | f + 1, g, u, acc, hu => by
    unfold grpsGo
    by_cases h : recsOf (loadGo S first gen (g + 1) (size - u) u []) = []
    · rw [if_pos h]; exact ⟨Nat.le_refl _, hu⟩
    · rw [if_neg h]
      have hn : loadGo S first gen (g + 1) (size - u) u [] ≠ [] := fun e => h (by rw [e]; exact recsOf_nil)
      have hl := loadGo_len S first gen (g + 1) hS (size - u) u [] hn
      simp only [List.length_nil, Nat.zero_add] at hl
      have h1 := needN_le _ _ hl.2
      have ih := grpsGo_le S first gen size hS f (g + 1) (u + needN (loadGo S first gen (g + 1) (size - u) u []).length) (acc ++ recsOf (loadGo S first gen (g + 1) (size - u) u [])) (by omega)
      omega

/-- Groups are read alike where the sectors up to their end are alike, and the rest is wiped. -/
theorem grpsGo_eq (S T : Nat → List Int) (first gen size : Nat) (hS : ∀ i, (S i).length = 128) : ∀ (f g u : Nat) (acc : List (List Int)), u ≤ size → size - u < f →
    (∀ i, i < (grpsGo S first gen size f g u acc).2.2 → T (first + i) = S (first + i)) → (∀ i, (grpsGo S first gen size f g u acc).2.2 ≤ i → i < size → T (first + i) = zero128) → grpsGo T first gen size f g u acc = grpsGo S first gen size f g u acc
  | 0, g, u, acc, hu, hf => fun _ _ => rfl
  | f + 1, g, u, acc, hu, hf => by
    intro hT hZ
    by_cases h : recsOf (loadGo S first gen (g + 1) (size - u) u []) = []
    · have e : grpsGo S first gen size (f + 1) g u acc = (acc, g, u) := by rw [grpsGo, if_pos h]
      rw [e] at hT hZ ⊢
      have hz : loadGo T first gen (g + 1) (size - u) u [] = [] := by
        rcases Nat.lt_or_ge u size with hlt | hge
        · exact loadGo_zero T first gen (g + 1) (size - u) u (hZ u (Nat.le_refl _) hlt)
        · rw [show size - u = 0 by omega]; rfl
      rw [grpsGo, hz, if_pos recsOf_nil]
    · have hn : loadGo S first gen (g + 1) (size - u) u [] ≠ [] := fun e => h (by rw [e]; exact recsOf_nil)
      have hl := loadGo_len S first gen (g + 1) hS (size - u) u [] hn
      simp only [List.length_nil, Nat.zero_add] at hl
      have h1 := needN_le _ _ hl.2
      have h2 := needN_pos _ hl.1
      have e : grpsGo S first gen size (f + 1) g u acc = grpsGo S first gen size f (g + 1) (u + needN (loadGo S first gen (g + 1) (size - u) u []).length) (acc ++ recsOf (loadGo S first gen (g + 1) (size - u) u [])) := by rw [grpsGo, if_neg h]
      rw [e] at hT hZ ⊢
      have hle := grpsGo_le S first gen size hS f (g + 1) (u + needN (loadGo S first gen (g + 1) (size - u) u []).length) (acc ++ recsOf (loadGo S first gen (g + 1) (size - u) u [])) (by omega)
      have hload : loadGo T first gen (g + 1) (size - u) u [] = loadGo S first gen (g + 1) (size - u) u [] := (loadGo_eq S T first gen (g + 1) hS (size - u) u [] hn).2 0 (fun i hi hl' => hT i (by
        simp only [List.length_nil, Nat.sub_zero] at hl'
        omega))
      rw [grpsGo, hload, if_neg h]
      exact grpsGo_eq S T first gen size hS f (g + 1) _ _ (by omega) (by omega) hT hZ

theorem newest_mod (S : Nat → List Int) (h : newest S ≠ 0) : newest S ≤ 2147483648 ∧ rightH (S (newest S % 2)) (newest S % 2) = newest S := by
  unfold newest at h ⊢
  rcases Nat.le_total (rightH (S 0) 0) (rightH (S 1) 1) with hle | hle
  · rw [Nat.max_eq_right hle] at h ⊢
    have := rightH_mod h
    rw [this.1]
    exact ⟨this.2, rfl⟩
  · rw [Nat.max_eq_left hle] at h ⊢
    have := rightH_mod h
    rw [this.1]
    exact ⟨this.2, rfl⟩

theorem firstOf_ge (g n : Nat) : 2 ≤ firstOf g n := by unfold firstOf; omega

/-- Opened again, an image tells the same. -/
theorem opened_again (n : Nat) (S : Nat → List Int) (hS : ∀ i, (S i).length = 128) : openGen (openS n S) = openGen S ∧ opened n (openS n S) = opened n S := by
  by_cases h0 : newest S = 0
  · have e : openS n S = upS (wipeS S (0 :: List.range' (firstOf 1 n) (szOf n))) 1 (headB 1) := by unfold openS; rw [if_pos h0]
    obtain ⟨T, gT⟩ : ∃ T, T = openS n S := ⟨_, rfl⟩
    rw [← gT] at e ⊢
    have t0 : T 0 = zero128 := by rw [e]; simp [upS, wipeS]
    have t1 : T 1 = headB 1 := by rw [e]; simp [upS]
    have hn : newest T = 1 := by unfold newest; rw [t0, t1, rightH_zero, rightH_head 1 (by omega) (by omega)]; rfl
    have hg : opened n T = ([], 0, 0) := by
      unfold opened grps
      rw [hn, if_neg (by omega), grpsGo]
      have hz : loadGo T (firstOf 1 n) 1 (0 + 1) (szOf n - 0) 0 [] = [] := by
        rcases Nat.eq_zero_or_pos (szOf n) with hs | hs
        · rw [hs]; rfl
        · refine loadGo_zero T _ _ _ _ 0 ?_
          have hf := firstOf_ge 1 n
          rw [e]
          unfold upS wipeS
          rw [if_neg (by omega), if_pos]
          simp only [List.mem_cons, List.mem_range'_1]
          omega
      rw [hz, if_pos recsOf_nil]
    refine ⟨?_, ?_⟩
    · unfold openGen; rw [hn, h0]; rfl
    · rw [hg]; unfold opened; rw [if_pos h0]
  · obtain ⟨N, gN⟩ : ∃ N, N = newest S := ⟨_, rfl⟩
    have hN := newest_mod S h0
    have ho : opened n S = grps S (firstOf N n) N (szOf n) := by unfold opened; rw [if_neg h0, gN]
    have e : openS n S = wipeS S (leftL N (firstOf N n) (szOf n) (opened n S).2.2 (rightH (S 0) 0) (rightH (S 1) 1)) := by unfold openS; rw [if_neg h0, gN]
    obtain ⟨T, gT⟩ : ∃ T, T = openS n S := ⟨_, rfl⟩
    rw [← gT] at e ⊢
    rw [← gN] at hN
    obtain ⟨U, gU⟩ : ∃ U, U = (opened n S).2.2 := ⟨_, rfl⟩
    rw [← gU] at e
    have hf := firstOf_ge N n
    have hmem : ∀ j, j ∈ leftL N (firstOf N n) (szOf n) U (rightH (S 0) 0) (rightH (S 1) 1) ↔ ((j = (N + 1) % 2 ∧ (if (N + 1) % 2 = 0 then rightH (S 0) 0 else rightH (S 1) 1) = 0) ∨ (firstOf N n + U ≤ j ∧ j < firstOf N n + U + (szOf n - U))) := by
      intro j
      unfold leftL
      rw [List.mem_append, List.mem_range'_1]
      refine or_congr ?_ Iff.rfl
      split
      · rename_i hc; simp; exact and_comm
      · rename_i hc; simp; exact and_comm
    have tw : ∀ j, T j = if ((j = (N + 1) % 2 ∧ (if (N + 1) % 2 = 0 then rightH (S 0) 0 else rightH (S 1) 1) = 0) ∨ (firstOf N n + U ≤ j ∧ j < firstOf N n + U + (szOf n - U))) then zero128 else S j := by
      intro j
      rw [e]
      unfold wipeS
      by_cases hj : j ∈ leftL N (firstOf N n) (szOf n) U (rightH (S 0) 0) (rightH (S 1) 1)
      · rw [if_pos hj, if_pos ((hmem j).1 hj)]
      · rw [if_neg hj, if_neg (fun h => hj ((hmem j).2 h))]
    have hhead : ∀ i, i < 2 → rightH (T i) i = rightH (S i) i := by
      intro i hi
      rw [tw i]
      by_cases hc : (i = (N + 1) % 2 ∧ (if (N + 1) % 2 = 0 then rightH (S 0) 0 else rightH (S 1) 1) = 0) ∨ (firstOf N n + U ≤ i ∧ i < firstOf N n + U + (szOf n - U))
      · rw [if_pos hc, rightH_zero]
        rcases hc with ⟨h1, h2⟩ | h2
        · rcases (show i = 0 ∨ i = 1 by omega) with rfl | rfl
          · rw [if_pos h1.symm] at h2; exact h2.symm
          · rw [if_neg (by omega)] at h2; exact h2.symm
        · omega
      · rw [if_neg hc]
    have hn : newest T = N := by rw [gN]; unfold newest; rw [hhead 0 (by omega), hhead 1 (by omega)]
    have hu := grpsGo_le S (firstOf N n) N (szOf n) hS (szOf n + 1) 0 0 [] (Nat.zero_le _)
    have hgr : grps T (firstOf N n) N (szOf n) = grps S (firstOf N n) N (szOf n) := by
      have hUe : (grpsGo S (firstOf N n) N (szOf n) (szOf n + 1) 0 0 []).2.2 = U := by rw [gU, ho]; rfl
      refine grpsGo_eq S T (firstOf N n) N (szOf n) hS (szOf n + 1) 0 0 [] (Nat.zero_le _) (by omega) (fun i hi => ?_) (fun i hi hi2 => ?_)
      · rw [hUe] at hi
        rw [tw, if_neg (by omega)]
      · rw [hUe] at hi
        rw [tw, if_pos (.inr (by omega))]
    refine ⟨?_, ?_⟩
    · unfold openGen; rw [hn, ← gN]
    · rw [ho]; unfold opened; rw [hn, if_neg (by omega), hgr]
end Jr

end Go.Proofs.YtbgommpdmnbplaaGreatDoor

/- Plain facts (no program in sight): what is written of a number is read as it was, whatever stands behind. -/
namespace Go.Proofs.YtbgommpdmnbplaaGreatDoor.Num

theorem scan_hi (n : Nat) (r : List Int) : ∀ (k i acc : Nat), acc = n / 128 ^ (k + 1) → i + k ≤ 8 → scan (hi n k ++ ((n % 128 : Nat) : Int) :: r) i acc = (n, i + k + 1, 0)
  | 0, i, acc, ha, hik => by
    rw [hi, List.nil_append, scan, if_neg (by omega), if_pos (by omega), Int.toNat_natCast, ha]
    simp only [Nat.zero_add, Nat.pow_one, Nat.add_zero, Prod.mk.injEq, and_true]
    omega
  | k + 1, i, acc, ha, hik => by
    rw [hi, List.cons_append, scan, if_neg (by omega), if_neg (by omega), Int.toNat_natCast]
    rw [scan_hi n r k (i + 1) _ ?_ (by omega)]
    · simp only [Prod.mk.injEq, and_true, true_and]; omega
    · rw [ha]
      have e : n / 128 ^ (k + 1 + 1) = n / 128 ^ (k + 1) / 128 := by rw [Nat.div_div_eq_div_mul, ← Nat.pow_succ]
      rw [e]
      omega

theorem dec_enc (n : Nat) (hn : n < 9223372036854775808) (r : List Int) : dec (enc n ++ r) = (n, (enc n).length, 0) := by
  have h9 := cnt_9 n hn
  have h8 := cnt_8 n hn
  have hz : n / 128 ^ (cnt 9 n + 1) = 0 := Nat.div_eq_of_lt (by rw [Nat.pow_succ, Nat.mul_comm]; exact (Nat.div_lt_iff_lt_mul (Nat.pow_pos (by omega))).1 (by omega))
  have hs := scan_hi n r (cnt 9 n) 0 0 hz.symm (by omega)
  unfold dec
  rw [if_neg]
  · rw [length_enc, enc, List.append_assoc, List.singleton_append, hs, Nat.zero_add]
  · rw [enc]
    rcases Nat.eq_zero_or_pos (cnt 9 n) with h0 | h0
    · rw [h0, hi]; simp; omega
    · obtain ⟨q, hq⟩ : ∃ q, cnt 9 n = q + 1 := ⟨cnt 9 n - 1, by omega⟩
      have hl := cnt_low 9 n q (by omega)
      rw [hq] at h9
      have e : n / 128 ^ (q + 1) = n / 128 ^ q / 128 := by rw [Nat.div_div_eq_div_mul, ← Nat.pow_succ]
      rw [hq, hi]
      simp only [List.cons_append, List.head?_cons, Option.some.injEq]
      omega

#print axioms dec_enc
end Go.Proofs.YtbgommpdmnbplaaGreatDoor.Num

/- What a commit and a new beginning leave on an image: no program here. -/
namespace Go.Proofs.YtbgommpdmnbplaaGreatDoor
open Go.RowKit Num Jr
set_option linter.unusedVariables false

namespace Jr
/-- The bytes ahead of a sector's load. -/
def sectHd (place gen num : Nat) (last : Bool) (k : Nat) : List Int := [74, (k : Int)] ++ le place 2 ++ le gen 8 ++ [if last then 1 else 0] ++ le num 8
theorem length_sectHd (place gen num : Nat) (last : Bool) (k : Nat) : (sectHd place gen num last k).length = 21 := by simp [sectHd, length_le]
theorem sectB_hd (place gen num : Nat) (last : Bool) (load : List Int) : ∃ r, sectB place gen num last load = sectHd place gen num last load.length ++ (load ++ r) := by
  refine ⟨List.replicate (102 - load.length) 0 ++ le (Crc.crc ([74, ((load.length : Nat) : Int)] ++ le place 2 ++ le gen 8 ++ [if last then 1 else 0] ++ le num 8 ++ load ++ List.replicate (102 - load.length) 0)) 4 ++ [165], ?_⟩
  simp [sectB, seald, sectHd]
theorem sectB_used (place gen num : Nat) (last : Bool) (load : List Int) : (sectB place gen num last load).getD 1 0 = (load.length : Int) := by
  obtain ⟨r, e⟩ := sectB_hd place gen num last load
  rw [e]; simp [sectHd]
theorem sectB_last (place gen num : Nat) (last : Bool) (load : List Int) : (sectB place gen num last load).getD 12 0 = if last then 1 else 0 := by
  obtain ⟨r, e⟩ := sectB_hd place gen num last load
  have h12 : ([74, ((load.length : Nat) : Int)] ++ le place 2 ++ le gen 8).length = 12 := by simp [length_le]
  rw [e, sectHd, List.getD_eq_getElem?_getD]
  rw [List.append_assoc, List.append_assoc, List.getElem?_append_right (by omega), h12]
  simp
theorem sectB_load (place gen num : Nat) (last : Bool) (load : List Int) : ldOf (sectB place gen num last load) = load := by
  unfold ldOf
  rw [sectB_used, Int.toNat_natCast]
  obtain ⟨r, e⟩ := sectB_hd place gen num last load
  rw [e, List.drop_left' (length_sectHd _ _ _ _ _), List.take_left' rfl]
theorem rightS_sect (place gen num : Nat) (last : Bool) (load : List Int) (h1 : 1 ≤ load.length) (h2 : load.length ≤ 100) : rightS (sectB place gen num last load) place gen num = true := by
  unfold rightS
  have hl : decide ((sectB place gen num last load).getD 12 0 = 1) = last := by rw [sectB_last]; cases last <;> simp
  have hld : ((sectB place gen num last load).drop 21).take ((sectB place gen num last load).getD 1 0).toNat = load := sectB_load place gen num last load
  rw [hl, hld, sectB_used]
  exact decide_eq_true ⟨by omega, by omega, rfl⟩

/-- A group's sectors, from a place on. -/
def writeGo (first gen num : Nat) : Nat → (Nat → List Int) → Nat → List Int → (Nat → List Int)
  | 0, S, _, _ => S
  | f + 1, S, place, load => if load = [] then S else writeGo first gen num f (upS S (first + place) (sectB place gen num (decide (load.drop 100 = [])) (load.take 100))) (place + 1) (load.drop 100)

theorem writeGo_out (first gen num : Nat) : ∀ (f : Nat) (S : Nat → List Int) (place : Nat) (load : List Int) (i : Nat), (i < first + place ∨ first + place + needN load.length ≤ i) → writeGo first gen num f S place load i = S i
  | 0, S, place, load, i, _ => rfl
  | f + 1, S, place, load, i, h => by
    unfold writeGo
    by_cases hl : load = []
    · rw [if_pos hl]
    · rw [if_neg hl]
      have hp : 0 < load.length := List.length_pos_iff.2 hl
      have hn := needN_pos load.length hp
      have hd : needN (load.drop 100).length ≤ needN load.length - 1 := by rw [List.length_drop]; unfold needN; omega
      rw [writeGo_out first gen num f _ (place + 1) (load.drop 100) i (by omega)]
      unfold upS
      rw [if_neg (by omega)]

theorem writeGo_len (first gen num : Nat) : ∀ (f : Nat) (S : Nat → List Int) (place : Nat) (load : List Int), (∀ i, (S i).length = 128) → ∀ i, (writeGo first gen num f S place load i).length = 128
  | 0, S, place, load, h => h
  | f + 1, S, place, load, h => by
    unfold writeGo
    by_cases hl : load = []
    · rw [if_pos hl]; exact h
    · rw [if_neg hl]
      refine writeGo_len first gen num f _ _ _ (fun i => ?_)
      unfold upS
      split
      · exact length_sectB _ _ _ _ _ (by simp; omega)
      · exact h i

/-- A group that was written is read. -/
theorem loadGo_write (first gen num : Nat) : ∀ (f : Nat) (S : Nat → List Int) (place : Nat) (load acc : List Int) (k : Nat), load ≠ [] → needN load.length ≤ f → needN load.length ≤ k → loadGo (writeGo first gen num f S place load) first gen num k place acc = acc ++ load
  | 0, S, place, load, acc, k, hl, hf, hk => by
    have := needN_pos load.length (List.length_pos_iff.2 hl); omega
  | f + 1, S, place, load, acc, k, hl, hf, hk => by
    have hp : 0 < load.length := List.length_pos_iff.2 hl
    have hn := needN_pos load.length hp
    obtain ⟨k, rfl⟩ : ∃ k', k = k' + 1 := ⟨k - 1, by omega⟩
    have hd : needN (load.drop 100).length = needN load.length - 1 := by rw [List.length_drop]; unfold needN; omega
    rw [writeGo, if_neg hl]
    obtain ⟨T, gT⟩ : ∃ T, T = writeGo first gen num f (upS S (first + place) (sectB place gen num (decide (load.drop 100 = [])) (load.take 100))) (place + 1) (load.drop 100) := ⟨_, rfl⟩
    rw [← gT]
    have hT : T (first + place) = sectB place gen num (decide (load.drop 100 = [])) (load.take 100) := by
      rw [gT, writeGo_out first gen num f _ (place + 1) (load.drop 100) (first + place) (by omega)]
      simp [upS]
    have htl : (load.take 100).length = min 100 load.length := by rw [List.length_take]
    rw [loadGo, hT, if_pos (rightS_sect _ _ _ _ _ (by omega) (by omega)), sectB_last, sectB_used, sectB_load]
    by_cases hz : load.drop 100 = []
    · have hlen : load.length ≤ 100 := by have := congrArg List.length hz; rw [List.length_drop] at this; simp at this; omega
      rw [if_pos (by simp [hz]), List.take_of_length_le hlen]
    · have hlen : 100 < load.length := by
        rcases Nat.lt_or_ge 100 load.length with h | h
        · exact h
        · exact absurd (List.drop_of_length_le h) hz
      rw [if_neg (by simp [hz]), if_neg (by rw [htl]; omega), gT]
      rw [loadGo_write first gen num f _ (place + 1) (load.drop 100) (acc ++ load.take 100) k hz (by omega) (by omega), List.append_assoc, List.take_append_drop]

/-- A record as a text of wire. -/
def txtB (r : List Int) : List Int := enc r.length ++ r
def loadOf (L : List (List Int)) : List Int := (L.map txtB).flatten
theorem loadOf_append (a b : List (List Int)) : loadOf (a ++ b) = loadOf a ++ loadOf b := by simp [loadOf]
def RecOk (r : List Int) : Prop := 1 ≤ r.length ∧ r.length ≤ 2000 ∧ Bytes r
theorem enc_pos (n : Nat) : 0 < (enc n).length := by rw [length_enc]; omega
theorem loadOf_nil {L : List (List Int)} (h : loadOf L = []) : L = [] := by
  cases L with
  | nil => rfl
  | cons a r =>
    exfalso
    have h1 : 0 < (loadOf (a :: r)).length := by
      have := enc_pos a.length
      simp only [loadOf, List.map_cons, List.flatten_cons, txtB, List.length_append]
      omega
    rw [h] at h1
    simp at h1
theorem txt_rec (r rest : List Int) (h : RecOk r) : txt (txtB r ++ rest) 2000 = (r, (enc r.length).length + r.length, 0) := by
  have hd : dec (txtB r ++ rest) = (r.length, (enc r.length).length, 0) := by
    rw [txtB, List.append_assoc]; exact dec_enc r.length (by have := h.2.1; omega) (r ++ rest)
  unfold txt
  rw [hd]
  have h2 := h.2.1
  rw [if_neg (by simp), if_neg (by simp; omega), if_neg (by simp [txtB])]
  simp only [txtB, List.append_assoc]
  rw [List.drop_left' rfl, List.take_left' rfl]
theorem bytes_txtB {r : List Int} (h : Bytes r) : Bytes (txtB r) := (enc_bytes _).append h
theorem bytes_loadOf {L : List (List Int)} (h : ∀ r ∈ L, RecOk r) : Bytes (loadOf L) := by
  intro z hz
  obtain ⟨l, hl, hz'⟩ := List.mem_flatten.1 hz
  obtain ⟨r, hr, rfl⟩ := List.mem_map.1 hl
  exact bytes_txtB (h r hr).2.2 z hz'
theorem recsGo_load (L : List (List Int)) : ∀ (f : Nat) (acc : List (List Int)), (∀ r ∈ L, RecOk r) → (loadOf L).length < f → recsGo f (loadOf L) acc = acc ++ L := by
  induction L with
  | nil =>
    intro f acc _ hf
    cases f with
    | zero => simp at hf
    | succ f => simp [loadOf, recsGo]
  | cons r L ih =>
    intro f acc hL hf
    cases f with
    | zero => omega
    | succ f =>
      have hr := hL r (List.mem_cons_self ..)
      have e : loadOf (r :: L) = txtB r ++ loadOf L := by simp [loadOf]
      have hne : loadOf (r :: L) ≠ [] := fun h => by have := loadOf_nil h; cases this
      rw [recsGo, if_neg hne, e, txt_rec r _ hr]
      have hr0 : r ≠ [] := fun h => by have := hr.1; rw [h] at this; simp at this
      rw [if_neg (by simp [hr0])]
      simp only
      have hdl : (enc r.length).length + r.length = (txtB r).length := by simp [txtB]
      rw [hdl, List.drop_left' rfl, ih f (acc ++ [r]) (fun x hx => hL x (List.mem_cons_of_mem _ hx)) (by
        rw [e, List.length_append] at hf
        have := enc_pos r.length
        simp only [txtB, List.length_append] at hf
        omega)]
      simp
theorem recsOf_load (L : List (List Int)) (h : ∀ r ∈ L, RecOk r) : recsOf (loadOf L) = L := by
  rw [recsOf, recsGo_load L _ [] h (by omega), List.nil_append]

/-- What was read of an image is read of another one that is alike up to there; it goes on from there. -/
theorem grpsGo_then (S T : Nat → List Int) (first gen size : Nat) (hS : ∀ i, (S i).length = 128) : ∀ (f g u : Nat) (acc : List (List Int)), u ≤ size → size - u < f →
    (∀ i, i < (grpsGo S first gen size f g u acc).2.2 → T (first + i) = S (first + i)) → ∃ f', size - (grpsGo S first gen size f g u acc).2.2 < f' ∧ grpsGo T first gen size f g u acc = grpsGo T first gen size f' (grpsGo S first gen size f g u acc).2.1 (grpsGo S first gen size f g u acc).2.2 (grpsGo S first gen size f g u acc).1
  | 0, g, u, acc, hu, hf => by omega
  | f + 1, g, u, acc, hu, hf => by
    intro hT
    by_cases h : recsOf (loadGo S first gen (g + 1) (size - u) u []) = []
    · have e : grpsGo S first gen size (f + 1) g u acc = (acc, g, u) := by rw [grpsGo, if_pos h]
      rw [e]
      exact ⟨f + 1, hf, rfl⟩
    · have hn : loadGo S first gen (g + 1) (size - u) u [] ≠ [] := fun e => h (by rw [e]; exact recsOf_nil)
      have hl := loadGo_len S first gen (g + 1) hS (size - u) u [] hn
      simp only [List.length_nil, Nat.zero_add] at hl
      have h1 := needN_le _ _ hl.2
      have h2 := needN_pos _ hl.1
      have e : grpsGo S first gen size (f + 1) g u acc = grpsGo S first gen size f (g + 1) (u + needN (loadGo S first gen (g + 1) (size - u) u []).length) (acc ++ recsOf (loadGo S first gen (g + 1) (size - u) u [])) := by rw [grpsGo, if_neg h]
      rw [e] at hT ⊢
      have hle := grpsGo_le S first gen size hS f (g + 1) (u + needN (loadGo S first gen (g + 1) (size - u) u []).length) (acc ++ recsOf (loadGo S first gen (g + 1) (size - u) u [])) (by omega)
      have hload : loadGo T first gen (g + 1) (size - u) u [] = loadGo S first gen (g + 1) (size - u) u [] := (loadGo_eq S T first gen (g + 1) hS (size - u) u [] hn).2 0 (fun i hi hl' => hT i (by
        simp only [List.length_nil, Nat.sub_zero] at hl'
        omega))
      have e2 : grpsGo T first gen size (f + 1) g u acc = grpsGo T first gen size f (g + 1) (u + needN (loadGo S first gen (g + 1) (size - u) u []).length) (acc ++ recsOf (loadGo S first gen (g + 1) (size - u) u [])) := by
        rw [grpsGo, hload, if_neg h]
      rw [e2]
      exact grpsGo_then S T first gen size hS f (g + 1) _ _ (by omega) (by omega) hT

/-- An image with a journal: its generation, its records, groups and used sectors. -/
structure JI (n : Nat) (S : Nat → List Int) (gen : Nat) (done : List (List Int)) (groups used : Nat) : Prop where
  len : ∀ i, (S i).length = 128
  g1 : 1 ≤ gen
  g2 : gen ≤ 2147483648
  head : rightH (S (gen % 2)) (gen % 2) = gen
  other : rightH (S ((gen + 1) % 2)) ((gen + 1) % 2) < gen
  grp : grps S (firstOf gen n) gen (szOf n) = (done, groups, used)
  use : used ≤ szOf n
  zero : ∀ i, used ≤ i → i < szOf n → S (firstOf gen n + i) = zero128
  oth : S ((gen + 1) % 2) = zero128 ∨ ∃ k, 1 ≤ k ∧ k ≤ 2147483648 ∧ k % 2 = (gen + 1) % 2 ∧ S ((gen + 1) % 2) = headB k

/-- A right head. -/
theorem rightH_is {zs : List Int} {i k : Nat} (h : rightH zs i = k) (hk : k ≠ 0) : 1 ≤ k ∧ k ≤ 2147483648 ∧ k % 2 = i ∧ zs = headB k := by
  unfold rightH at h
  split at h
  · rename_i hc
    rw [h] at hc
    exact ⟨by omega, by omega, hc.2.2.1, hc.2.2.2⟩
  · omega

theorem JI.newest {n : Nat} {S : Nat → List Int} {gen : Nat} {done : List (List Int)} {groups used : Nat} (h : JI n S gen done groups used) : Jr.newest S = gen := by
  have h1 := h.head
  have h2 := h.other
  unfold Jr.newest
  rcases (show gen % 2 = 0 ∨ gen % 2 = 1 by omega) with e | e
  · have e2 : (gen + 1) % 2 = 1 := by omega
    rw [e] at h1
    rw [e2] at h2
    omega
  · have e2 : (gen + 1) % 2 = 0 := by omega
    rw [e] at h1
    rw [e2] at h2
    omega
theorem JI.opened {n : Nat} {S : Nat → List Int} {gen : Nat} {done : List (List Int)} {groups used : Nat} (h : JI n S gen done groups used) : Jr.opened n S = (done, groups, used) ∧ openGen S = gen := by
  have hn := h.newest
  have hg := h.g1
  unfold Jr.opened openGen
  rw [hn, if_neg (by omega), if_neg (by omega)]
  exact ⟨h.grp, rfl⟩

/-- Another area's sectors. -/
theorem area_apart (g n i j : Nat) (hi : i < szOf n) (hj : j < szOf n) : firstOf (g + 1) n + i ≠ firstOf g n + j := by
  unfold firstOf szOf at *
  rcases (show g % 2 = 0 ∨ g % 2 = 1 by omega) with e | e
  · rw [e, show (g + 1) % 2 = 1 by omega]; omega
  · rw [e, show (g + 1) % 2 = 0 by omega]; omega

theorem upS_len {S : Nat → List Int} (h : ∀ i, (S i).length = 128) (k : Nat) (bs : List Int) (hb : bs.length = 128) : ∀ i, (upS S k bs i).length = 128 := fun i => by
  unfold upS; split
  · exact hb
  · exact h i
theorem wipeS_len {S : Nat → List Int} (h : ∀ i, (S i).length = 128) (l : List Nat) : ∀ i, (wipeS S l i).length = 128 := fun i => by
  unfold wipeS; split
  · simp [zero128]
  · exact h i

/-- A commit. -/
theorem JI.commit {n : Nat} {S : Nat → List Int} {gen : Nat} {done : List (List Int)} {groups used : Nat} (h : JI n S gen done groups used) (waits : List (List Int)) (hw : waits ≠ []) (hr : ∀ r ∈ waits, RecOk r) (hroom : needN (loadOf waits).length ≤ szOf n - used) (f : Nat) (hf : needN (loadOf waits).length ≤ f) :
    JI n (writeGo (firstOf gen n) gen (groups + 1) f S used (loadOf waits)) gen (done ++ waits) (groups + 1) (used + needN (loadOf waits).length) := by
  have hl : loadOf waits ≠ [] := fun e => hw (loadOf_nil e)
  have hpos := needN_pos _ (List.length_pos_iff.2 hl)
  obtain ⟨T, gT⟩ : ∃ T, T = writeGo (firstOf gen n) gen (groups + 1) f S used (loadOf waits) := ⟨_, rfl⟩
  rw [← gT]
  have hout : ∀ i, (i < firstOf gen n + used ∨ firstOf gen n + used + needN (loadOf waits).length ≤ i) → T i = S i := fun i hi => by rw [gT]; exact writeGo_out _ _ _ _ _ _ _ i hi
  have hf2 := firstOf_ge gen n
  have hlen : ∀ i, (T i).length = 128 := by rw [gT]; exact writeGo_len _ _ _ _ _ _ _ h.len
  have hgr : grps T (firstOf gen n) gen (szOf n) = (done ++ waits, groups + 1, used + needN (loadOf waits).length) := by
    have hg : grpsGo S (firstOf gen n) gen (szOf n) (szOf n + 1) 0 0 [] = (done, groups, used) := h.grp
    have := grpsGo_then S T (firstOf gen n) gen (szOf n) h.len (szOf n + 1) 0 0 [] (Nat.zero_le _) (by omega) (fun i hi => by rw [hg] at hi; exact hout _ (.inl (by simp at hi; omega)))
    obtain ⟨f', hf', he⟩ := this
    rw [hg] at hf' he
    simp only at hf' he
    show grpsGo T (firstOf gen n) gen (szOf n) (szOf n + 1) 0 0 [] = _
    rw [he]
    obtain ⟨f', rfl⟩ : ∃ k, f' = k + 1 := ⟨f' - 1, by omega⟩
    have hload : loadGo T (firstOf gen n) gen (groups + 1) (szOf n - used) used [] = loadOf waits := by
      rw [gT, loadGo_write _ _ _ f S used (loadOf waits) [] (szOf n - used) hl hf hroom, List.nil_append]
    rw [grpsGo, hload, recsOf_load waits hr, if_neg hw]
    have hz : loadGo T (firstOf gen n) gen (groups + 1 + 1) (szOf n - (used + needN (loadOf waits).length)) (used + needN (loadOf waits).length) [] = [] := by
      rcases Nat.lt_or_ge (used + needN (loadOf waits).length) (szOf n) with hlt | hge
      · refine loadGo_zero T _ _ _ _ _ ?_
        rw [hout _ (.inr (by omega)), h.zero _ (by omega) hlt]
      · rw [show szOf n - (used + needN (loadOf waits).length) = 0 by omega]; rfl
    cases f' with
    | zero => rfl
    | succ f' => rw [grpsGo, hz, if_pos recsOf_nil]
  refine ⟨hlen, h.g1, h.g2, ?_, ?_, hgr, by omega, fun i hi hi2 => ?_, ?_⟩
  · rw [hout _ (.inl (by omega))]; exact h.head
  · rw [hout _ (.inl (by omega))]; exact h.other
  · rw [hout _ (.inr (by omega))]; exact h.zero i (by omega) hi2
  · rw [hout _ (.inl (by omega))]; exact h.oth

/-- A new beginning, in the other area: the image ahead of the head. -/
def beginS (n gen : Nat) (S : Nat → List Int) (f : Nat) (load : List Int) : Nat → List Int :=
  writeGo (firstOf (gen + 1) n) (gen + 1) 1 f (wipeS S (List.range' (firstOf (gen + 1) n) (szOf n))) 0 load

theorem JI.compact {n : Nat} {S : Nat → List Int} {gen : Nat} {done : List (List Int)} {groups used : Nat} (h : JI n S gen done groups used) (recs : List (List Int)) (hr : ∀ r ∈ recs, RecOk r) (hroom : needN (loadOf recs).length ≤ szOf n) (f : Nat) (hf : needN (loadOf recs).length ≤ f) (hg : gen < 2147483648) :
    JI n (upS (beginS n gen S f (loadOf recs)) ((gen + 1) % 2) (headB (gen + 1))) (gen + 1) recs (if loadOf recs = [] then 0 else 1) (needN (loadOf recs).length) := by
  obtain ⟨B, gB⟩ : ∃ B, B = beginS n gen S f (loadOf recs) := ⟨_, rfl⟩
  rw [← gB]
  obtain ⟨T, gT⟩ : ∃ T, T = upS B ((gen + 1) % 2) (headB (gen + 1)) := ⟨_, rfl⟩
  rw [← gT]
  obtain ⟨W, gW⟩ : ∃ W, W = wipeS S (List.range' (firstOf (gen + 1) n) (szOf n)) := ⟨_, rfl⟩
  have hB : B = writeGo (firstOf (gen + 1) n) (gen + 1) 1 f W 0 (loadOf recs) := by rw [gB, beginS, gW]
  have hf2 := firstOf_ge (gen + 1) n
  have hWl : ∀ i, (W i).length = 128 := by rw [gW]; exact wipeS_len h.len _
  have hBl : ∀ i, (B i).length = 128 := by rw [hB]; exact writeGo_len _ _ _ _ _ _ _ hWl
  have hTl : ∀ i, (T i).length = 128 := by rw [gT]; exact upS_len hBl _ _ (length_headB _)
  have hTB : ∀ i, 2 ≤ i → T i = B i := fun i hi => by rw [gT]; unfold upS; rw [if_neg (by omega)]
  have hout : ∀ i, (i < firstOf (gen + 1) n + 0 ∨ firstOf (gen + 1) n + 0 + needN (loadOf recs).length ≤ i) → B i = W i := fun i hi => by rw [hB]; exact writeGo_out _ _ _ _ _ _ _ i hi
  have hWz : ∀ i, i < szOf n → W (firstOf (gen + 1) n + i) = zero128 := fun i hi => by
    rw [gW]; unfold wipeS
    rw [if_pos (by rw [List.mem_range'_1]; omega)]
  have hgr : grps T (firstOf (gen + 1) n) (gen + 1) (szOf n) = (recs, (if loadOf recs = [] then 0 else 1), needN (loadOf recs).length) := by
    show grpsGo T (firstOf (gen + 1) n) (gen + 1) (szOf n) (szOf n + 1) 0 0 [] = _
    have hzero : ∀ g u : Nat, u = needN (loadOf recs).length → loadGo T (firstOf (gen + 1) n) (gen + 1) g (szOf n - u) u [] = [] := fun g u hu => by
      rcases Nat.lt_or_ge u (szOf n) with hlt | hge
      · refine loadGo_zero T _ _ _ _ _ ?_
        rw [hTB _ (by omega), hout _ (.inr (by omega)), hWz u hlt]
      · rw [show szOf n - u = 0 by omega]; rfl
    by_cases hl : loadOf recs = []
    · have hr0 : recs = [] := loadOf_nil hl
      have hn0 : needN (loadOf recs).length = 0 := by rw [hl]; rfl
      rw [grpsGo, hzero (0 + 1) 0 hn0.symm, if_pos recsOf_nil, if_pos hl, hn0, hr0]
    · have hload : loadGo T (firstOf (gen + 1) n) (gen + 1) (0 + 1) (szOf n - 0) 0 [] = loadOf recs := by
        have h1 : loadGo B (firstOf (gen + 1) n) (gen + 1) (0 + 1) (szOf n - 0) 0 [] = loadOf recs := by
          rw [hB, loadGo_write _ _ _ f W 0 (loadOf recs) [] (szOf n - 0) hl hf (by omega), List.nil_append]
        rw [← h1]
        exact (loadGo_eq B T (firstOf (gen + 1) n) (gen + 1) (0 + 1) hBl (szOf n - 0) 0 [] (by rw [h1]; exact hl)).2 0 (fun i _ _ => hTB _ (by omega))
      have hne : recs ≠ [] := fun e => hl (by rw [e]; rfl)
      rw [grpsGo, hload, recsOf_load recs hr, if_neg hne, if_neg hl, Nat.zero_add, List.nil_append, Nat.zero_add]
      cases hs : szOf n with
      | zero => rfl
      | succ s =>
        rw [← hs, hs, grpsGo, ← hs, hzero (1 + 1) (needN (loadOf recs).length) rfl, if_pos recsOf_nil]
  have hh : T ((gen + 1) % 2) = headB (gen + 1) := by rw [gT]; simp [upS]
  have ho : T (gen % 2) = S (gen % 2) := by
    rw [gT]; unfold upS
    rw [if_neg (by omega), hout _ (.inl (by omega)), gW]
    unfold wipeS
    rw [if_neg (by rw [List.mem_range'_1]; omega)]
  have hpar : (gen + 1 + 1) % 2 = gen % 2 := by omega
  refine ⟨hTl, by omega, by omega, ?_, ?_, hgr, by omega, fun i hi hi2 => ?_, ?_⟩
  · rw [hh]; exact rightH_head (gen + 1) (by omega) (by omega)
  · rw [hpar, ho, h.head]; omega
  · rw [hTB _ (by omega), hout _ (.inr (by omega)), hWz i hi2]
  · have hg1 := h.g1
    have := rightH_is h.head (by omega)
    exact .inr ⟨gen, this.1, this.2.1, by omega, by rw [hpar, ho]; exact this.2.2.2⟩

/-- What Open leaves is a journal. -/
theorem JI.open (n : Nat) (S : Nat → List Int) (hS : ∀ i, (S i).length = 128) : JI n (openS n S) (openGen S) (Jr.opened n S).1 (Jr.opened n S).2.1 (Jr.opened n S).2.2 := by
  obtain ⟨hA1, hA2⟩ := opened_again n S hS
  by_cases h0 : Jr.newest S = 0
  · have e : openS n S = upS (wipeS S (0 :: List.range' (firstOf 1 n) (szOf n))) 1 (headB 1) := by unfold openS; rw [if_pos h0]
    have e1 : openGen S = 1 := by unfold openGen; rw [if_pos h0]
    have e2 : Jr.opened n S = ([], 0, 0) := by unfold Jr.opened; rw [if_pos h0]
    have hf := firstOf_ge 1 n
    obtain ⟨T, gT⟩ : ∃ T, T = openS n S := ⟨_, rfl⟩
    rw [← gT] at e hA1 hA2 ⊢
    rw [e1] at hA1 ⊢
    have t0 : T 0 = zero128 := by rw [e]; simp [upS, wipeS]
    have t1 : T 1 = headB 1 := by rw [e]; simp [upS]
    have hn : Jr.newest T = 1 := by unfold Jr.newest; rw [t0, t1, rightH_zero, rightH_head 1 (by omega) (by omega)]; rfl
    have hg : grps T (firstOf 1 n) 1 (szOf n) = Jr.opened n S := by rw [← hA2]; unfold Jr.opened; rw [hn, if_neg (by omega)]
    refine ⟨?_, by omega, by omega, ?_, ?_, by rw [hg], by rw [e2]; exact Nat.zero_le _, fun i _ hi => ?_, .inl t0⟩
    · rw [e]; exact upS_len (wipeS_len hS _) _ _ (length_headB 1)
    · show rightH (T 1) 1 = 1
      rw [t1]; exact rightH_head 1 (by omega) (by omega)
    · show rightH (T 0) 0 < 1
      rw [t0, rightH_zero]; omega
    · rw [e]
      unfold upS wipeS
      rw [if_neg (by omega), if_pos]
      simp only [List.mem_cons, List.mem_range'_1]
      omega
  · obtain ⟨N, gN⟩ : ∃ N, N = Jr.newest S := ⟨_, rfl⟩
    have hN := newest_mod S h0
    have e : openS n S = wipeS S (leftL N (firstOf N n) (szOf n) (Jr.opened n S).2.2 (rightH (S 0) 0) (rightH (S 1) 1)) := by unfold openS; rw [if_neg h0, gN]
    have e1 : openGen S = N := by unfold openGen; rw [if_neg h0, gN]
    have ho : Jr.opened n S = grps S (firstOf N n) N (szOf n) := by unfold Jr.opened; rw [if_neg h0, gN]
    have hf := firstOf_ge N n
    have hu := grpsGo_le S (firstOf N n) N (szOf n) hS (szOf n + 1) 0 0 [] (Nat.zero_le _)
    have huse : (Jr.opened n S).2.2 ≤ szOf n := by rw [ho]; exact hu.2
    obtain ⟨T, gT⟩ : ∃ T, T = openS n S := ⟨_, rfl⟩
    rw [← gT] at e hA1 hA2 ⊢
    rw [e1] at hA1 ⊢
    rw [← gN] at hN
    have hnT : Jr.newest T = N := by
      unfold openGen at hA1
      split at hA1
      · rename_i hz
        have h1 : N = 1 := hA1.symm
        have h2 : Jr.opened n T = ([], 0, 0) := by unfold Jr.opened; rw [if_pos hz]
        exfalso
        have hh : rightH (T (N % 2)) (N % 2) = N := by
          rw [e]; unfold wipeS
          rw [if_neg, hN.2]
          rw [h1]
          unfold leftL
          rw [List.mem_append, List.mem_range'_1]
          intro hc
          rcases hc with hc | hc
          · generalize (if (1 + 1) % 2 = 0 then rightH (S 0) 0 else rightH (S 1) 1) = F at hc
            split at hc <;> simp at hc
          · rw [h1] at hf; omega
        rw [h1] at hh
        unfold Jr.newest at hz
        have : rightH (T 1) 1 = 1 := hh
        omega
      · exact hA1
    have hg : grps T (firstOf N n) N (szOf n) = Jr.opened n S := by rw [← hA2]; unfold Jr.opened; rw [hnT, if_neg (by omega)]
    have hhead := newest_mod T (by rw [hnT, gN]; exact h0)
    rw [hnT] at hhead
    refine ⟨?_, by omega, hN.1, hhead.2, ?_, by rw [hg], huse, fun i hi hi2 => ?_, ?_⟩
    · rw [e]; exact wipeS_len hS _
    · rcases Nat.lt_or_ge (rightH (T ((N + 1) % 2)) ((N + 1) % 2)) N with h | h
      · exact h
      · exfalso
        have hle : rightH (T ((N + 1) % 2)) ((N + 1) % 2) ≤ Jr.newest T := by
          unfold Jr.newest
          rcases (show (N + 1) % 2 = 0 ∨ (N + 1) % 2 = 1 by omega) with e | e <;> rw [e] <;> omega
        rw [hnT] at hle
        have heq : rightH (T ((N + 1) % 2)) ((N + 1) % 2) = N := by omega
        have := rightH_mod (zs := T ((N + 1) % 2)) (i := (N + 1) % 2) (by omega)
        omega
    · rw [e]
      unfold wipeS
      rw [if_pos]
      unfold leftL
      rw [List.mem_append, List.mem_range'_1]
      exact .inr (by omega)
    · obtain ⟨o, go⟩ : ∃ o, o = (N + 1) % 2 := ⟨_, rfl⟩
      have ho2 : o = 0 ∨ o = 1 := by omega
      have hF : (if (N + 1) % 2 = 0 then rightH (S 0) 0 else rightH (S 1) 1) = rightH (S o) o := by
        rw [← go]
        rcases ho2 with e | e
        · rw [if_pos e, e]
        · rw [if_neg (by omega), e]
      rw [← go]
      by_cases hz : rightH (S o) o = 0
      · left
        rw [e]; unfold wipeS
        rw [if_pos]
        unfold leftL
        rw [List.mem_append]
        left
        rw [hF, if_pos hz, ← go]
        exact List.mem_singleton.2 rfl
      · right
        have hr := rightH_is (rfl : rightH (S o) o = rightH (S o) o) hz
        refine ⟨rightH (S o) o, hr.1, hr.2.1, hr.2.2.1, ?_⟩
        have hT : T o = S o := by
          rw [e]; unfold wipeS
          rw [if_neg]
          unfold leftL
          rw [List.mem_append, List.mem_range'_1, hF, if_neg hz]
          intro hc
          rcases hc with hc | hc
          · simp at hc
          · omega
        rw [hT]; exact hr.2.2.2
end Jr

end Go.Proofs.YtbgommpdmnbplaaGreatDoor
