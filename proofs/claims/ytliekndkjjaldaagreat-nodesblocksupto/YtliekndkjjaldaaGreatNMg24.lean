/- Texts of this seat, merged. -/
import Derived.Test.YtliekndkjjaldaaGreatNMg22
import Derived.Test.YtliekndkjjaldaaGreatNMg23
import Derived.Test.YtliekndkjjaldaaGreatNMg10
import Derived.Test.YtliekndkjjaldaaGreatChecked
import Derived.Test.YtliekndkjjaldaaGreatNMg1
import Derived.Laws.BytesArg

/- A system of the program's beside one of the document's, as they lie. -/
namespace Go.Proofs.YtliekndkjjaldaaGreat
open Go.RowKit Go.ChangeMaps Go.MapKept
set_option linter.unusedVariables false
set_option maxRecDepth 20000

/-- The pair's box; the program's system (which has Fp) in blocks G, the document's (which has Fd); all new since B. -/
structure Pr (w : World) (B : Nat) (G : Nat → Prop) (pp p x g u : Nat) (V : Nat → Value) (Fp Fd : Fs) : Prop where
  box : w.heap[pp]? = some (.cells (List.toArray [.pointer (some ⟨p, 0, none⟩), .pointer (some ⟨x, 0, none⟩)]) 29 (0, 0))
  pf : Pf w p Fp G
  rf : Rf w x g u V Fd
  gG : ∀ b, G b → B ≤ b ∧ b < w.heap.size ∧ b ≠ pp ∧ ¬ RfFoot x g u V b
  gR : ∀ b, RfFoot x g u V b → B ≤ b ∧ b ≠ pp
  gp : B ≤ pp

section
variable {w w' : World} {B : Nat} {G : Nat → Prop} {pp p x g u : Nat} {V : Nat → Value} {Fp Fd F' : Fs}
theorem Pr.lt (h : Pr w B G pp p x g u V Fp Fd) : pp < w.heap.size := (Array.getElem?_eq_some_iff.1 h.box).1
theorem Pr.c0 (h : Pr w B G pp p x g u V Fp Fd) : w.cell? ⟨pp, 0, none⟩ = some (.pointer (some ⟨p, 0, none⟩)) := cell_list h.box rfl
theorem Pr.c1 (h : Pr w B G pp p x g u V Fp Fd) : w.cell? ⟨pp, 1, none⟩ = some (.pointer (some ⟨x, 0, none⟩)) := cell_list h.box rfl
/-- What is neither the pair's, nor either system's. -/
def Oth (w : World) (G : Nat → Prop) (pp x g u : Nat) (V : Nat → Value) (b : Nat) : Prop := b < w.heap.size ∧ b ≠ pp ∧ ¬ G b ∧ ¬ RfFoot x g u V b
/-- Nothing of the pair's turns. -/
theorem Pr.upd {U : Nat → Prop} (h : Pr w B G pp p x g u V Fp Fd) (q : Upd U w w') (hU : ∀ b, b < w.heap.size → U b → Oth w G pp x g u V b) : Pr w' B G pp p x g u V Fp Fd :=
  ⟨q.heap h.box (fun e => (hU pp h.lt e).2.1 rfl), h.pf.upd q (fun b hb hG hu => (hU b hb hu).2.2.1 hG), h.rf.upd q (fun b hb hu => (hU b (h.rf.foot_lt b hb) hu).2.2.2 hb), fun b hb => ⟨(h.gG b hb).1, Nat.lt_of_lt_of_le (h.gG b hb).2.1 q.size, (h.gG b hb).2.2⟩, h.gR, h.gp⟩
theorem Pr.grow (h : Pr w B G pp p x g u V Fp Fd) (q : Below w.heap.size w w') : Pr w' B G pp p x g u V Fp Fd := h.upd (Upd.of_below (F := fun _ => False) q) (fun _ _ h => h.elim)
theorem Oth.grow {b : Nat} (h : Oth w G pp x g u V b) (q : Below w.heap.size w w') : Oth w' G pp x g u V b := ⟨Nat.lt_of_lt_of_le h.1 q.size, h.2⟩

/-- The program's call. -/
theorem Pr.prog (h : Pr w B G pp p x g u V Fp Fd) (t : PfTo w p F' G w') : Pr w' B (fun b => (G b ∨ w.heap.size ≤ b) ∧ b < w'.heap.size) pp p x g u V F' Fd ∧ Below B w w' ∧ (∀ b, Oth w G pp x g u V b → w'.heap[b]? = w.heap[b]? ∧ Oth w' (fun b => (G b ∨ w.heap.size ≤ b) ∧ b < w'.heap.size) pp x g u V b) := by
  obtain ⟨t1, t2⟩ := t
  have hB : B ≤ w.heap.size := Nat.le_trans h.gp (Nat.le_of_lt h.lt)
  refine ⟨⟨t2.heap h.box (fun e => (h.gG pp e).2.2.1 rfl), t1.mono (fun b hb hG => ⟨hG, hb⟩), h.rf.upd t2 (fun b hb hG => (h.gG b hG).2.2.2 hb), fun b hb => ?_, h.gR, h.gp⟩, t2.below hB (fun b hb => (h.gG b hb).1), fun b hb => ⟨t2.block b hb.1 hb.2.2.1, Nat.lt_of_lt_of_le hb.1 t2.size, hb.2.1, fun q => ?_, hb.2.2.2⟩⟩
  · rcases hb with ⟨hb | hb, hs⟩
    · exact ⟨(h.gG b hb).1, hs, (h.gG b hb).2.2⟩
    · refine ⟨Nat.le_trans hB hb, hs, fun e => ?_, fun e => ?_⟩
      · have := h.lt; omega
      · have := h.rf.foot_lt b e; omega
  · rcases q.1 with q | q
    · exact hb.2.2.1 q
    · have := hb.1; omega
/-- The document's call. -/
theorem Pr.doc (h : Pr w B G pp p x g u V Fp Fd) (t : RfTo w x g u V F' w') : ∃ V', Pr w' B G pp p x g u V' Fp F' ∧ Below B w w' ∧ (∀ b, Oth w G pp x g u V b → w'.heap[b]? = w.heap[b]? ∧ Oth w' G pp x g u V' b) := by
  obtain ⟨V', t1, t2, t3⟩ := t
  have hB : B ≤ w.heap.size := Nat.le_trans h.gp (Nat.le_of_lt h.lt)
  refine ⟨V', ⟨t2.heap h.box (fun e => (h.gR pp e).2 rfl), h.pf.upd t2 (fun b hb hG hu => (h.gG b hG).2.2.2 hu), t1, fun b hb => ?_, fun b hb => ?_, h.gp⟩, t2.below hB (fun b hb => (h.gR b hb).1), fun b hb => ⟨t2.block b hb.1 hb.2.2.2, Nat.lt_of_lt_of_le hb.1 t2.size, hb.2.1, hb.2.2.1, fun q => ?_⟩⟩
  · obtain ⟨a1, a2, a3, a4⟩ := h.gG b hb
    refine ⟨a1, Nat.lt_of_lt_of_le a2 t2.size, a3, fun q => ?_⟩
    rcases t3 b q with q | q
    · exact a4 q
    · omega
  · rcases t3 b hb with q | q
    · exact h.gR b q
    · refine ⟨Nat.le_trans hB q, fun e => ?_⟩
      have := h.lt; omega
  · rcases t3 b q with q | q
    · exact hb.2.2.2 q
    · have := hb.1; omega
end

set_option maxHeartbeats 8000000 in
/-- Both have the same. -/
theorem same_yes2 (w : World) (B : Nat) (G : Nat → Prop) (pp p x g u : Nat) (V : Nat → Value) (F : Fs) (H : Pr w B G pp p x g u V F F) (hF : FOk F) :
    Calls Tryz.prog 9 #[.pointer (some ⟨pp, 0, none⟩)] w fun e w' => e = .returned (.bool true) ∧ Below w.heap.size w w' := by
  have HH := hid (fun (W : World) (hb : Below w.heap.size w W) => H.grow hb)
  have hp := H.lt
  have c0 := H.c0
  have c1 := H.c1
  have HF := hid hF
  have KL : Hid (∀ W, Below w.heap.size w W → Calls Tryz.prog 11 #[.pointer (some ⟨p, 0, none⟩)] W fun e w' => (∃ a c cs, e = .returned (.slice a (thr F 17).length c) ∧ w'.ownsRow 0 44 8 (.slice a (thr F 17).length c) (thr F 17).length cs ∧ LkL w' (fun b => W.heap.size ≤ b) F (thr F 17) cs) ∧ Below W.heap.size W w') := hid (fun W hb => (plooks_any p F G W (HH.out W hb).pf HF.out).mono (by
    rintro e w' ⟨⟨v, cs, rfl, h1, h2⟩, h3⟩
    obtain ⟨a, c, rfl, _⟩ := own_shp h1
    exact ⟨⟨a, c, cs, rfl, h1, h2⟩, h3⟩))
  have KR : Hid (∀ W, Below w.heap.size w W → Calls Tryz.prog 46 #[.pointer (some ⟨x, 0, none⟩)] W fun e w' => (∃ a c cs, e = .returned (.slice a (thr F 17).length c) ∧ w'.ownsRow 0 44 8 (.slice a (thr F 17).length c) (thr F 17).length cs ∧ LkL w' (fun b => W.heap.size ≤ b) F (thr F 17) cs) ∧ Below W.heap.size W w') := hid (fun W hb => (rlooks_any x g u V F W (HH.out W hb).rf HF.out).mono (by
    rintro e w' ⟨⟨v, cs, rfl, h1, h2⟩, h3⟩
    obtain ⟨a, c, rfl, _⟩ := own_shp h1
    exact ⟨⟨a, c, cs, rfl, h1, h2⟩, h3⟩))
  obtain ⟨n, gn⟩ : ∃ n, n = (thr F 17).length := ⟨_, rfl⟩
  have hn17 : n ≤ 17 := by rw [gn]; exact thr_len F 17
  rw [← gn] at KL KR
  have GN := hid gn
  obtain ⟨BL, gBL⟩ : ∃ BL, BL = (List.range 25).filter F.T := ⟨_, rfl⟩
  obtain ⟨m, gm⟩ : ∃ m, m = BL.length := ⟨_, rfl⟩
  have hm : m ≤ 25 := by
    rw [gm, gBL]
    have := List.length_filter_le F.T (List.range 25)
    rw [List.length_range] at this
    exact this
  have e1 : BL.map natV = (BL.map fun b : Nat => (b : Int)).map (Value.int .i64) := by rw [List.map_map]; rfl
  have KB : Hid (∀ W, Below w.heap.size w W → Calls Tryz.prog 14 #[.pointer (some ⟨p, 0, none⟩)] W fun e w' => (∃ a c, e = .returned (.slice a m c) ∧ Rdv w' a m ((BL.map fun b : Nat => (b : Int)).map (Value.int .i64))) ∧ Below W.heap.size W w') := hid (fun W hb => (pblocks_any p F G W (HH.out W hb).pf).mono (by
    rintro e w' ⟨⟨v, rfl, h1⟩, h3⟩
    rw [← gBL, ← gm, e1] at h1
    obtain ⟨a, c, rfl, _⟩ := own_shp h1
    exact ⟨⟨a, c, rfl, Rdv.of h1⟩, h3⟩))
  have KD : Hid (∀ W, Below w.heap.size w W → Calls Tryz.prog 47 #[.pointer (some ⟨x, 0, none⟩)] W fun e w' => (∃ a c, e = .returned (.slice a m c) ∧ Rdv w' a m ((BL.map fun b : Nat => (b : Int)).map (Value.int .i64))) ∧ Below W.heap.size W w') := hid (fun W hb => (rblocks_any x g u V F W (HH.out W hb).rf).mono (by
    rintro e w' ⟨⟨v, rfl, h1⟩, h3⟩
    rw [← gBL, ← gm, e1] at h1
    obtain ⟨a, c, rfl, _⟩ := own_shp h1
    exact ⟨⟨a, c, rfl, Rdv.of h1⟩, h3⟩))
  have HS : Hid (∀ W, Below w.heap.size w W → W.cell? ⟨pp, 0, none⟩ = some (.pointer (some ⟨p, 0, none⟩)) ∧ W.cell? ⟨pp, 1, none⟩ = some (.pointer (some ⟨x, 0, none⟩))) := hid (fun W hb => ⟨(HH.out W hb).c0, (HH.out W hb).c1⟩)
  generalize (BL.map fun b : Nat => (b : Int)) = zs at KB KD
  clear H hF gn gBL gm e1
  go_enter Tryz.func9, Tryz.ntmps9
  go_wp2_with fail
  go_region_held3 (fun W => W.cell? ⟨pp, 0, none⟩ = some (.pointer (some ⟨p, 0, none⟩)) ∧ W.cell? ⟨pp, 1, none⟩ = some (.pointer (some ⟨x, 0, none⟩))) (first | (refine ⟨?_, ?_⟩ <;> assumption) | exact HS.out _ (Below.refl _ _).drew | go_keep) (first
    | (go_at_call 11; refine (KL.out _ (by first | exact HBR.out | exact (Below.refl _ _).drew)).mono ?_; rintro e w1 ⟨⟨a1, d1, cs1, rfl, hO1, hL1⟩, hb1⟩; have HBL : Hid (Below w.heap.size w w1) := hid (by first | exact HBR.out.trans (hb1.mono HBR.out.size) | exact (Below.refl _ _).drew.trans hb1); obtain ⟨y0, y1⟩ := HS.out w1 HBL.out; have HO1 := hid hO1; have HL1 := hid hL1; have HC1 := hid hb1; clear hO1 hL1 hb1)
    | (go_at_call 46; refine (KR.out _ (by first | exact HBL.out | exact (Below.refl _ _).drew)).mono ?_; rintro e w2 ⟨⟨a2, d2, cs2, rfl, hO2, hL2⟩, hb2⟩; have HBR : Hid (Below w.heap.size w w2) := hid (by first | exact HBL.out.trans (hb2.mono HBL.out.size) | exact (Below.refl _ _).drew.trans hb2); obtain ⟨x0, x1⟩ := HS.out w2 HBR.out; have HO2 := hid hO2; have HL2 := hid hL2; have HC2 := hid hb2; clear hO2 hL2 hb2)
    | (go_at_call 45; first
        | (refine (samenodes_yes F HF.out (thr F 17) n GN.out.symm hn17 a1 a2 d1 d2 cs1 cs2 w2 _ _ ((Upd.of_below (F := fun _ => False) HC2.out).own HO1.out (fun _ _ h => h)) HO2.out (LkL.upd (Upd.of_below (F := fun _ => False) HC2.out) (fun _ _ _ h => h) (fun _ _ h => h) HL1.out) HL2.out).mono ?_; rintro e w3 ⟨rfl, hb3⟩; have HB3 : Hid (Below w.heap.size w w3) := hid (HBR.out.trans (hb3.mono HBR.out.size)); obtain ⟨u0, u1⟩ := HS.out w3 HB3.out; clear hb3)
        | (refine (samenodes_yes F HF.out (thr F 17) n GN.out.symm hn17 a1 a2 d1 d2 cs1 cs2 w1 _ _ HO1.out ((Upd.of_below (F := fun _ => False) HC1.out).own HO2.out (fun _ _ h => h)) HL1.out (LkL.upd (Upd.of_below (F := fun _ => False) HC1.out) (fun _ _ _ h => h) (fun _ _ h => h) HL2.out)).mono ?_; rintro e w3 ⟨rfl, hb3⟩; have HB3 : Hid (Below w.heap.size w w3) := hid (HBL.out.trans (hb3.mono HBL.out.size)); obtain ⟨u0, u1⟩ := HS.out w3 HB3.out; clear hb3))
    | (go_at_call 14; refine (KB.out _ (by first | exact HB5.out | exact HB3.out)).mono ?_; rintro e w4 ⟨⟨a4, d4, rfl, hR4⟩, hb4⟩; have HB4 : Hid (Below w.heap.size w w4) := hid (by first | exact HB5.out.trans (hb4.mono HB5.out.size) | exact HB3.out.trans (hb4.mono HB3.out.size)); obtain ⟨v0, v1⟩ := HS.out w4 HB4.out; have HR4 := hid hR4; have HC4 := hid hb4; clear hR4 hb4)
    | (go_at_call 47; refine (KD.out _ (by first | exact HB4.out | exact HB3.out)).mono ?_; rintro e w5 ⟨⟨a5, d5, rfl, hR5⟩, hb5⟩; have HB5 : Hid (Below w.heap.size w w5) := hid (by first | exact HB4.out.trans (hb5.mono HB4.out.size) | exact HB3.out.trans (hb5.mono HB3.out.size)); obtain ⟨t0, t1⟩ := HS.out w5 HB5.out; have HR5 := hid hR5; have HC5 := hid hb5; clear hR5 hb5)
    | (go_at_call 13; first
        | (refine (ieq_yes a4 a5 m d4 d5 (by omega) zs w5 (HR4.out.below HC5.out) HR5.out).mono ?_; rintro e w6 ⟨rfl, hb6⟩; have HB6 : Hid (Below w.heap.size w w6) := hid (HB5.out.trans (hb6.mono HB5.out.size)); obtain ⟨s0, s1⟩ := HS.out w6 HB6.out; clear hb6)
        | (refine (ieq_yes a4 a5 m d4 d5 (by omega) zs w4 HR4.out (HR5.out.below HC4.out)).mono ?_; rintro e w6 ⟨rfl, hb6⟩; have HB6 : Hid (Below w.heap.size w w6) := hid (HB4.out.trans (hb6.mono HB4.out.size)); obtain ⟨s0, s1⟩ := HS.out w6 HB6.out; clear hb6))
    | fail)
  all_goals
    go_wp2_with fail
    go_ret
    exact ⟨rfl, HB6.out⟩

end Go.Proofs.YtliekndkjjaldaaGreat

/- Without defects links are how many names there are, and a marked block is a file's; links grow by one a call at most. -/
namespace Go.Proofs.YtliekndkjjaldaaGreat
set_option linter.unusedVariables false

/-- What is true without defects. -/
structure FSh (F : Fs) : Prop where
  d : F.d = 0
  l : ∀ i, i ≠ 1 → (F.P i).l = (nmc F.P i 17 : Int)
  T : ∀ b, F.T b = true → ∃ i, b ∈ (F.P i).B

theorem dfc_0_1 : dfc 0 1 = false := by decide
theorem dfc_0_2 : dfc 0 2 = false := by decide
theorem dfc_0_4 : dfc 0 4 = false := by decide

theorem rootF_sh : FSh (rootF 0) := by
  refine ⟨rfl, fun i hi => ?_, fun b hb => ?_⟩
  · have e : ∀ j, ((rootF 0).P j).Q = [] := fun j => by
      show (if j = 1 then Fn.nu 2 else Fn.no).Q = []
      split <;> rfl
    have e2 : ((rootF 0).P i).l = 0 := by
      show (if i = 1 then Fn.nu 2 else Fn.no).l = 0
      rw [if_neg hi]; rfl
    rw [e2]
    have : ∀ m, nmc (rootF 0).P i m = 0 := by
      intro m
      induction m with
      | zero => rfl
      | succ m ih => unfold nmc; rw [ih, e m]; rfl
    rw [this 17]; rfl
  · simp [rootF] at hb

theorem FSh.relB_T {F : Fs} (H : FSh F) (B : List Nat) (b : Nat) (h : (F.relB B).T b = true) : b ∉ B ∧ F.T b = true := by
  unfold Fs.relB at h
  rw [if_neg (by rw [H.d, dfc_0_2]; simp)] at h
  dsimp only at h
  split at h
  · simp at h
  · exact ⟨by assumption, h⟩

/-- A link less, where it was one too many. -/
theorem fsh_less {F : Fs} (d : F.d = 0) (n : Nat) (hn : n ≠ 1) (hl : ∀ i, i ≠ 1 → (F.P i).l = (nmc F.P i 17 : Int) + if i = n then 1 else 0) (hT : ∀ b, F.T b = true → ∃ i, b ∈ (F.P i).B) (hQ : (F.P n).Q = []) : FSh (F.less n) := by
  rw [less_eq]
  split
  · refine ⟨d, fun i hi => ?_, fun b hb => ?_⟩
    · have en : nmc (F.lnk n ((F.P n).l - 1)).P i 17 = nmc F.P i 17 := nmc_same i 17 (fun j _ => Fs.at_f Fn.Q F n { F.P n with l := (F.P n).l - 1 } rfl j)
      rw [en]
      unfold Fs.lnk
      rw [Fs.at_P]
      have := hl i hi
      split
      · rename_i e; subst e
        rw [if_pos rfl] at this
        show (F.P i).l - 1 = _
        omega
      · rename_i e
        rw [if_neg e] at this
        omega
    · obtain ⟨i, hi⟩ := hT b hb
      refine ⟨i, ?_⟩
      have : ((F.lnk n ((F.P n).l - 1)).P i).B = (F.P i).B := Fs.at_f Fn.B F n { F.P n with l := (F.P n).l - 1 } rfl i
      rw [this]; exact hi
  · rename_i hh
    have eP : ∀ j, (((F.relB (F.P n).B).at_ n Fn.no).P j) = if j = n then Fn.no else F.P j := fun j => by rw [Fs.at_P, relB_P]
    refine ⟨by show (F.relB _).d = 0; rw [relB_d]; exact d, fun i hi => ?_, fun b hb => ?_⟩
    · have en : nmc ((F.relB (F.P n).B).at_ n Fn.no).P i 17 = nmc F.P i 17 := nmc_same i 17 (fun j _ => by
        rw [eP]; split
        · rename_i e; subst e; rw [hQ]; rfl
        · rfl)
      rw [en, eP]
      have := hl i hi
      split
      · rename_i e; subst e
        rw [if_pos rfl] at this
        show (0 : Int) = _
        omega
      · rename_i e
        rw [if_neg e] at this
        omega
    · have hb' : (F.relB (F.P n).B).T b = true := hb
      unfold Fs.relB at hb'
      rw [if_neg (by rw [d, dfc_0_2]; simp)] at hb'
      dsimp only at hb'
      split at hb'
      · simp at hb'
      · rename_i hnb
        obtain ⟨i, hi⟩ := hT b hb'
        refine ⟨i, ?_⟩
        rw [eP, if_neg (fun e => hnb (by rw [← e]; exact hi))]
        exact hi

theorem FSh.make {F : Fs} (S : FSh F) (H : FOk F) (l : List UInt8) (kind : Int) : FSh (F.make l kind).1 := by
  unfold Fs.make
  split
  · exact S
  split
  · exact S
  rename_i y s n hw
  have W := H.walk_ok hw
  split
  · exact S
  rename_i hn
  split
  · exact S
  split
  · exact S
  rename_i hf
  obtain ⟨f1, f2, f3⟩ := Fs.free_lt hf
  have h0 := H.none _ f3
  have hf1 : F.free ≠ 1 := fun e => by have := H.root; rw [e] at f3; omega
  have en : ∀ i, nmc (F.at_ F.free (Fn.nu kind)).P i 17 = nmc F.P i 17 := fun i => nmc_same _ 17 (fun j _ => Fs.at_f Fn.Q F F.free _ (by rw [h0]; rfl) j)
  have hz : nmc F.P F.free 17 = 0 := by
    have := H.li F.free hf1
    rw [h0] at this
    simp only [Fn.no] at this
    omega
  refine ⟨S.d, fun i hi => ?_, fun b hb => ?_⟩
  · rw [nmc_addn _ W.lt.2, en, Fs.addn_P]
    dsimp only
    rw [Fs.at_P]
    by_cases e : i = F.free
    · rw [if_pos e, if_pos e.symm, e, hz]; rfl
    · rw [if_neg e, if_neg (fun q => e q.symm), S.l i hi]; simp
  · obtain ⟨i, hi⟩ := S.T b hb
    refine ⟨i, ?_⟩
    rw [Fs.addn_P]
    dsimp only
    rw [Fs.at_P]
    split
    · rename_i e; rw [e, h0] at hi; simp [Fn.no] at hi
    · exact hi

theorem FSh.deln_less {F : Fs} (S : FSh F) (H : FOk F) {y : List Nat} {s : List UInt8} {n : Nat} (W : Wlk F y s n) (hn : n ≠ 0) (hQ : (F.P n).Q = []) : FSh ((F.deln (Fs.dirOf y) s).less n) := by
  obtain ⟨n1, n17, nk⟩ := W.to hn
  have hnz : lk (F.P (Fs.dirOf y)).Q s ≠ 0 := by rw [← W.nn]; exact hn
  refine fsh_less (F := F.deln (Fs.dirOf y) s) S.d n (by omega) (fun i hi => ?_) (fun b hb => ?_) ?_
  · have hc := nmc_deln H (Fs.dirOf y) W.lt.2 s hnz i
    rw [← W.nn] at hc
    have e : ((F.deln (Fs.dirOf y) s).P i).l = (F.P i).l := by rw [Fs.deln_P]
    rw [e, S.l i hi]
    by_cases q : i = n
    · rw [if_pos q]; rw [if_pos q.symm] at hc; omega
    · rw [if_neg q]; rw [if_neg (fun h => q h.symm)] at hc; omega
  · obtain ⟨i, hi⟩ := S.T b hb
    exact ⟨i, by rw [Fs.deln_P]; exact hi⟩
  · rw [deln_Q]; split
    · rename_i e; subst e; rw [hQ]; rfl
    · exact hQ

theorem FSh.unlink {F : Fs} (S : FSh F) (H : FOk F) (l : List UInt8) : FSh (F.unlink l).1 := by
  unfold Fs.unlink
  split
  · exact S
  rename_i y s n hw
  have W := H.walk_ok hw
  split
  · exact S
  rename_i hn
  split
  · exact S
  rename_i hk
  split
  · rename_i h; rw [S.d, dfc_0_1] at h; simp at h
  · exact S.deln_less H W hn (H.file n hk)
theorem FSh.rmdir {F : Fs} (S : FSh F) (H : FOk F) (l : List UInt8) : FSh (F.rmdir l).1 := by
  unfold Fs.rmdir
  split
  · exact S
  rename_i y s n hw
  have W := H.walk_ok hw
  split
  · exact S
  rename_i hn
  split
  · exact S
  split
  · exact S
  rename_i hs
  have hs : F.stays n = 0 := Decidable.not_not.1 hs
  unfold Fs.stays at hs
  split at hs
  · simp at hs
  rename_i hq
  exact S.deln_less H W hn (List.eq_nil_of_length_eq_zero (by omega))

theorem FSh.link {F : Fs} (S : FSh F) (H : FOk F) (l m : List UInt8) : FSh (F.link l m).1 := by
  unfold Fs.link
  split
  · exact S
  rename_i h0
  split
  · exact S
  rename_i hk
  split
  · exact S
  rename_i y s n hw
  have W := H.walk_ok hw
  split
  · exact S
  split
  · exact S
  generalize (F.find l).1 = q at *
  have en : ∀ i, nmc (F.lnk q ((F.P q).l + 1)).P i 17 = nmc F.P i 17 := fun i => nmc_same _ 17 (fun j _ => by rw [Fs.lnk_P])
  refine ⟨S.d, fun i hi => ?_, fun b hb => ?_⟩
  · rw [nmc_addn _ W.lt.2, en, Fs.addn_P]
    dsimp only
    rw [Fs.lnk_P]
    dsimp only
    by_cases e : i = q
    · subst e; rw [if_pos rfl, if_pos rfl, S.l i hi]; omega
    · rw [if_neg e, if_neg (fun h => e h.symm), S.l i hi]; simp
  · obtain ⟨i, hi⟩ := S.T b hb
    exact ⟨i, by rw [Fs.addn_P]; dsimp only; rw [Fs.lnk_P]; exact hi⟩

theorem FSh.rename {F : Fs} (S : FSh F) (H : FOk F) (l m : List UInt8) : FSh (F.rename l m).1 := by
  unfold Fs.rename
  split
  · exact S
  rename_i y s n hw
  have W := H.walk_ok hw
  split
  · exact S
  rename_i hn
  split
  · exact S
  rename_i y2 s2 n2 hw2
  have W2 := H.walk_ok hw2
  split
  · exact S
  rename_i hnn
  split
  · exact S
  rename_i hov
  split
  · exact S
  rename_i hr
  split
  · exact S
  rename_i hf
  obtain ⟨h1, h2, h3⟩ := H.moved W W2 hn hnn hr hf
  have hnz : lk (F.P (Fs.dirOf y)).Q s ≠ 0 := by rw [← W.nn]; exact hn
  have hD := H.deln (Fs.dirOf y) s W.k
  have hq : lk ((F.deln (Fs.dirOf y) s).P (Fs.dirOf y2)).Q s2 = n2 := by
    rw [deln_Q]
    split
    · rename_i ed
      rw [lk_del]
      split
      · rename_i es
        have a := W.nn
        have b := W2.nn
        rw [ed, es, ← a] at b
        exact absurd b hnn
      · rw [← ed]; exact W2.nn.symm
    · exact W2.nn.symm
  have hc : ∀ i, nmc (((F.deln (Fs.dirOf y) s).deln (Fs.dirOf y2) s2).addn (Fs.dirOf y2) s2 n).P i 17 + (if n2 ≠ 0 ∧ n2 = i then 1 else 0) = nmc F.P i 17 := fun i => by
    rw [nmc_addn _ W2.lt.2]
    have a := nmc_deln H (Fs.dirOf y) W.lt.2 s hnz i
    rw [← W.nn] at a
    by_cases e0 : n2 = 0
    · have hz : (if n2 ≠ 0 ∧ n2 = i then 1 else 0 : Nat) = 0 := if_neg (fun q => q.1 e0)
      rw [deln_none hD _ _ (by rw [hq]; exact e0), hz]
      omega
    · have b := nmc_deln hD (Fs.dirOf y2) W2.lt.2 s2 (by rw [hq]; exact e0) i
      rw [hq] at b
      by_cases e1 : n2 = i
      · have hz : (if n2 ≠ 0 ∧ n2 = i then 1 else 0 : Nat) = 1 := if_pos ⟨e0, e1⟩
        rw [hz]; rw [if_pos e1] at b; omega
      · have hz : (if n2 ≠ 0 ∧ n2 = i then 1 else 0 : Nat) = 0 := if_neg (fun q => e1 q.2)
        rw [hz]; rw [if_neg e1] at b; omega
  have hT : ∀ b, F.T b = true → ∃ i, b ∈ ((((F.deln (Fs.dirOf y) s).deln (Fs.dirOf y2) s2).addn (Fs.dirOf y2) s2 n).P i).B := fun b hb => by
    obtain ⟨i, hi⟩ := S.T b hb
    exact ⟨i, by rw [h3 i]; exact hi⟩
  split
  · rename_i h4
    obtain ⟨h4, _⟩ := h4
    have ho : F.over n n2 = 0 := Decidable.not_not.1 (fun q => hov ⟨h4, q⟩)
    obtain ⟨q1, q2⟩ := H.over_ok ho
    obtain ⟨m1, m17, mk⟩ := W2.to h4
    have hQ : ((((F.deln (Fs.dirOf y) s).deln (Fs.dirOf y2) s2).addn (Fs.dirOf y2) s2 n).P n2).Q = [] := by
      have hne : n2 ≠ Fs.dirOf y2 := fun e => by
        have := lk_mem (Q := (F.P (Fs.dirOf y2)).Q) (s := s2) (by rw [← W2.nn]; exact h4)
        rw [← e, q1] at this; simp at this
      unfold Fs.addn Fs.nq
      rw [Fs.at_ne _ _ _ _ hne]
      refine List.eq_nil_iff_forall_not_mem.2 (fun x hx => ?_)
      have := deln_sub F _ _ n2 x (deln_sub (F.deln (Fs.dirOf y) s) _ _ n2 x hx)
      rw [q1] at this; simp at this
    refine fsh_less (F := ((F.deln (Fs.dirOf y) s).deln (Fs.dirOf y2) s2).addn (Fs.dirOf y2) s2 n) S.d n2 (by omega) (fun i hi => ?_) hT hQ
    have := hc i
    have h3l : ((((F.deln (Fs.dirOf y) s).deln (Fs.dirOf y2) s2).addn (Fs.dirOf y2) s2 n).P i).l = (F.P i).l := by rw [h3 i]
    rw [h3l, S.l i hi]
    by_cases e : i = n2
    · rw [if_pos e]
      have hz : (if n2 ≠ 0 ∧ n2 = i then 1 else 0 : Nat) = 1 := if_pos ⟨h4, e.symm⟩
      rw [hz] at this; omega
    · rw [if_neg e]
      have hz : (if n2 ≠ 0 ∧ n2 = i then 1 else 0 : Nat) = 0 := if_neg (fun q => e q.2.symm)
      rw [hz] at this; omega
  · rename_i h4
    have h40 : n2 = 0 := by
      by_cases e : n2 = 0
      · exact e
      · exact absurd ⟨e, by rw [S.d]; exact dfc_0_4⟩ h4
    show FSh (((F.deln (Fs.dirOf y) s).deln (Fs.dirOf y2) s2).addn (Fs.dirOf y2) s2 n)
    refine ⟨S.d, fun i hi => ?_, hT⟩
    have := hc i
    have hz : (if n2 ≠ 0 ∧ n2 = i then 1 else 0 : Nat) = 0 := if_neg (fun q => q.1 h40)
    rw [hz] at this
    have h3l : ((((F.deln (Fs.dirOf y) s).deln (Fs.dirOf y2) s2).addn (Fs.dirOf y2) s2 n).P i).l = (F.P i).l := by rw [h3 i]
    rw [h3l, S.l i hi]
    omega

theorem FSh.hld {F : Fs} (S : FSh F) (q : Nat) (h : Int) : FSh (F.hld q h) := by
  refine ⟨S.d, fun i hi => ?_, fun b hb => ?_⟩
  · have en : nmc (F.hld q h).P i 17 = nmc F.P i 17 := nmc_same _ 17 (fun j _ => by rw [Fs.hld_P])
    rw [en, Fs.hld_P]; exact S.l i hi
  · obtain ⟨i, hi⟩ := S.T b hb
    exact ⟨i, by rw [Fs.hld_P]; exact hi⟩
theorem FSh.hold {F : Fs} (S : FSh F) (n : Int) : FSh (F.hold n).1 := by
  unfold Fs.hold
  split
  · exact S
  split
  · exact S
  exact S.hld _ _
theorem FSh.drop {F : Fs} (S : FSh F) (H : FOk F) (n : Int) : FSh (F.drop n).1 := by
  unfold Fs.drop
  split
  · exact S
  split
  · exact S
  generalize n.toNat = q at *
  dsimp only
  rw [gone_hld]
  split
  · exact S.hld _ _
  · rename_i hh
    have hl0 : ¬ 0 < (F.P q).l := fun e => hh (.inl e)
    have hq1 : q ≠ 1 := fun e => by have := (H.dir q (by rw [e]; exact H.root)).2.2; omega
    have hk : (F.P q).k ≠ 2 := fun e => by have := (H.dir q e).2.2; omega
    have hQ := H.file q hk
    have eP : ∀ j, (((F.relB (F.P q).B).at_ q Fn.no).P j) = if j = q then Fn.no else F.P j := fun j => by rw [Fs.at_P, relB_P]
    refine ⟨by show (F.relB _).d = 0; rw [relB_d]; exact S.d, fun i hi => ?_, fun b hb => ?_⟩
    · have en : nmc ((F.relB (F.P q).B).at_ q Fn.no).P i 17 = nmc F.P i 17 := nmc_same i 17 (fun j _ => by
        rw [eP]; split
        · rename_i e; subst e; rw [hQ]; rfl
        · rfl)
      rw [en, eP]
      have := S.l i hi
      split
      · rename_i e; subst e
        show (0 : Int) = _
        omega
      · exact this
    · obtain ⟨h1, h2⟩ := S.relB_T _ _ hb
      obtain ⟨i, hi⟩ := S.T b h2
      refine ⟨i, ?_⟩
      rw [eP, if_neg (fun e => h1 (by rw [← e]; exact hi))]
      exact hi

theorem FSh.with_ {F : Fs} (S : FSh F) (n : Nat) (c : List Int) (B : List Nat) (T : Nat → Bool) (hT : ∀ b, T b = true → b ∈ B ∨ (F.T b = true ∧ (b ∈ (F.P n).B → b ∈ B))) : FSh (F.with_ n c B T) := by
  refine ⟨S.d, fun i hi => ?_, fun b hb => ?_⟩
  · have en : nmc (F.with_ n c B T).P i 17 = nmc F.P i 17 := nmc_same _ 17 (fun j _ => by rw [Fs.with_P]; split <;> simp [*])
    rw [en, Fs.with_P]
    split
    · rename_i e; subst e; exact S.l i hi
    · exact S.l i hi
  · rcases hT b hb with h | ⟨h1, h2⟩
    · exact ⟨n, by rw [Fs.with_P, if_pos rfl]; exact h⟩
    · obtain ⟨i, hi⟩ := S.T b h1
      refine ⟨i, ?_⟩
      rw [Fs.with_P]
      split
      · rename_i e; subst e; exact h2 hi
      · exact hi
theorem FSh.grown {F : Fs} (S : FSh F) (n s : Nat) (c : List Int) : FSh ((F.grow n s).ct n c) := by
  rw [grow_ct]
  refine S.with_ n _ _ _ (fun b hb => ?_)
  split at hb
  · exact .inl (List.mem_append.2 (.inr (by assumption)))
  · exact .inr ⟨hb, fun q => List.mem_append.2 (.inl q)⟩
theorem FSh.write {F : Fs} (S : FSh F) (n off : Int) (b : List Int) : FSh (F.write n off b).1 := by
  unfold Fs.write
  split
  · exact S
  split
  · exact S
  split
  · exact S
  split
  · exact S
  split
  · exact S
  exact S.grown _ _ _
theorem FSh.resize {F : Fs} (S : FSh F) (H : FOk F) (n z : Int) : FSh (F.resize n z).1 := by
  unfold Fs.resize
  split
  · exact S
  split
  · exact S
  split
  · exact S
  split
  · generalize n.toNat = q at *
    have hP : (F.relB ((F.P q).B.drop (Fs.need z.toNat))).P = F.P := relB_P _ _
    have e : (F.relB ((F.P q).B.drop (Fs.need z.toNat))).at_ q { F.P q with c := (F.P q).c.take z.toNat, B := (F.P q).B.take (Fs.need z.toNat) } = F.with_ q ((F.P q).c.take z.toNat) ((F.P q).B.take (Fs.need z.toNat)) (F.relB ((F.P q).B.drop (Fs.need z.toNat))).T := by
      unfold Fs.with_ Fs.at_
      rw [hP, relB_d]
    show FSh ((F.relB ((F.P q).B.drop (Fs.need z.toNat))).at_ q _)
    rw [e]
    refine S.with_ q _ _ _ (fun b hb => ?_)
    obtain ⟨h1, h2⟩ := S.relB_T _ _ hb
    refine .inr ⟨h2, fun h => ?_⟩
    rw [← List.take_append_drop (Fs.need z.toNat) (F.P q).B] at h
    exact (List.mem_append.1 h).resolve_right h1
  · split
    · exact S
    exact S.grown _ _ _

/-- Links are at most so many. -/
def LB (F : Fs) (m : Int) : Prop := ∀ i, (F.P i).l ≤ m
theorem LB.mono {F : Fs} {m m' : Int} (h : LB F m) (k : m ≤ m') : LB F m' := fun i => Int.le_trans (h i) k
theorem LB.root (d : Int) : LB (rootF d) 1 := fun i => by
  show (if i = 1 then Fn.nu 2 else Fn.no).l ≤ 1
  split
  · exact Int.le_refl 1
  · show (0 : Int) ≤ 1; omega
theorem LB.less {F : Fs} {m : Int} (h : LB F m) (h0 : 0 ≤ m) (n : Nat) : LB (F.less n) m := fun i => by
  rw [less_eq]
  split
  · rw [Fs.lnk_P]
    dsimp only
    have := h i
    split
    · rename_i e; subst e; omega
    · exact this
  · rw [Fs.at_P, relB_P]
    split
    · exact h0
    · exact h i
theorem LB.deln {F : Fs} {m : Int} (h : LB F m) (dr : Nat) (s : List UInt8) : LB (F.deln dr s) m := fun i => by rw [Fs.deln_P]; exact h i
theorem LB.addn {F : Fs} {m : Int} (h : LB F m) (dr : Nat) (s : List UInt8) (n : Nat) : LB (F.addn dr s n) m := fun i => by rw [Fs.addn_P]; exact h i
theorem LB.make {F : Fs} {m : Int} (h : LB F m) (h1 : 1 ≤ m) (l : List UInt8) (kind : Int) : LB (F.make l kind).1 m := by
  unfold Fs.make
  split
  · exact h
  split
  · exact h
  split
  · exact h
  split
  · exact h
  split
  · exact h
  refine LB.addn (fun i => ?_) _ _ _
  rw [Fs.at_P]
  split
  · exact h1
  · exact h i
theorem LB.unlink {F : Fs} {m : Int} (h : LB F m) (h1 : 1 ≤ m) (l : List UInt8) : LB (F.unlink l).1 m := by
  unfold Fs.unlink
  split
  · exact h
  split
  · exact h
  split
  · exact h
  split
  · exact h.deln _ _
  · exact (h.deln _ _).less (by omega) _
theorem LB.rmdir {F : Fs} {m : Int} (h : LB F m) (h1 : 1 ≤ m) (l : List UInt8) : LB (F.rmdir l).1 m := by
  unfold Fs.rmdir
  split
  · exact h
  split
  · exact h
  split
  · exact h
  split
  · exact h
  exact (h.deln _ _).less (by omega) _
theorem LB.link {F : Fs} {m : Int} (h : LB F m) (l l2 : List UInt8) : LB (F.link l l2).1 (m + 1) := by
  have h' : LB F (m + 1) := h.mono (by omega)
  unfold Fs.link
  split
  · exact h'
  split
  · exact h'
  split
  · exact h'
  split
  · exact h'
  split
  · exact h'
  refine LB.addn (fun i => ?_) _ _ _
  rw [Fs.lnk_P]
  dsimp only
  split
  · have := h (F.find l).1; omega
  · exact h' i
theorem LB.rename {F : Fs} {m : Int} (h : LB F m) (h1 : 1 ≤ m) (l l2 : List UInt8) : LB (F.rename l l2).1 m := by
  unfold Fs.rename
  split
  · exact h
  split
  · exact h
  split
  · exact h
  split
  · exact h
  split
  · exact h
  split
  · exact h
  split
  · exact h
  split
  · exact (((h.deln _ _).deln _ _).addn _ _ _).less (by omega) _
  · exact ((h.deln _ _).deln _ _).addn _ _ _
theorem LB.at_ {F : Fs} {m : Int} (h : LB F m) (n : Nat) (x : Fn) (hx : x.l ≤ m) : LB (F.at_ n x) m := fun i => by
  rw [Fs.at_P]; split
  · exact hx
  · exact h i
theorem LB.hold {F : Fs} {m : Int} (h : LB F m) (n : Int) : LB (F.hold n).1 m := by
  unfold Fs.hold
  split
  · exact h
  split
  · exact h
  exact h.at_ _ _ (h _)
theorem LB.drop {F : Fs} {m : Int} (h : LB F m) (h1 : 1 ≤ m) (n : Int) : LB (F.drop n).1 m := by
  unfold Fs.drop
  split
  · exact h
  split
  · exact h
  dsimp only
  rw [gone_hld]
  split
  · exact h.at_ _ _ (h _)
  · refine LB.at_ (fun i => ?_) _ _ (by show (0 : Int) ≤ m; omega)
    rw [relB_P]; exact h i
theorem LB.grown {F : Fs} {m : Int} (h : LB F m) (n s : Nat) (c : List Int) : LB ((F.grow n s).ct n c) m := fun i => by
  rw [grow_ct, Fs.with_P]
  split
  · exact h n
  · exact h i
theorem LB.write {F : Fs} {m : Int} (h : LB F m) (n off : Int) (b : List Int) : LB (F.write n off b).1 m := by
  unfold Fs.write
  split
  · exact h
  split
  · exact h
  split
  · exact h
  split
  · exact h
  split
  · exact h
  exact h.grown _ _ _
theorem LB.resize {F : Fs} {m : Int} (h : LB F m) (n z : Int) : LB (F.resize n z).1 m := by
  unfold Fs.resize
  split
  · exact h
  split
  · exact h
  split
  · exact h
  split
  · refine LB.at_ (fun i => ?_) _ _ (h _)
    rw [relB_P]; exact h i
  · split
    · exact h
    exact h.grown _ _ _

end Go.Proofs.YtliekndkjjaldaaGreat

/- What bytes.Equal does with bytes that are the same: it tells so; nothing turns. -/
namespace Go.Proofs.YtliekndkjjaldaaGreat
open Go.RowKit
set_option maxRecDepth 20000

/-- Bytes, turned into a text. -/
theorem Src.convert {P : Program} {w : World} {a0 : Option Addr} {len : Nat} {zs : List Int} (h : Src w a0 len zs) (c : Nat) (src e dst : TypeId)
    (hs : P.underlying src = some (.slice e)) (he : P.underlying e = some (.int .u8)) (hd : P.underlying dst = some .string) :
    (convert src dst (.slice a0 len c)).run P w = .ok (.string (strOfNums zs)) w := by
  rcases Nat.eq_zero_or_pos len with h0 | h0
  · subst h0
    obtain rfl : zs = [] := List.eq_nil_of_length_eq_zero h.1
    cases a0 with
    | none =>
      rw [run_convert_bytes_nil w src e hs he 0 c dst hd]
      rfl
    | some a =>
      rw [run_convert_bytes_string w src dst e _ 0 c hs he hd, run_bytesToString w _ 0 c [] (by rfl)]
      rfl
  · obtain ⟨b, o, rfl, _, hc⟩ := h.2 h0
    exact run_convert_bytes_arg (P := P) w src e hs he b o len c zs h.1 hc dst hd

set_option maxHeartbeats 400000 in
theorem equal_yes (a0 a1 : Option Addr) (n c m d : Nat) (xs : List Int) (w : World) (h0 : Src w a0 n xs) (h1 : Src w a1 m xs) :
    Calls Tryz.prog 33 #[.slice a0 n c, .slice a1 m d] w fun e w' => e = .returned (.bool true) ∧ w' = w := by
  have e0 := h0.convert (P := Tryz.prog) c 30 5 9 Tryz.underlying30 Tryz.underlying5 Tryz.underlying9
  have e1 := h1.convert (P := Tryz.prog) d 30 5 9 Tryz.underlying30 Tryz.underlying5 Tryz.underlying9
  obtain ⟨S, gS⟩ : ∃ S, S = strOfNums xs := ⟨_, rfl⟩
  rw [← gS] at e0 e1
  clear gS h0 h1
  go_enter Tryz.func33, Tryz.ntmps33
  go_wp2
  go_ret
  exact ⟨rfl, rfl⟩

end Go.Proofs.YtliekndkjjaldaaGreat
