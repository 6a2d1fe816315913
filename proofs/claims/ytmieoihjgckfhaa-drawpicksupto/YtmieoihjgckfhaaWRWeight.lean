/- How much a call is wanted behind another one: what the document's Weight answers. -/
import Derived.Test.YtmieoihjgckfhaaWRWeight0
namespace Go.Proofs.Ytmieoihjgckfhaa
open Go.RowKit Go.Lib
set_option linter.unusedVariables false
set_option maxRecDepth 20000

set_option maxHeartbeats 16000000 in
theorem rweight_neg (w : World) (p : Nat) (a0 : Option Addr) (m c : Nat) (a2 : Option Addr) (m2 c2 : Nat) (pa : Option Addr) (pn pc : Nat) (l : List Ty) (q : List Cl) (P : List (List Int)) (L : Nat) (hR : Rc w p a0 m c a2 m2 c2 pa pn pc l q P) (hL : ∀ p ∈ P, p.length ≤ L) (hLn : pn * L + L ≤ 4611686018427387904) (hpn : pn ≤ 1099511627776) (a : Int) (b : Nat) (ha : a < 0) (hb : b < q.length) :
    Calls Try.prog 19 #[.pointer (some ⟨p, 0, none⟩), .int .i64 a, .int .i64 (b : Int)] w fun e w' => e = .returned (.int .i64 (1 + 2 * ((min (tmA P a (b : Int) pn) 10 : Nat) : Int))) ∧ Below w.heap.size w w' := by
  have hpl : p < w.heap.size := (Array.getElem?_eq_some_iff.1 hR.blk).1
  have p1 : w.cell? ⟨p, 1, none⟩ = some (.slice a2 m2 c2) := cell_of_row _ _ 1 _ _ _ hR.blk
  have p2 : w.cell? ⟨p, 2, none⟩ = some (.slice pa pn pc) := cell_of_row _ _ 2 _ _ _ hR.blk
  have k1 := hid (rcalls w p a2 m2 c2 p1)
  have hql := hR.ql
  have hqb := hR.qb
  have HPR := hid hR.pr
  have HLL := hid hL
  have HBV : Hid (Below w.heap.size w w) := hid (Below.refl _ _)
  have h1 : ¬ (b : Int) < 0 := by omega
  have h2 : ¬ (m2 : Int) ≤ (b : Int) := by omega
  have h3 : ¬ (m2 : Int) ≤ a := by omega
  have h4 : ¬ 0 ≤ a := by omega
  clear hR hL hb
  go_enter Try.func19, Try.ntmps19
  go_wp2_with fail
  refine k1.out.mono ?_
  rintro e w1 ⟨rfl, rfl⟩
  clear k1
  rename World => w
  go_wp2_with fail
  go_loopw [9, 65] (fun v k wr => ∃ (j tv : Nat), j ≤ pn ∧ k = .int .i64 j ∧ v = .int .i64 (tv : Int) ∧ Hid (tv = tmA P a (b : Int) j) ∧ Hid (Below w.heap.size w wr)) (fun _ k _ => pn - (intOf k).toNat)
  case atStart => exact ⟨0, 0, by omega, rfl, rfl, hid rfl, HBV⟩
  case round =>
    obtain ⟨j, tv, hj, rfl, rfl, HTV, HW⟩ := hrel
    rename World => wr
    by_cases hjl : j < pn
    · obtain ⟨pb, po, rfl, hpb, hpc⟩ := HPR.out.2 (by omega)
      obtain ⟨sa, sn, sc, hcell0, hst⟩ := hpc j hjl
      have hcell : wr.cell? ⟨pb, po + j, none⟩ = some (.slice sa sn sc) := (HW.out.cell (p := ⟨pb, po + j, none⟩) hpb).trans hcell0
      have HST := hid hst
      have hsn : sn ≤ L := by
        rw [← hst.1]
        by_cases hq : j < P.length
        · rw [List.getD_eq_getElem?_getD, List.getElem?_eq_getElem hq]; exact HLL.out _ (List.getElem_mem hq)
        · rw [List.getD_eq_getElem?_getD, List.getElem?_eq_none (by omega)]; exact Nat.zero_le _
      have HBD : Hid (tmA P a (b : Int) j ≤ 4611686018427387904 - L ∧ ∀ i, tmU (P.getD j []) a (b : Int) i ≤ i) := hid ⟨by have h1 := tmA_le P a (b : Int) HLL.out j; have h2 : j * L ≤ pn * L := Nat.mul_le_mul_right _ (by omega); omega, tmU_le _ _ _⟩
      have hji : (j : Int) < (pn : Int) := by omega
      clear hpc hcell0 hst
      go_wp2_with fail
      go_loopw [9, 71] (fun v k wz => ∃ (i tv : Nat), i ≤ sn ∧ k = .int .i64 i ∧ v = .int .i64 (tv : Int) ∧ Hid (tv = tmA P a (b : Int) j + tmU (P.getD j []) a (b : Int) i) ∧ Hid (Below w.heap.size w wz)) (fun _ k _ => sn - (intOf k).toNat)
      case atStart => exact ⟨0, tv, by omega, rfl, rfl, hid (by rw [HTV.out]; rfl), HW⟩
      case round =>
        obtain ⟨i, tv, hi, rfl, rfl, HTV, HI⟩ := hrel
        rename World => wz
        by_cases hil : i < sn
        · obtain ⟨b0, o0, rfl, hbl, hcs⟩ := HST.out.2 (by omega)
          have fz : ∀ x, wz.cell? ⟨b0, x, none⟩ = w.cell? ⟨b0, x, none⟩ := fun x => HI.out.cell (p := ⟨b0, x, none⟩) hbl
          obtain ⟨hci0, xa, xn, xc, hcj0⟩ := hcs i hil
          have hci : wz.cell? ⟨b0, o0 + i * 2, none⟩ = some (.int .i64 ((P.getD j []).getD i 0)) := (fz _).trans hci0
          have hcj : wz.cell? ⟨b0, o0 + i * 2 + 1, none⟩ = some (.slice xa xn xc) := (fz _).trans hcj0
          have HPr : Hid (0 < i → (wz.alloc (.cells #[.int .i64 ((P.getD j []).getD i 0), .slice xa xn xc] 80)).cell? ⟨b0, o0 + (i - 1) * 2, none⟩ = some (.int .i64 ((P.getD j []).getD (i - 1) 0))) := hid fun h => ((below_box wz _).cell (p := ⟨b0, o0 + (i - 1) * 2, none⟩) (Nat.lt_of_lt_of_le hbl HI.out.size)).trans ((fz _).trans (hcs (i - 1) (by omega)).1)
          have HTM : Hid ((hit a (b : Int) i ((P.getD j []).getD (i - 1) 0) ((P.getD j []).getD i 0) = true → tmU (P.getD j []) a (b : Int) (i + 1) = tmU (P.getD j []) a (b : Int) i + 1) ∧ (hit a (b : Int) i ((P.getD j []).getD (i - 1) 0) ((P.getD j []).getD i 0) = false → tmU (P.getD j []) a (b : Int) (i + 1) = tmU (P.getD j []) a (b : Int) i)) := hid ⟨tm_true _ _ _ _, tm_false _ _ _ _⟩
          generalize (P.getD j []).getD i 0 = k at hci HPr HTM
          generalize (P.getD j []).getD (i - 1) 0 = pv at HPr HTM
          have HBX : Hid (Below w.heap.size w (wz.alloc (.cells #[.int .i64 k, .slice xa xn xc] 80))) := hid (HI.out.trans ((below_box wz _).mono HI.out.size))
          have htv := HTV.out
          have hB1 := HBD.out.1
          have hB2 := HBD.out.2 i
          have htvb : tv ≤ 4611686018427387904 := by omega
          have hwr : IntKind.i64.wrap ((tv : Int) + 1) = (tv : Int) + 1 := by rw [IntKind.wrap_i64]; omega
          have hili : (i : Int) < (sn : Int) := by omega
          clear hcs hci0 hcj0 fz htv hB1 hB2
          by_cases h0 : i = 0
          · have hd1 : decide (0 < i) = false := decide_eq_false (by omega)
            have hd2 : ((i : Int) == 0) = true := by simpa using h0
            have HH0 := hid h0
            clear h0
            by_cases hk : k = (b : Int)
            · have HN := hid (HTM.out.1 (by simp only [hit, Bool.and_eq_true, Bool.or_eq_true, decide_eq_true_eq]; exact ⟨hk, .inl ⟨HH0.out, ha⟩⟩))
              clear HTM
              rw [hk] at HBX
              go_wp2_with fail
              go_roundw
              case rel => exact ⟨i + 1, tv + 1, by omega, by go_num, by go_num, hid (by rw [HN.out, HTV.out]; omega), HBX⟩
              case measure => simp [intOf]; omega
            · have HN := hid (HTM.out.2 (by simp only [hit, Bool.and_eq_false_iff, Bool.or_eq_false_iff, decide_eq_false_iff_not]; exact .inl hk))
              clear HTM
              go_wp2_with fail
              go_roundw
              case rel => exact ⟨i + 1, tv, by omega, by go_num, rfl, hid (by rw [HN.out, HTV.out]), HBX⟩
              case measure => simp [intOf]; omega
          · have hi0 : 0 < i := by omega
            have hi0' : (0 : Int) < (i : Int) := by omega
            have hi1 : ¬ (i : Int) = 0 := by omega
            have hpv := HPr.out hi0
            by_cases hk : k = (b : Int)
            · have HN := hid (HTM.out.2 (by simp only [hit, Bool.and_eq_false_iff, Bool.or_eq_false_iff, decide_eq_false_iff_not]; exact .inr ⟨by omega, by omega⟩))
              clear HTM
              rw [hk] at HBX
              go_wp2_with fail
              go_roundw
              case rel => exact ⟨i + 1, tv, by omega, by go_num, rfl, hid (by rw [HN.out, HTV.out]), HBX⟩
              case measure => simp [intOf]; omega
            · have HN := hid (HTM.out.2 (by simp only [hit, Bool.and_eq_false_iff, Bool.or_eq_false_iff, decide_eq_false_iff_not]; exact .inl hk))
              clear HTM
              go_wp2_with fail
              go_roundw
              case rel => exact ⟨i + 1, tv, by omega, by go_num, rfl, hid (by rw [HN.out, HTV.out]), HBX⟩
              case measure => simp [intOf]; omega
        · have hie : i = sn := by omega
          have hge : ¬ (i : Int) < (sn : Int) := by omega
          have HN : Hid (tv = tmA P a (b : Int) (j + 1)) := hid (by rw [HTV.out, hie]; show _ = _ + _; rw [HST.out.1])
          clear hie
          go_wp2_with fail
          go_roundw
          case rel => exact ⟨j + 1, tv, by omega, by go_num, rfl, HN, HI⟩
          case measure => simp [intOf]; omega
    · have hje : j = pn := by omega
      have hgj : ¬ (j : Int) < (pn : Int) := by omega
      have HF : Hid (tmA P a (b : Int) pn = tv) := hid (by rw [HTV.out, hje])
      clear hje
      by_cases hf : tv ≤ 10
      · have g1 : (tv : Int) ≤ 10 := by omega
        have g2 : ¬ (10 : Int) < (tv : Int) := by omega
        have g3 : IntKind.i64.wrap (2 * (tv : Int)) = 2 * (tv : Int) := by rw [IntKind.wrap_i64]; omega
        have g4 : IntKind.i64.wrap (1 + 2 * (tv : Int)) = 1 + 2 * (tv : Int) := by rw [IntKind.wrap_i64]; omega
        have HG : Hid ((min (tmA P a (b : Int) pn) 10 : Nat) = tv) := hid (by rw [HF.out]; omega)
        go_wp2_with fail
        go_ret
        exact ⟨by rw [HG.out]; rfl, HW.out⟩
      · have g1 : ¬ (tv : Int) ≤ 10 := by omega
        have g2 : (10 : Int) < (tv : Int) := by omega
        have HG : Hid ((min (tmA P a (b : Int) pn) 10 : Nat) = 10) := hid (by rw [HF.out]; omega)
        go_wp2_with fail
        go_ret
        exact ⟨by rw [HG.out]; rfl, HW.out⟩

set_option maxHeartbeats 16000000 in
theorem rweight_pos (w : World) (p : Nat) (a0 : Option Addr) (m c : Nat) (a2 : Option Addr) (m2 c2 : Nat) (pa : Option Addr) (pn pc : Nat) (l : List Ty) (q : List Cl) (P : List (List Int)) (L : Nat) (hR : Rc w p a0 m c a2 m2 c2 pa pn pc l q P) (hL : ∀ p ∈ P, p.length ≤ L) (hLn : pn * L + L ≤ 4611686018427387904) (hpn : pn ≤ 1099511627776) (a b : Nat) (ha : a < q.length) (hb : b < q.length) (hcb : ∀ C ∈ q, C.an ≤ 4398046511104) :
    Calls Try.prog 19 #[.pointer (some ⟨p, 0, none⟩), .int .i64 (a : Int), .int .i64 (b : Int)] w fun e w' => e = .returned (.int .i64 ((if (decide (q[a].rt ≠ ⟨#[]⟩) && (takes l q[b].ags).any (fun t => decide (q[a].rt = t))) = true then 5 else 1) + 2 * ((min (tmA P (a : Int) (b : Int) pn) 10 : Nat) : Int))) ∧ Below w.heap.size w w' := by
  have hpl : p < w.heap.size := (Array.getElem?_eq_some_iff.1 hR.blk).1
  have p1 : w.cell? ⟨p, 1, none⟩ = some (.slice a2 m2 c2) := cell_of_row _ _ 1 _ _ _ hR.blk
  have p2 : w.cell? ⟨p, 2, none⟩ = some (.slice pa pn pc) := cell_of_row _ _ 2 _ _ _ hR.blk
  have k1 := hid (rcalls w p a2 m2 c2 p1)
  have hql := hR.ql
  have hqb := hR.qb
  have HPR := hid hR.pr
  have HLL := hid hL
  obtain ⟨cb, co, e2, hcl, hcc⟩ := hR.cl (by omega)
  have hCA := (hcc a ha).1
  have kT := hid (rtakes_any w p a0 m c a2 m2 c2 pa pn pc l q P hR b hb (hcb _ (List.getElem_mem hb)) q[a].rt)
  have q4 : w.cell? ⟨cb, co + a * 5 + 4, none⟩ = some (.string q[a].rt) := hCA.c4
  rw [e2] at p1
  have hai : (a : Int) < (m2 : Int) := by omega
  have h1 : ¬ (b : Int) < 0 := by omega
  have h2 : ¬ (m2 : Int) ≤ (b : Int) := by omega
  have h3 : ¬ (m2 : Int) ≤ (a : Int) := by omega
  have h4 : (0 : Int) ≤ (a : Int) := by omega
  have hd1 : decide ((b : Int) < 0) = false := decide_eq_false h1
  have hd2 : decide (m2 ≤ b) = false := decide_eq_false (by omega)
  have hd3 : decide (m2 ≤ a) = false := decide_eq_false (by omega)
  generalize q[a].rt = rt at kT q4 ⊢
  generalize (takes l q[b].ags).any (fun t => decide (rt = t)) = r at kT ⊢
  clear hR hL hcc hCA hcb
  by_cases h0 : rt = ⟨#[]⟩
  · subst h0
    have e : (decide ((⟨#[]⟩ : ByteArray) ≠ ⟨#[]⟩) && r) = false := by simp
    rw [e]
    have HBV : Hid (Below w.heap.size w w) := hid (Below.refl _ _)
    simp only [Bool.false_eq_true, if_false]
    clear kT e
    go_enter Try.func19, Try.ntmps19
    go_wp2_with fail
    refine k1.out.mono ?_
    rintro e w1 ⟨rfl, rfl⟩
    clear k1
    rename World => w
    go_wp2_with fail
    go_loopw [9, 65] (fun v k wr => ∃ (j tv : Nat), j ≤ pn ∧ k = .int .i64 j ∧ v = .int .i64 (tv : Int) ∧ Hid (tv = tmA P (a : Int) (b : Int) j) ∧ Hid (Below w.heap.size w wr)) (fun _ k _ => pn - (intOf k).toNat)
    case atStart => exact ⟨0, 0, by omega, rfl, rfl, hid rfl, HBV⟩
    case round =>
      obtain ⟨j, tv, hj, rfl, rfl, HTV, HW⟩ := hrel
      rename World => wr
      by_cases hjl : j < pn
      · obtain ⟨pb, po, rfl, hpb, hpc⟩ := HPR.out.2 (by omega)
        obtain ⟨sa, sn, sc, hcell0, hst⟩ := hpc j hjl
        have hcell : wr.cell? ⟨pb, po + j, none⟩ = some (.slice sa sn sc) := (HW.out.cell (p := ⟨pb, po + j, none⟩) hpb).trans hcell0
        have HST := hid hst
        have hsn : sn ≤ L := by
          rw [← hst.1]
          by_cases hq : j < P.length
          · rw [List.getD_eq_getElem?_getD, List.getElem?_eq_getElem hq]; exact HLL.out _ (List.getElem_mem hq)
          · rw [List.getD_eq_getElem?_getD, List.getElem?_eq_none (by omega)]; exact Nat.zero_le _
        have HBD : Hid (tmA P (a : Int) (b : Int) j ≤ 4611686018427387904 - L ∧ ∀ i, tmU (P.getD j []) (a : Int) (b : Int) i ≤ i) := hid ⟨by have h1 := tmA_le P (a : Int) (b : Int) HLL.out j; have h2 : j * L ≤ pn * L := Nat.mul_le_mul_right _ (by omega); omega, tmU_le _ _ _⟩
        have hji : (j : Int) < (pn : Int) := by omega
        clear hpc hcell0 hst
        go_wp2_with fail
        go_loopw [9, 71] (fun v k wz => ∃ (i tv : Nat), i ≤ sn ∧ k = .int .i64 i ∧ v = .int .i64 (tv : Int) ∧ Hid (tv = tmA P (a : Int) (b : Int) j + tmU (P.getD j []) (a : Int) (b : Int) i) ∧ Hid (Below w.heap.size w wz)) (fun _ k _ => sn - (intOf k).toNat)
        case atStart => exact ⟨0, tv, by omega, rfl, rfl, hid (by rw [HTV.out]; rfl), HW⟩
        case round =>
          obtain ⟨i, tv, hi, rfl, rfl, HTV, HI⟩ := hrel
          rename World => wz
          by_cases hil : i < sn
          · obtain ⟨b0, o0, rfl, hbl, hcs⟩ := HST.out.2 (by omega)
            have fz : ∀ x, wz.cell? ⟨b0, x, none⟩ = w.cell? ⟨b0, x, none⟩ := fun x => HI.out.cell (p := ⟨b0, x, none⟩) hbl
            obtain ⟨hci0, xa, xn, xc, hcj0⟩ := hcs i hil
            have hci : wz.cell? ⟨b0, o0 + i * 2, none⟩ = some (.int .i64 ((P.getD j []).getD i 0)) := (fz _).trans hci0
            have hcj : wz.cell? ⟨b0, o0 + i * 2 + 1, none⟩ = some (.slice xa xn xc) := (fz _).trans hcj0
            have HPr : Hid (0 < i → (wz.alloc (.cells #[.int .i64 ((P.getD j []).getD i 0), .slice xa xn xc] 80)).cell? ⟨b0, o0 + (i - 1) * 2, none⟩ = some (.int .i64 ((P.getD j []).getD (i - 1) 0))) := hid fun h => ((below_box wz _).cell (p := ⟨b0, o0 + (i - 1) * 2, none⟩) (Nat.lt_of_lt_of_le hbl HI.out.size)).trans ((fz _).trans (hcs (i - 1) (by omega)).1)
            have HTM : Hid ((hit (a : Int) (b : Int) i ((P.getD j []).getD (i - 1) 0) ((P.getD j []).getD i 0) = true → tmU (P.getD j []) (a : Int) (b : Int) (i + 1) = tmU (P.getD j []) (a : Int) (b : Int) i + 1) ∧ (hit (a : Int) (b : Int) i ((P.getD j []).getD (i - 1) 0) ((P.getD j []).getD i 0) = false → tmU (P.getD j []) (a : Int) (b : Int) (i + 1) = tmU (P.getD j []) (a : Int) (b : Int) i)) := hid ⟨tm_true _ _ _ _, tm_false _ _ _ _⟩
            generalize (P.getD j []).getD i 0 = k at hci HPr HTM
            generalize (P.getD j []).getD (i - 1) 0 = pv at HPr HTM
            have HBX : Hid (Below w.heap.size w (wz.alloc (.cells #[.int .i64 k, .slice xa xn xc] 80))) := hid (HI.out.trans ((below_box wz _).mono HI.out.size))
            have htv := HTV.out
            have hB1 := HBD.out.1
            have hB2 := HBD.out.2 i
            have htvb : tv ≤ 4611686018427387904 := by omega
            have hwr : IntKind.i64.wrap ((tv : Int) + 1) = (tv : Int) + 1 := by rw [IntKind.wrap_i64]; omega
            have hili : (i : Int) < (sn : Int) := by omega
            clear hcs hci0 hcj0 fz htv hB1 hB2
            by_cases h0 : i = 0
            · have hd1 : decide (0 < i) = false := decide_eq_false (by omega)
              have hd2 : ((i : Int) == 0) = true := by simpa using h0
              have HH0 := hid h0
              clear h0
              by_cases hk : k = (b : Int)
              · have HN := hid (HTM.out.2 (by simp only [hit, Bool.and_eq_false_iff, Bool.or_eq_false_iff, decide_eq_false_iff_not]; exact .inr ⟨by have := HH0.out; omega, by have := HH0.out; omega⟩))
                clear HTM
                rw [hk] at HBX
                go_wp2_with fail
                go_roundw
                case rel => exact ⟨i + 1, tv, by omega, by go_num, rfl, hid (by rw [HN.out, HTV.out]), HBX⟩
                case measure => simp [intOf]; omega
              · have HN := hid (HTM.out.2 (by simp only [hit, Bool.and_eq_false_iff, Bool.or_eq_false_iff, decide_eq_false_iff_not]; exact .inl hk))
                clear HTM
                go_wp2_with fail
                go_roundw
                case rel => exact ⟨i + 1, tv, by omega, by go_num, rfl, hid (by rw [HN.out, HTV.out]), HBX⟩
                case measure => simp [intOf]; omega
            · have hi0 : 0 < i := by omega
              have hi0' : (0 : Int) < (i : Int) := by omega
              have hi1 : ¬ (i : Int) = 0 := by omega
              have hpv := HPr.out hi0
              by_cases hk : k = (b : Int)
              · by_cases hp : pv = (a : Int)
                · have HN := hid (HTM.out.1 (by simp only [hit, Bool.and_eq_true, Bool.or_eq_true, decide_eq_true_eq]; exact ⟨hk, .inr ⟨hi0, by omega, hp⟩⟩))
                  clear HTM
                  rw [hk] at HBX
                  rw [hk] at hpv
                  go_wp2_with fail
                  go_roundw
                  case rel => exact ⟨i + 1, tv + 1, by omega, by go_num, by go_num, hid (by rw [HN.out, HTV.out]; omega), HBX⟩
                  case measure => simp [intOf]; omega
                · have HN := hid (HTM.out.2 (by simp only [hit, Bool.and_eq_false_iff, Bool.or_eq_false_iff, decide_eq_false_iff_not]; exact .inr ⟨by omega, by omega⟩))
                  clear HTM
                  rw [hk] at HBX
                  rw [hk] at hpv
                  go_wp2_with fail
                  go_roundw
                  case rel => exact ⟨i + 1, tv, by omega, by go_num, rfl, hid (by rw [HN.out, HTV.out]), HBX⟩
                  case measure => simp [intOf]; omega
              · by_cases hp : pv = (a : Int)
                · have HN := hid (HTM.out.2 (by simp only [hit, Bool.and_eq_false_iff, Bool.or_eq_false_iff, decide_eq_false_iff_not]; exact .inl hk))
                  clear HTM
                  go_wp2_with fail
                  go_roundw
                  case rel => exact ⟨i + 1, tv, by omega, by go_num, rfl, hid (by rw [HN.out, HTV.out]), HBX⟩
                  case measure => simp [intOf]; omega
                · have HN := hid (HTM.out.2 (by simp only [hit, Bool.and_eq_false_iff, Bool.or_eq_false_iff, decide_eq_false_iff_not]; exact .inl hk))
                  clear HTM
                  go_wp2_with fail
                  go_roundw
                  case rel => exact ⟨i + 1, tv, by omega, by go_num, rfl, hid (by rw [HN.out, HTV.out]), HBX⟩
                  case measure => simp [intOf]; omega
          · have hie : i = sn := by omega
            have hge : ¬ (i : Int) < (sn : Int) := by omega
            have HN : Hid (tv = tmA P (a : Int) (b : Int) (j + 1)) := hid (by rw [HTV.out, hie]; show _ = _ + _; rw [HST.out.1])
            clear hie
            go_wp2_with fail
            go_roundw
            case rel => exact ⟨j + 1, tv, by omega, by go_num, rfl, HN, HI⟩
            case measure => simp [intOf]; omega
      · have hje : j = pn := by omega
        have hgj : ¬ (j : Int) < (pn : Int) := by omega
        have HF : Hid (tmA P (a : Int) (b : Int) pn = tv) := hid (by rw [HTV.out, hje])
        clear hje
        by_cases hf : tv ≤ 10
        · have g1 : (tv : Int) ≤ 10 := by omega
          have g2 : ¬ (10 : Int) < (tv : Int) := by omega
          have g3 : IntKind.i64.wrap (2 * (tv : Int)) = 2 * (tv : Int) := by rw [IntKind.wrap_i64]; omega
          have g4 : IntKind.i64.wrap (1 + 2 * (tv : Int)) = 1 + 2 * (tv : Int) := by rw [IntKind.wrap_i64]; omega
          have HG : Hid ((min (tmA P (a : Int) (b : Int) pn) 10 : Nat) = tv) := hid (by rw [HF.out]; omega)
          go_wp2_with fail
          go_ret
          exact ⟨by rw [HG.out]; rfl, HW.out⟩
        · have g1 : ¬ (tv : Int) ≤ 10 := by omega
          have g2 : (10 : Int) < (tv : Int) := by omega
          have HG : Hid ((min (tmA P (a : Int) (b : Int) pn) 10 : Nat) = 10) := hid (by rw [HF.out]; omega)
          go_wp2_with fail
          go_ret
          exact ⟨by rw [HG.out]; rfl, HW.out⟩
  · have e : (decide (rt ≠ (⟨#[]⟩ : ByteArray)) && r) = r := by simp [h0]
    rw [e]
    have hrt : ¬ rt.toList = [] := fun q => by
      have := (bytes_beq_false_iff rt ⟨#[]⟩).2 h0
      rw [q] at this
      simp at this
    have hre : rt.toList.isEmpty = false := by
      cases h : rt.toList with
      | nil => exact absurd h hrt
      | cons _ _ => rfl
    clear e
    cases r with
    | false =>
      simp only [Bool.false_eq_true, if_false]
      go_enter Try.func19, Try.ntmps19
      go_wp2_with fail
      refine k1.out.mono ?_
      rintro e w1 ⟨rfl, rfl⟩
      clear k1
      rename World => w
      go_wp2_with fail
      refine kT.out.mono ?_
      rintro e wv ⟨rfl, hbv⟩
      have HBV := hid hbv
      have p2v : wv.cell? ⟨p, 2, none⟩ = some (.slice pa pn pc) := (hbv.cell (p := ⟨p, 2, none⟩) hpl).trans p2
      clear kT hbv
      go_wp2_with fail
      go_loopw [9, 65] (fun v k wr => ∃ (j tv : Nat), j ≤ pn ∧ k = .int .i64 j ∧ v = .int .i64 (tv : Int) ∧ Hid (tv = tmA P (a : Int) (b : Int) j) ∧ Hid (Below w.heap.size w wr)) (fun _ k _ => pn - (intOf k).toNat)
      case atStart => exact ⟨0, 0, by omega, rfl, rfl, hid rfl, HBV⟩
      case round =>
        obtain ⟨j, tv, hj, rfl, rfl, HTV, HW⟩ := hrel
        rename World => wr
        by_cases hjl : j < pn
        · obtain ⟨pb, po, rfl, hpb, hpc⟩ := HPR.out.2 (by omega)
          obtain ⟨sa, sn, sc, hcell0, hst⟩ := hpc j hjl
          have hcell : wr.cell? ⟨pb, po + j, none⟩ = some (.slice sa sn sc) := (HW.out.cell (p := ⟨pb, po + j, none⟩) hpb).trans hcell0
          have HST := hid hst
          have hsn : sn ≤ L := by
            rw [← hst.1]
            by_cases hq : j < P.length
            · rw [List.getD_eq_getElem?_getD, List.getElem?_eq_getElem hq]; exact HLL.out _ (List.getElem_mem hq)
            · rw [List.getD_eq_getElem?_getD, List.getElem?_eq_none (by omega)]; exact Nat.zero_le _
          have HBD : Hid (tmA P (a : Int) (b : Int) j ≤ 4611686018427387904 - L ∧ ∀ i, tmU (P.getD j []) (a : Int) (b : Int) i ≤ i) := hid ⟨by have h1 := tmA_le P (a : Int) (b : Int) HLL.out j; have h2 : j * L ≤ pn * L := Nat.mul_le_mul_right _ (by omega); omega, tmU_le _ _ _⟩
          have hji : (j : Int) < (pn : Int) := by omega
          clear hpc hcell0 hst
          go_wp2_with fail
          go_loopw [9, 71] (fun v k wz => ∃ (i tv : Nat), i ≤ sn ∧ k = .int .i64 i ∧ v = .int .i64 (tv : Int) ∧ Hid (tv = tmA P (a : Int) (b : Int) j + tmU (P.getD j []) (a : Int) (b : Int) i) ∧ Hid (Below w.heap.size w wz)) (fun _ k _ => sn - (intOf k).toNat)
          case atStart => exact ⟨0, tv, by omega, rfl, rfl, hid (by rw [HTV.out]; rfl), HW⟩
          case round =>
            obtain ⟨i, tv, hi, rfl, rfl, HTV, HI⟩ := hrel
            rename World => wz
            by_cases hil : i < sn
            · obtain ⟨b0, o0, rfl, hbl, hcs⟩ := HST.out.2 (by omega)
              have fz : ∀ x, wz.cell? ⟨b0, x, none⟩ = w.cell? ⟨b0, x, none⟩ := fun x => HI.out.cell (p := ⟨b0, x, none⟩) hbl
              obtain ⟨hci0, xa, xn, xc, hcj0⟩ := hcs i hil
              have hci : wz.cell? ⟨b0, o0 + i * 2, none⟩ = some (.int .i64 ((P.getD j []).getD i 0)) := (fz _).trans hci0
              have hcj : wz.cell? ⟨b0, o0 + i * 2 + 1, none⟩ = some (.slice xa xn xc) := (fz _).trans hcj0
              have HPr : Hid (0 < i → (wz.alloc (.cells #[.int .i64 ((P.getD j []).getD i 0), .slice xa xn xc] 80)).cell? ⟨b0, o0 + (i - 1) * 2, none⟩ = some (.int .i64 ((P.getD j []).getD (i - 1) 0))) := hid fun h => ((below_box wz _).cell (p := ⟨b0, o0 + (i - 1) * 2, none⟩) (Nat.lt_of_lt_of_le hbl HI.out.size)).trans ((fz _).trans (hcs (i - 1) (by omega)).1)
              have HTM : Hid ((hit (a : Int) (b : Int) i ((P.getD j []).getD (i - 1) 0) ((P.getD j []).getD i 0) = true → tmU (P.getD j []) (a : Int) (b : Int) (i + 1) = tmU (P.getD j []) (a : Int) (b : Int) i + 1) ∧ (hit (a : Int) (b : Int) i ((P.getD j []).getD (i - 1) 0) ((P.getD j []).getD i 0) = false → tmU (P.getD j []) (a : Int) (b : Int) (i + 1) = tmU (P.getD j []) (a : Int) (b : Int) i)) := hid ⟨tm_true _ _ _ _, tm_false _ _ _ _⟩
              generalize (P.getD j []).getD i 0 = k at hci HPr HTM
              generalize (P.getD j []).getD (i - 1) 0 = pv at HPr HTM
              have HBX : Hid (Below w.heap.size w (wz.alloc (.cells #[.int .i64 k, .slice xa xn xc] 80))) := hid (HI.out.trans ((below_box wz _).mono HI.out.size))
              have htv := HTV.out
              have hB1 := HBD.out.1
              have hB2 := HBD.out.2 i
              have htvb : tv ≤ 4611686018427387904 := by omega
              have hwr : IntKind.i64.wrap ((tv : Int) + 1) = (tv : Int) + 1 := by rw [IntKind.wrap_i64]; omega
              have hili : (i : Int) < (sn : Int) := by omega
              clear hcs hci0 hcj0 fz htv hB1 hB2
              by_cases h0 : i = 0
              · have hd1 : decide (0 < i) = false := decide_eq_false (by omega)
                have hd2 : ((i : Int) == 0) = true := by simpa using h0
                have HH0 := hid h0
                clear h0
                by_cases hk : k = (b : Int)
                · have HN := hid (HTM.out.2 (by simp only [hit, Bool.and_eq_false_iff, Bool.or_eq_false_iff, decide_eq_false_iff_not]; exact .inr ⟨by have := HH0.out; omega, by have := HH0.out; omega⟩))
                  clear HTM
                  rw [hk] at HBX
                  go_wp2_with fail
                  go_roundw
                  case rel => exact ⟨i + 1, tv, by omega, by go_num, rfl, hid (by rw [HN.out, HTV.out]), HBX⟩
                  case measure => simp [intOf]; omega
                · have HN := hid (HTM.out.2 (by simp only [hit, Bool.and_eq_false_iff, Bool.or_eq_false_iff, decide_eq_false_iff_not]; exact .inl hk))
                  clear HTM
                  go_wp2_with fail
                  go_roundw
                  case rel => exact ⟨i + 1, tv, by omega, by go_num, rfl, hid (by rw [HN.out, HTV.out]), HBX⟩
                  case measure => simp [intOf]; omega
              · have hi0 : 0 < i := by omega
                have hi0' : (0 : Int) < (i : Int) := by omega
                have hi1 : ¬ (i : Int) = 0 := by omega
                have hpv := HPr.out hi0
                by_cases hk : k = (b : Int)
                · by_cases hp : pv = (a : Int)
                  · have HN := hid (HTM.out.1 (by simp only [hit, Bool.and_eq_true, Bool.or_eq_true, decide_eq_true_eq]; exact ⟨hk, .inr ⟨hi0, by omega, hp⟩⟩))
                    clear HTM
                    rw [hk] at HBX
                    rw [hk] at hpv
                    go_wp2_with fail
                    go_roundw
                    case rel => exact ⟨i + 1, tv + 1, by omega, by go_num, by go_num, hid (by rw [HN.out, HTV.out]; omega), HBX⟩
                    case measure => simp [intOf]; omega
                  · have HN := hid (HTM.out.2 (by simp only [hit, Bool.and_eq_false_iff, Bool.or_eq_false_iff, decide_eq_false_iff_not]; exact .inr ⟨by omega, by omega⟩))
                    clear HTM
                    rw [hk] at HBX
                    rw [hk] at hpv
                    go_wp2_with fail
                    go_roundw
                    case rel => exact ⟨i + 1, tv, by omega, by go_num, rfl, hid (by rw [HN.out, HTV.out]), HBX⟩
                    case measure => simp [intOf]; omega
                · by_cases hp : pv = (a : Int)
                  · have HN := hid (HTM.out.2 (by simp only [hit, Bool.and_eq_false_iff, Bool.or_eq_false_iff, decide_eq_false_iff_not]; exact .inl hk))
                    clear HTM
                    go_wp2_with fail
                    go_roundw
                    case rel => exact ⟨i + 1, tv, by omega, by go_num, rfl, hid (by rw [HN.out, HTV.out]), HBX⟩
                    case measure => simp [intOf]; omega
                  · have HN := hid (HTM.out.2 (by simp only [hit, Bool.and_eq_false_iff, Bool.or_eq_false_iff, decide_eq_false_iff_not]; exact .inl hk))
                    clear HTM
                    go_wp2_with fail
                    go_roundw
                    case rel => exact ⟨i + 1, tv, by omega, by go_num, rfl, hid (by rw [HN.out, HTV.out]), HBX⟩
                    case measure => simp [intOf]; omega
            · have hie : i = sn := by omega
              have hge : ¬ (i : Int) < (sn : Int) := by omega
              have HN : Hid (tv = tmA P (a : Int) (b : Int) (j + 1)) := hid (by rw [HTV.out, hie]; show _ = _ + _; rw [HST.out.1])
              clear hie
              go_wp2_with fail
              go_roundw
              case rel => exact ⟨j + 1, tv, by omega, by go_num, rfl, HN, HI⟩
              case measure => simp [intOf]; omega
        · have hje : j = pn := by omega
          have hgj : ¬ (j : Int) < (pn : Int) := by omega
          have HF : Hid (tmA P (a : Int) (b : Int) pn = tv) := hid (by rw [HTV.out, hje])
          clear hje
          by_cases hf : tv ≤ 10
          · have g1 : (tv : Int) ≤ 10 := by omega
            have g2 : ¬ (10 : Int) < (tv : Int) := by omega
            have g3 : IntKind.i64.wrap (2 * (tv : Int)) = 2 * (tv : Int) := by rw [IntKind.wrap_i64]; omega
            have g4 : IntKind.i64.wrap (1 + 2 * (tv : Int)) = 1 + 2 * (tv : Int) := by rw [IntKind.wrap_i64]; omega
            have HG : Hid ((min (tmA P (a : Int) (b : Int) pn) 10 : Nat) = tv) := hid (by rw [HF.out]; omega)
            go_wp2_with fail
            go_ret
            exact ⟨by rw [HG.out]; rfl, HW.out⟩
          · have g1 : ¬ (tv : Int) ≤ 10 := by omega
            have g2 : (10 : Int) < (tv : Int) := by omega
            have HG : Hid ((min (tmA P (a : Int) (b : Int) pn) 10 : Nat) = 10) := hid (by rw [HF.out]; omega)
            go_wp2_with fail
            go_ret
            exact ⟨by rw [HG.out]; rfl, HW.out⟩
    | true =>
      simp only [if_true]
      go_enter Try.func19, Try.ntmps19
      go_wp2_with fail
      refine k1.out.mono ?_
      rintro e w1 ⟨rfl, rfl⟩
      clear k1
      rename World => w
      go_wp2_with fail
      refine kT.out.mono ?_
      rintro e wv ⟨rfl, hbv⟩
      have HBV := hid hbv
      have p2v : wv.cell? ⟨p, 2, none⟩ = some (.slice pa pn pc) := (hbv.cell (p := ⟨p, 2, none⟩) hpl).trans p2
      clear kT hbv
      go_wp2_with fail
      go_loopw [9, 65] (fun v k wr => ∃ (j tv : Nat), j ≤ pn ∧ k = .int .i64 j ∧ v = .int .i64 (tv : Int) ∧ Hid (tv = tmA P (a : Int) (b : Int) j) ∧ Hid (Below w.heap.size w wr)) (fun _ k _ => pn - (intOf k).toNat)
      case atStart => exact ⟨0, 0, by omega, rfl, rfl, hid rfl, HBV⟩
      case round =>
        obtain ⟨j, tv, hj, rfl, rfl, HTV, HW⟩ := hrel
        rename World => wr
        by_cases hjl : j < pn
        · obtain ⟨pb, po, rfl, hpb, hpc⟩ := HPR.out.2 (by omega)
          obtain ⟨sa, sn, sc, hcell0, hst⟩ := hpc j hjl
          have hcell : wr.cell? ⟨pb, po + j, none⟩ = some (.slice sa sn sc) := (HW.out.cell (p := ⟨pb, po + j, none⟩) hpb).trans hcell0
          have HST := hid hst
          have hsn : sn ≤ L := by
            rw [← hst.1]
            by_cases hq : j < P.length
            · rw [List.getD_eq_getElem?_getD, List.getElem?_eq_getElem hq]; exact HLL.out _ (List.getElem_mem hq)
            · rw [List.getD_eq_getElem?_getD, List.getElem?_eq_none (by omega)]; exact Nat.zero_le _
          have HBD : Hid (tmA P (a : Int) (b : Int) j ≤ 4611686018427387904 - L ∧ ∀ i, tmU (P.getD j []) (a : Int) (b : Int) i ≤ i) := hid ⟨by have h1 := tmA_le P (a : Int) (b : Int) HLL.out j; have h2 : j * L ≤ pn * L := Nat.mul_le_mul_right _ (by omega); omega, tmU_le _ _ _⟩
          have hji : (j : Int) < (pn : Int) := by omega
          clear hpc hcell0 hst
          go_wp2_with fail
          go_loopw [9, 71] (fun v k wz => ∃ (i tv : Nat), i ≤ sn ∧ k = .int .i64 i ∧ v = .int .i64 (tv : Int) ∧ Hid (tv = tmA P (a : Int) (b : Int) j + tmU (P.getD j []) (a : Int) (b : Int) i) ∧ Hid (Below w.heap.size w wz)) (fun _ k _ => sn - (intOf k).toNat)
          case atStart => exact ⟨0, tv, by omega, rfl, rfl, hid (by rw [HTV.out]; rfl), HW⟩
          case round =>
            obtain ⟨i, tv, hi, rfl, rfl, HTV, HI⟩ := hrel
            rename World => wz
            by_cases hil : i < sn
            · obtain ⟨b0, o0, rfl, hbl, hcs⟩ := HST.out.2 (by omega)
              have fz : ∀ x, wz.cell? ⟨b0, x, none⟩ = w.cell? ⟨b0, x, none⟩ := fun x => HI.out.cell (p := ⟨b0, x, none⟩) hbl
              obtain ⟨hci0, xa, xn, xc, hcj0⟩ := hcs i hil
              have hci : wz.cell? ⟨b0, o0 + i * 2, none⟩ = some (.int .i64 ((P.getD j []).getD i 0)) := (fz _).trans hci0
              have hcj : wz.cell? ⟨b0, o0 + i * 2 + 1, none⟩ = some (.slice xa xn xc) := (fz _).trans hcj0
              have HPr : Hid (0 < i → (wz.alloc (.cells #[.int .i64 ((P.getD j []).getD i 0), .slice xa xn xc] 80)).cell? ⟨b0, o0 + (i - 1) * 2, none⟩ = some (.int .i64 ((P.getD j []).getD (i - 1) 0))) := hid fun h => ((below_box wz _).cell (p := ⟨b0, o0 + (i - 1) * 2, none⟩) (Nat.lt_of_lt_of_le hbl HI.out.size)).trans ((fz _).trans (hcs (i - 1) (by omega)).1)
              have HTM : Hid ((hit (a : Int) (b : Int) i ((P.getD j []).getD (i - 1) 0) ((P.getD j []).getD i 0) = true → tmU (P.getD j []) (a : Int) (b : Int) (i + 1) = tmU (P.getD j []) (a : Int) (b : Int) i + 1) ∧ (hit (a : Int) (b : Int) i ((P.getD j []).getD (i - 1) 0) ((P.getD j []).getD i 0) = false → tmU (P.getD j []) (a : Int) (b : Int) (i + 1) = tmU (P.getD j []) (a : Int) (b : Int) i)) := hid ⟨tm_true _ _ _ _, tm_false _ _ _ _⟩
              generalize (P.getD j []).getD i 0 = k at hci HPr HTM
              generalize (P.getD j []).getD (i - 1) 0 = pv at HPr HTM
              have HBX : Hid (Below w.heap.size w (wz.alloc (.cells #[.int .i64 k, .slice xa xn xc] 80))) := hid (HI.out.trans ((below_box wz _).mono HI.out.size))
              have htv := HTV.out
              have hB1 := HBD.out.1
              have hB2 := HBD.out.2 i
              have htvb : tv ≤ 4611686018427387904 := by omega
              have hwr : IntKind.i64.wrap ((tv : Int) + 1) = (tv : Int) + 1 := by rw [IntKind.wrap_i64]; omega
              have hili : (i : Int) < (sn : Int) := by omega
              clear hcs hci0 hcj0 fz htv hB1 hB2
              by_cases h0 : i = 0
              · have hd1 : decide (0 < i) = false := decide_eq_false (by omega)
                have hd2 : ((i : Int) == 0) = true := by simpa using h0
                have HH0 := hid h0
                clear h0
                by_cases hk : k = (b : Int)
                · have HN := hid (HTM.out.2 (by simp only [hit, Bool.and_eq_false_iff, Bool.or_eq_false_iff, decide_eq_false_iff_not]; exact .inr ⟨by have := HH0.out; omega, by have := HH0.out; omega⟩))
                  clear HTM
                  rw [hk] at HBX
                  go_wp2_with fail
                  go_roundw
                  case rel => exact ⟨i + 1, tv, by omega, by go_num, rfl, hid (by rw [HN.out, HTV.out]), HBX⟩
                  case measure => simp [intOf]; omega
                · have HN := hid (HTM.out.2 (by simp only [hit, Bool.and_eq_false_iff, Bool.or_eq_false_iff, decide_eq_false_iff_not]; exact .inl hk))
                  clear HTM
                  go_wp2_with fail
                  go_roundw
                  case rel => exact ⟨i + 1, tv, by omega, by go_num, rfl, hid (by rw [HN.out, HTV.out]), HBX⟩
                  case measure => simp [intOf]; omega
              · have hi0 : 0 < i := by omega
                have hi0' : (0 : Int) < (i : Int) := by omega
                have hi1 : ¬ (i : Int) = 0 := by omega
                have hpv := HPr.out hi0
                by_cases hk : k = (b : Int)
                · by_cases hp : pv = (a : Int)
                  · have HN := hid (HTM.out.1 (by simp only [hit, Bool.and_eq_true, Bool.or_eq_true, decide_eq_true_eq]; exact ⟨hk, .inr ⟨hi0, by omega, hp⟩⟩))
                    clear HTM
                    rw [hk] at HBX
                    rw [hk] at hpv
                    go_wp2_with fail
                    go_roundw
                    case rel => exact ⟨i + 1, tv + 1, by omega, by go_num, by go_num, hid (by rw [HN.out, HTV.out]; omega), HBX⟩
                    case measure => simp [intOf]; omega
                  · have HN := hid (HTM.out.2 (by simp only [hit, Bool.and_eq_false_iff, Bool.or_eq_false_iff, decide_eq_false_iff_not]; exact .inr ⟨by omega, by omega⟩))
                    clear HTM
                    rw [hk] at HBX
                    rw [hk] at hpv
                    go_wp2_with fail
                    go_roundw
                    case rel => exact ⟨i + 1, tv, by omega, by go_num, rfl, hid (by rw [HN.out, HTV.out]), HBX⟩
                    case measure => simp [intOf]; omega
                · by_cases hp : pv = (a : Int)
                  · have HN := hid (HTM.out.2 (by simp only [hit, Bool.and_eq_false_iff, Bool.or_eq_false_iff, decide_eq_false_iff_not]; exact .inl hk))
                    clear HTM
                    go_wp2_with fail
                    go_roundw
                    case rel => exact ⟨i + 1, tv, by omega, by go_num, rfl, hid (by rw [HN.out, HTV.out]), HBX⟩
                    case measure => simp [intOf]; omega
                  · have HN := hid (HTM.out.2 (by simp only [hit, Bool.and_eq_false_iff, Bool.or_eq_false_iff, decide_eq_false_iff_not]; exact .inl hk))
                    clear HTM
                    go_wp2_with fail
                    go_roundw
                    case rel => exact ⟨i + 1, tv, by omega, by go_num, rfl, hid (by rw [HN.out, HTV.out]), HBX⟩
                    case measure => simp [intOf]; omega
            · have hie : i = sn := by omega
              have hge : ¬ (i : Int) < (sn : Int) := by omega
              have HN : Hid (tv = tmA P (a : Int) (b : Int) (j + 1)) := hid (by rw [HTV.out, hie]; show _ = _ + _; rw [HST.out.1])
              clear hie
              go_wp2_with fail
              go_roundw
              case rel => exact ⟨j + 1, tv, by omega, by go_num, rfl, HN, HI⟩
              case measure => simp [intOf]; omega
        · have hje : j = pn := by omega
          have hgj : ¬ (j : Int) < (pn : Int) := by omega
          have HF : Hid (tmA P (a : Int) (b : Int) pn = tv) := hid (by rw [HTV.out, hje])
          clear hje
          by_cases hf : tv ≤ 10
          · have g1 : (tv : Int) ≤ 10 := by omega
            have g2 : ¬ (10 : Int) < (tv : Int) := by omega
            have g3 : IntKind.i64.wrap (2 * (tv : Int)) = 2 * (tv : Int) := by rw [IntKind.wrap_i64]; omega
            have g4 : IntKind.i64.wrap (5 + 2 * (tv : Int)) = 5 + 2 * (tv : Int) := by rw [IntKind.wrap_i64]; omega
            have HG : Hid ((min (tmA P (a : Int) (b : Int) pn) 10 : Nat) = tv) := hid (by rw [HF.out]; omega)
            go_wp2_with fail
            go_ret
            exact ⟨by rw [HG.out]; rfl, HW.out⟩
          · have g1 : ¬ (tv : Int) ≤ 10 := by omega
            have g2 : (10 : Int) < (tv : Int) := by omega
            have HG : Hid ((min (tmA P (a : Int) (b : Int) pn) 10 : Nat) = 10) := hid (by rw [HF.out]; omega)
            go_wp2_with fail
            go_ret
            exact ⟨by rw [HG.out]; rfl, HW.out⟩

end Go.Proofs.Ytmieoihjgckfhaa
