/- The codec of a copy: made, what its Write writes, what its Read reads. -/
import Derived.Test.YtpbhcmfbcnihiaaGreatBWord
namespace Go.Proofs.YtpbhcmfbcnihiaaGreat
open Go.RowKit Num
set_option linter.unusedVariables false
set_option maxRecDepth 20000

theorem box_in {w w' : World} {o : Obj} (b : Below (w.alloc o).heap.size (w.alloc o) w') : Below w.heap.size w w' ∧ w'.heap[w.heap.size]? = some o ∧ w.heap.size < w'.heap.size :=
  ⟨(below_box w o).trans (b.mono (below_box w o).size), (b.block w.heap.size (by simp)).trans (heap1 w o), by have := b.size; simp at this; omega⟩

set_option maxHeartbeats 16000000 in
theorem copied_mk (w : World) : Calls Tryz.prog 55 #[] w fun e w' => ∃ q, e = .returned (.agg #[fv 110 #[pt q], fv 111 #[pt q]]) ∧ Wr w.heap.size w' CpAt eC okC 110 #[pt q] ∧ Rd w.heap.size w' 5 IsC rCp 111 #[pt q] ∧ Below w.heap.size w w' := by
  have k1 := hid (text_mk 2048)
  have k2 := hid (part_mk_cb 78 106 108 #[])
  have k3 := hid (number_mk 0)
  have k4 := hid (part_mk_cn 82 65 67)
  have k5 := hid whole_mk
  have k6 := hid (part_mk_cn 83 114 116 #[] #[])
  have k7 := hid join_mk_c
  have k9 := hid (part_mk_cn 85 65 67)
  have k10 := hid (number_mk 1)
  have k11 := hid (part_mk_cn 86 65 67)
  have k12 := hid (chosen_mk 88)
  go_enter Tryz.func55, Tryz.ntmps55
  go_wp2_with fail
  refine (k1.out _).mono ?_
  rintro e w1 ⟨qt, rfl, lt, ct, b1⟩
  simp at lt
  obtain ⟨B1, R1, s1⟩ := box_in b1
  have H1 := hid B1
  have HR := hid R1
  clear b1 B1 R1
  go_wp2_with fail
  refine (k2.out _ _).mono ?_
  rintro e w2 ⟨qL, pL, rfl, lL, lL', cL, cL', cL'', b2⟩
  have s2 := b2.size
  have H2 := hid b2
  clear b2
  go_wp2_with fail
  refine (k3.out _).mono ?_
  rintro e w3 ⟨qn, rfl, ln, cn, b3⟩
  simp at ln
  obtain ⟨B3, R3, s3⟩ := box_in b3
  have H3 := hid B3
  have G3 := hid R3
  clear b3 B3 R3
  go_wp2_with fail
  refine (k4.out _ _ _).mono ?_
  rintro e w4 ⟨qs, ps, rfl, ls, ls', cs, cs', cs'', b4⟩
  have s4 := b4.size
  have H4 := hid b4
  clear b4
  go_wp2_with fail
  refine (k5.out _).mono ?_
  rintro e w5 ⟨rfl, b5⟩
  have s5 := b5.size
  have H5 := hid b5
  clear b5
  go_wp2_with fail
  refine (k6.out _).mono ?_
  rintro e w6 ⟨qv, pv, rfl, lv, lv', cv, cv', cv'', b6⟩
  have s6 := b6.size
  have H6 := hid b6
  clear b6
  go_wp2_with fail
  refine (k7.out _ _ _ _).mono ?_
  rintro e w7 ⟨p1, rfl, l7, c7, b7⟩
  simp at l7
  obtain ⟨B7, R7, s7⟩ := box_in b7
  have H7 := hid B7
  have G7 := hid R7
  clear b7 B7 R7
  go_wp2_with fail
  refine (k3.out _).mono ?_
  rintro e w8 ⟨q8, rfl, l8, c8, b8⟩
  simp at l8
  obtain ⟨B8, R8, s8⟩ := box_in b8
  have H8 := hid B8
  have G8 := hid R8
  clear b8 B8 R8
  go_wp2_with fail
  refine (k9.out _ _ _).mono ?_
  rintro e w9 ⟨qa, pa, rfl, la, la', ca, ca', ca'', b9⟩
  have s9 := b9.size
  have H9 := hid b9
  clear b9
  go_wp2_with fail
  refine (k10.out _).mono ?_
  rintro e w10 ⟨q10, rfl, l10, c10, b10⟩
  have s10 := b10.size
  have H10 := hid b10
  clear b10
  go_wp2_with fail
  refine (k11.out _ _ _).mono ?_
  rintro e w11 ⟨qr, pr, rfl, lr, lr', cr, cr', cr'', b11⟩
  have s11 := b11.size
  have H11 := hid b11
  clear b11
  go_wp2_with fail
  refine (k12.out _ _).mono ?_
  rintro e w12 ⟨qc, rfl, lc, cc, b12⟩
  have s12 := b12.size
  have H12 := hid b12
  clear b12
  go_wp2_with fail
  refine (k7.out _ _ _ _).mono ?_
  rintro e w13 ⟨p, rfl, l13, c13, b13⟩
  simp at l13
  obtain ⟨B13, R13, s13⟩ := box_in b13
  have H13 := hid B13
  have G13 := hid R13
  clear b13 B13 R13
  have B12 := hid (H1.out.trans ((H2.out.trans ((H3.out.trans ((H4.out.trans ((H5.out.trans ((H6.out.trans ((H7.out.trans ((H8.out.trans ((H9.out.trans ((H10.out.trans ((H11.out.trans ((H12.out.trans (H13.out.mono H12.out.size)).mono H11.out.size)).mono H10.out.size)).mono H9.out.size)).mono H8.out.size)).mono H7.out.size)).mono H6.out.size)).mono H5.out.size)).mono H4.out.size)).mono H3.out.size)).mono H2.out.size)).mono H1.out.size))
  have hr13 := (H13.out.block w.heap.size (by omega)).trans ((H12.out.block w.heap.size (by omega)).trans ((H11.out.block w.heap.size (by omega)).trans ((H10.out.block w.heap.size (by omega)).trans ((H9.out.block w.heap.size (by omega)).trans ((H8.out.block w.heap.size (by omega)).trans ((H7.out.block w.heap.size (by omega)).trans ((H6.out.block w.heap.size (by omega)).trans ((H5.out.block w.heap.size (by omega)).trans ((H4.out.block w.heap.size (by omega)).trans ((H3.out.block w.heap.size (by omega)).trans ((H2.out.block w.heap.size (by omega)).trans HR.out)))))))))))
  obtain ⟨w14, e14⟩ : ∃ w14, w13.setCells w.heap.size 0 [fv 110 #[pt p], fv 111 #[pt p]] = w14 := ⟨_, rfl⟩
  have HE := hid (res_end (f := fv 110 #[pt p]) (g := fv 111 #[pt p]) B12.out hr13 e14)
  have HT := hid (there_of_block (C := [.nilFunc, .nilFunc]) hr13 0 2 (by simp))
  have E14 := hid e14
  have CC := hid (And.intro ct (And.intro cL (And.intro cL' (And.intro cL'' (And.intro cn (And.intro cs (And.intro cs' (And.intro cs'' (And.intro cv (And.intro cv' (And.intro cv'' c7)))))))))))
  have CD := hid (And.intro c8 (And.intro ca (And.intro ca' (And.intro ca'' (And.intro c10 (And.intro cr (And.intro cr' (And.intro cr'' (And.intro cc c13)))))))))
  clear hr13 e14 k1 k2 k3 k4 k5 k6 k7 k9 k10 k11 k12 ct cL cL' cL'' cn cs cs' cs'' cv cv' cv'' c7 c8 ca ca' ca'' c10 cr cr' cr'' cc c13
  go_wp2_with (refine wpList_store_as rfl 114 (.tmp 0) (.tmp 18) rfl w.heap.size 0 #[fv 110 #[pt p], fv 111 #[pt p]] rfl rfl HT.out csize114 (by simp [Value.oneCell']) w14 E14.out ?_)
  refine bodyPost_ret (cell_result rfl _ _ w.heap.size 0 rfl [fv 110 #[pt p], fv 111 #[pt p]] _ HE.out.1 Tryz.underlying114 rfl csize114) rfl ?_
  obtain ⟨ct, cL, cL', cL'', cn, cs, cs', cs'', cv, cv', cv'', c7⟩ := CC.out
  obtain ⟨c8, ca, ca', ca'', c10, cr, cr', cr'', cc, c13⟩ := CD.out
  have u13 := HE.out.2.1
  have up : ∀ {x y : World}, Below x.heap.size x y → Upd (fun k => k < w.heap.size + 1) y w14 → Upd (fun k => k < w.heap.size + 1) x w14 := fun hb hu => (Upd.of_below (F := fun k => k < w.heap.size + 1) hb).trans hu (fun _ _ h => h)
  have u12 := up H13.out u13
  have u11 := up H12.out u12
  have u10 := up H11.out u11
  have u9 := up H10.out u10
  have u8 := up H9.out u9
  have u7 := up H8.out u8
  have u6 := up H7.out u7
  have u5 := up H6.out u6
  have u4 := up H5.out u5
  have u3 := up H4.out u4
  have u2 := up H3.out u3
  have u1 := up H2.out u2
  have z1 := u1.size
  have z2 := u2.size
  have z3 := u3.size
  have z4 := u4.size
  have z6 := u6.size
  have z7 := u7.size
  have z8 := u8.size
  have z9 := u9.size
  have z10 := u10.size
  have z11 := u11.size
  have z12 := u12.size
  have z13 := u13.size
  have nt := text_rd 2048 w.heap.size qt w14 (by omega) ((u1.atc 0 lt.2 (by omega)).trans ct) (by omega)
  have wL := part_cb w.heap.size w14 qL pL (by omega) (by omega) #[] CpAt BsAt (fun c => c.bs) eT okT ((u2.atc 0 lL.2 (by omega)).trans cL) (by omega) ((u2.atc 0 lL'.2 (by omega)).trans cL'') (by omega) (fun _ _ _ _ _ h => h.2.2.2.2) (fun _ _ _ _ _ _ _ k h => BsAt.keep k h) (text_wr w.heap.size w14)
  have rL' := partr_cb w.heap.size w14 qL pL (by omega) (by omega) #[pt qt] 5 1 IsC IsB (fun c => c.bs) (fun c y => ⟨c.a, c.r, c.s, c.v, y⟩) (rT 2048) ((u2.atc 1 lL.2 (by omega)).trans cL') (by omega) ((u2.atc 0 lL'.2 (by omega)).trans cL'') (by omega) (by omega) (fun _ _ cs x h => by obtain ⟨u, h, hb⟩ := h; subst h; exact hb) (fun _ _ _ cs x y cs' h hk _ h' => by obtain ⟨u, h, hb⟩ := h; obtain ⟨a, n, c, h1, h2⟩ := h'; subst h; subst h1; exact ⟨_, rfl, a, n, c, rfl, h2⟩) (fun _ _ _ _ _ k h => IsC.keep k h) nt
  have n0 := number_wr 0 (.inl rfl) w.heap.size qn w14 (by omega) ((u3.atc 0 ln.2 (by omega)).trans cn) (by omega)
  have m0 := number_rd 0 (.inl rfl) w.heap.size qn w14 (by omega) ((u3.atc 0 ln.2 (by omega)).trans cn) (by omega)
  have wS := part_cs w.heap.size w14 qs ps (by omega) (by omega) #[pt qn] CpAt InAt (fun c => c.s) (eN 0) okI ((u4.atc 0 ls.2 (by omega)).trans cs) (by omega) ((u4.atc 0 ls'.2 (by omega)).trans cs'') (by omega) (fun _ _ _ _ _ h => h.2.2.1) (fun _ _ _ _ _ _ _ k h => InAt.keep k h) n0
  have rS' := partr_cs w.heap.size w14 qs ps (by omega) (by omega) #[pt qn] 5 1 IsC IsI (fun c => c.s) (fun c y => ⟨c.a, c.r, y, c.v, c.bs⟩) (rN 0) ((u4.atc 1 ls.2 (by omega)).trans cs') (by omega) ((u4.atc 0 ls'.2 (by omega)).trans cs'') (by omega) (by omega) (fun _ _ cs x h => by obtain ⟨u, h, hb⟩ := h; subst h; rfl) (fun _ _ _ cs x y cs' h hk _ h' => by obtain ⟨u, h, hb⟩ := h; unfold IsI at h'; subst h; subst h'; exact ⟨u, rfl, hb.keep hk⟩) (fun _ _ _ _ _ k h => IsC.keep k h) m0
  have wV := part_cv w.heap.size w14 qv pv (by omega) (by omega) #[] CpAt InAt (fun c => c.v) eS okI ((u6.atc 0 lv.2 (by omega)).trans cv) (by omega) ((u6.atc 0 lv'.2 (by omega)).trans cv'') (by omega) (fun _ _ _ _ _ h => h.2.2.2.1) (fun _ _ _ _ _ _ _ k h => InAt.keep k h) (whole_wr w.heap.size w14)
  have rV := partr_cv w.heap.size w14 qv pv (by omega) (by omega) #[] 5 1 IsC IsI (fun c => c.v) (fun c y => ⟨c.a, c.r, c.s, y, c.bs⟩) rS ((u6.atc 1 lv.2 (by omega)).trans cv') (by omega) ((u6.atc 0 lv'.2 (by omega)).trans cv'') (by omega) (by omega) (fun _ _ cs x h => by obtain ⟨u, h, hb⟩ := h; subst h; rfl) (fun _ _ _ cs x y cs' h hk _ h' => by obtain ⟨u, h, hb⟩ := h; unfold IsI at h'; subst h; subst h'; exact ⟨u, rfl, hb.keep hk⟩) (fun _ _ _ _ _ k h => IsC.keep k h) (whole_rd w.heap.size w14)
  obtain ⟨PS, gPS⟩ : ∃ PS : List (Pc Cp), PS = [⟨112, #[pt qs, pt ps], 113, #[pt qs, pt ps], fun c => eN 0 c.s, rP (fun c => c.s) (fun c y => ⟨c.a, c.r, y, c.v, c.bs⟩) (rN 0)⟩, ⟨112, #[pt qv, pt pv], 113, #[pt qv, pt pv], fun c => eS c.v, rP (fun c => c.v) (fun c y => ⟨c.a, c.r, c.s, y, c.bs⟩) rS⟩] := ⟨_, rfl⟩
  have hG7 := u7.heap G7.out (by omega)
  have hPcs : Pcs w14 w6.heap.size 0 PS := by
    subst gPS
    refine ⟨by omega, ?_⟩
    intro i hi
    match i, hi with
    | 0, _ => exact ⟨cell_of_row _ _ 0 _ _ _ hG7, cell_of_row _ _ 1 _ _ _ hG7⟩
    | 1, _ => exact ⟨cell_of_row _ _ 2 _ _ _ hG7, cell_of_row _ _ 3 _ _ _ hG7⟩
  have hW : ∀ P ∈ PS, Wr w.heap.size w14 CpAt P.en okC P.kw P.cw := by
    subst gPS
    intro P hP
    simp only [List.mem_cons, List.not_mem_nil, or_false] at hP
    rcases hP with rfl | rfl
    · exact wS.imp (fun _ h => h.2.2.1) (fun _ => rfl)
    · exact wV.imp (fun _ h => h.2.2.2.1) (fun _ => rfl)
  have hR : ∀ P ∈ PS, Rd w.heap.size w14 5 IsC P.rd P.kr P.cr := by
    subst gPS
    intro P hP
    simp only [List.mem_cons, List.not_mem_nil, or_false] at hP
    rcases hP with rfl | rfl
    · exact rS'
    · exact rV
  have c7' := (u7.atc 0 l7.2 (by omega)).trans c7
  have wRes := (join_c w.heap.size w14 p1 w6.heap.size 0 2 (by omega) (by omega) PS CpAt okC c7' (by omega) (by rw [gPS]; rfl) (by omega) hPcs hW (fun _ _ _ _ _ _ _ k h => CpAt.keep k h)).imp (en' := fun c => eN 0 c.s ++ eS c.v) (fun _ h => h) (fun x => by rw [gPS]; simp [enAll])
  have rRes' := (joinr_c w.heap.size w14 p1 w6.heap.size 0 2 (by omega) (by omega) PS 5 IsC c7' (by omega) (by rw [gPS]; rfl) (by omega) hPcs hR (fun _ _ _ _ _ k h => IsC.keep k h)).imp (rd' := rRes) (fun x zs => by rw [gPS]; rfl)
  have hb3 := u3.heap G3.out (by omega)
  have hb8 := u8.heap G8.out (by omega)
  have cc' := (u12.atc 0 lc.2 (by omega)).trans cc
  have wCh := chosen_wr w.heap.size w14 qc w2.heap.size w7.heap.size (by omega) (by omega) (by omega) #[pt qL, pt pL] #[pt qL, pt pL] #[pt p1] #[pt p1] 104 105 110 111 cc' (cell_of_row _ _ 0 _ _ _ hb3) (cell_of_row _ _ 1 _ _ _ hb3) (cell_of_row _ _ 0 _ _ _ hb8) (cell_of_row _ _ 1 _ _ _ hb8) _ _ _ _ wL wRes
  have rCh' := chosen_rd w.heap.size w14 qc w2.heap.size w7.heap.size (by omega) (by omega) (by omega) #[pt qL, pt pL] #[pt qL, pt pL] #[pt p1] #[pt p1] 104 105 110 111 cc' (cell_of_row _ _ 0 _ _ _ hb3) (cell_of_row _ _ 1 _ _ _ hb3) (cell_of_row _ _ 0 _ _ _ hb8) (cell_of_row _ _ 1 _ _ _ hb8) _ _ rL' rRes'
  have n8 := number_wr 0 (.inl rfl) w.heap.size q8 w14 (by omega) ((u8.atc 0 l8.2 (by omega)).trans c8) (by omega)
  have m8 := number_rd 0 (.inl rfl) w.heap.size q8 w14 (by omega) ((u8.atc 0 l8.2 (by omega)).trans c8) (by omega)
  have n10 := number_wr 1 (.inr rfl) w.heap.size q10 w14 (by omega) ((u10.atc 0 l10.2 (by omega)).trans c10) (by omega)
  have m10 := number_rd 1 (.inr rfl) w.heap.size q10 w14 (by omega) ((u10.atc 0 l10.2 (by omega)).trans c10) (by omega)
  have wA := part_ca w.heap.size w14 qa pa (by omega) (by omega) #[pt q8] CpAt InAt (fun c => c.a) (eN 0) okI ((u9.atc 0 la.2 (by omega)).trans ca) (by omega) ((u9.atc 0 la'.2 (by omega)).trans ca'') (by omega) (fun _ _ _ _ _ h => h.1) (fun _ _ _ _ _ _ _ k h => InAt.keep k h) n8
  have rA := partr_ca w.heap.size w14 qa pa (by omega) (by omega) #[pt q8] 5 1 IsC IsI (fun c => c.a) (fun c y => ⟨y, c.r, c.s, c.v, c.bs⟩) (rN 0) ((u9.atc 1 la.2 (by omega)).trans ca') (by omega) ((u9.atc 0 la'.2 (by omega)).trans ca'') (by omega) (by omega) (fun _ _ cs x h => by obtain ⟨u, h, hb⟩ := h; subst h; rfl) (fun _ _ _ cs x y cs' h hk _ h' => by obtain ⟨u, h, hb⟩ := h; unfold IsI at h'; subst h; subst h'; exact ⟨u, rfl, hb.keep hk⟩) (fun _ _ _ _ _ k h => IsC.keep k h) m8
  have wR := part_cr w.heap.size w14 qr pr (by omega) (by omega) #[pt q10] CpAt InAt (fun c => c.r) (eN 1) okI ((u11.atc 0 lr.2 (by omega)).trans cr) (by omega) ((u11.atc 0 lr'.2 (by omega)).trans cr'') (by omega) (fun _ _ _ _ _ h => h.2.1) (fun _ _ _ _ _ _ _ k h => InAt.keep k h) n10
  have rR := partr_cr w.heap.size w14 qr pr (by omega) (by omega) #[pt q10] 5 1 IsC IsI (fun c => c.r) (fun c y => ⟨c.a, y, c.s, c.v, c.bs⟩) (rN 1) ((u11.atc 1 lr.2 (by omega)).trans cr') (by omega) ((u11.atc 0 lr'.2 (by omega)).trans cr'') (by omega) (by omega) (fun _ _ cs x h => by obtain ⟨u, h, hb⟩ := h; subst h; rfl) (fun _ _ _ cs x y cs' h hk _ h' => by obtain ⟨u, h, hb⟩ := h; unfold IsI at h'; subst h; subst h'; exact ⟨u, rfl, hb.keep hk⟩) (fun _ _ _ _ _ k h => IsC.keep k h) m10
  obtain ⟨PT, gPT⟩ : ∃ PT : List (Pc Cp), PT = [⟨112, #[pt qa, pt pa], 113, #[pt qa, pt pa], fun c => eN 0 c.a, rP (fun c => c.a) (fun c y => ⟨y, c.r, c.s, c.v, c.bs⟩) (rN 0)⟩, ⟨112, #[pt qr, pt pr], 113, #[pt qr, pt pr], fun c => eN 1 c.r, rP (fun c => c.r) (fun c y => ⟨c.a, y, c.s, c.v, c.bs⟩) (rN 1)⟩, ⟨118, #[pt qc], 119, #[pt qc], eR, rCh rLaid rRes⟩] := ⟨_, rfl⟩
  have hG13 := u13.heap G13.out (by omega)
  have hPct : Pcs w14 w12.heap.size 0 PT := by
    subst gPT
    refine ⟨by omega, ?_⟩
    intro i hi
    match i, hi with
    | 0, _ => exact ⟨cell_of_row _ _ 0 _ _ _ hG13, cell_of_row _ _ 1 _ _ _ hG13⟩
    | 1, _ => exact ⟨cell_of_row _ _ 2 _ _ _ hG13, cell_of_row _ _ 3 _ _ _ hG13⟩
    | 2, _ => exact ⟨cell_of_row _ _ 4 _ _ _ hG13, cell_of_row _ _ 5 _ _ _ hG13⟩
  have hWt : ∀ P ∈ PT, Wr w.heap.size w14 CpAt P.en okC P.kw P.cw := by
    subst gPT
    intro P hP
    simp only [List.mem_cons, List.not_mem_nil, or_false] at hP
    rcases hP with rfl | rfl | rfl
    · exact wA.imp (fun _ h => h.1) (fun _ => rfl)
    · exact wR.imp (fun _ h => h.2.1) (fun _ => rfl)
    · exact wCh.imp (fun _ h => ⟨fun _ => h.2.2.2.2, fun _ => h⟩) (fun c => by unfold eR; rfl)
  have hRt : ∀ P ∈ PT, Rd w.heap.size w14 5 IsC P.rd P.kr P.cr := by
    subst gPT
    intro P hP
    simp only [List.mem_cons, List.not_mem_nil, or_false] at hP
    rcases hP with rfl | rfl | rfl
    · exact rA
    · exact rR
    · exact rCh'
  have cp := (u13.atc 0 l13.2 (by omega)).trans c13
  refine ⟨p, rfl, (join_c w.heap.size w14 p w12.heap.size 0 3 (by omega) (by omega) PT CpAt okC cp (by omega) (by rw [gPT]; rfl) (by omega) hPct hWt (fun _ _ _ _ _ _ _ k h => CpAt.keep k h)).imp (fun _ h => h) (fun x => by rw [gPT]; simp [enAll, eC]), (joinr_c w.heap.size w14 p w12.heap.size 0 3 (by omega) (by omega) PT 5 IsC cp (by omega) (by rw [gPT]; rfl) (by omega) hPct hRt (fun _ _ _ _ _ k h => IsC.keep k h)).imp (fun x zs => by rw [gPT]; rfl), HE.out.2.2⟩

end Go.Proofs.YtpbhcmfbcnihiaaGreat
