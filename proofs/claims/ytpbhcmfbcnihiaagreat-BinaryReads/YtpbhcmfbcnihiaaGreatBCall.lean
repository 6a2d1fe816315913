/- The codec of a call, and of a program: made, what their Write writes, what their Read reads. -/
import Derived.Test.YtpbhcmfbcnihiaaGreatBCopied
namespace Go.Proofs.YtpbhcmfbcnihiaaGreat
open Go.RowKit Num
set_option linter.unusedVariables false
set_option maxRecDepth 20000

set_option maxHeartbeats 16000000 in
theorem call_mk (w : World) : Calls Tryz.prog 36 #[] w fun e w' => ∃ q, e = .returned (.agg #[fv 69 #[pt q], fv 70 #[pt q]]) ∧ Wr w.heap.size w' ExAt eX okX 69 #[pt q] ∧ Rd w.heap.size w' 3 IsX rEx 70 #[pt q] ∧ Below w.heap.size w w' := by
  have k1 := hid (number_mk 0)
  have k2 := hid (part_mk_en 51 65 67)
  have k3 := hid copied_mk
  have k4 := hid (list_mk_c 400 110 111)
  have k5 := hid (part_mk_ec 53 75 76)
  have k6 := hid word_mk
  have k7 := hid (list_mk_w 6 120 121)
  have k8 := hid (part_mk_ew 57 91 92)
  have k9 := hid join_mk_e
  go_enter Tryz.func36, Tryz.ntmps36
  go_wp2_with fail
  refine (k1.out _).mono ?_
  rintro e w1 ⟨q1, rfl, l1, c1, b1⟩
  simp at l1
  obtain ⟨B1, R1, s1⟩ := box_in b1
  have H1 := hid B1
  have HR := hid R1
  clear b1 B1 R1
  go_wp2_with fail
  refine (k2.out _ _ _).mono ?_
  rintro e w2 ⟨qn, pn, rfl, ln, ln', cn, cn', cn'', b2⟩
  have s2 := b2.size
  have H2 := hid b2
  clear b2
  go_wp2_with fail
  refine (k3.out _).mono ?_
  rintro e w3 ⟨qc, rfl, wc3, rc3, b3⟩
  have s3 := b3.size
  have H3 := hid b3
  have V3 := hid (And.intro wc3 rc3)
  clear b3 wc3 rc3
  go_wp2_with fail
  refine (k4.out _ _ _).mono ?_
  rintro e w4 ⟨ac, am, ai, az, rfl, lA, ca0, ca1, caz, cam, cai0, cai1, b4⟩
  have s4 := b4.size
  have H4 := hid b4
  have C4 := hid (And.intro ca0 (And.intro ca1 (And.intro caz (And.intro cam (And.intro cai0 cai1)))))
  clear b4 ca0 ca1 caz cam cai0 cai1
  go_wp2_with fail
  refine (k5.out _ _ _).mono ?_
  rintro e w5 ⟨qs, ps, rfl, ls, ls', cs, cs', cs'', b5⟩
  have s5 := b5.size
  have H5 := hid b5
  clear b5
  go_wp2_with fail
  refine (k6.out _).mono ?_
  rintro e w6 ⟨qw, rfl, ww6, rw6, b6⟩
  have s6 := b6.size
  have H6 := hid b6
  have V6 := hid (And.intro ww6 rw6)
  clear b6 ww6 rw6
  go_wp2_with fail
  refine (k7.out _ _ _).mono ?_
  rintro e w7 ⟨dc, dm, di, dz, rfl, lD, cd0, cd1, cdz, cdm, cdi0, cdi1, b7⟩
  have s7 := b7.size
  have H7 := hid b7
  have C7 := hid (And.intro cd0 (And.intro cd1 (And.intro cdz (And.intro cdm (And.intro cdi0 cdi1)))))
  clear b7 cd0 cd1 cdz cdm cdi0 cdi1
  go_wp2_with fail
  refine (k8.out _ _ _).mono ?_
  rintro e w8 ⟨qx, px, rfl, lx, lx', cx, cx', cx'', b8⟩
  have s8 := b8.size
  have H8 := hid b8
  clear b8
  go_wp2_with fail
  refine (k9.out _ _ _ _).mono ?_
  rintro e w9 ⟨p, rfl, l9, c9, b9⟩
  simp at l9
  obtain ⟨B9, R9, s9⟩ := box_in b9
  have H9 := hid B9
  have G9 := hid R9
  clear b9 B9 R9
  have Ball := hid (H1.out.trans ((H2.out.trans ((H3.out.trans ((H4.out.trans ((H5.out.trans ((H6.out.trans ((H7.out.trans ((H8.out.trans (H9.out.mono H8.out.size)).mono H7.out.size)).mono H6.out.size)).mono H5.out.size)).mono H4.out.size)).mono H3.out.size)).mono H2.out.size)).mono H1.out.size))
  have hr9 := (H9.out.block w.heap.size (by omega)).trans ((H8.out.block w.heap.size (by omega)).trans ((H7.out.block w.heap.size (by omega)).trans ((H6.out.block w.heap.size (by omega)).trans ((H5.out.block w.heap.size (by omega)).trans ((H4.out.block w.heap.size (by omega)).trans ((H3.out.block w.heap.size (by omega)).trans ((H2.out.block w.heap.size (by omega)).trans HR.out)))))))
  obtain ⟨wz, ez⟩ : ∃ wz, w9.setCells w.heap.size 0 [fv 69 #[pt p], fv 70 #[pt p]] = wz := ⟨_, rfl⟩
  have HE := hid (res_end (f := fv 69 #[pt p]) (g := fv 70 #[pt p]) Ball.out hr9 ez)
  have HT := hid (there_of_block (C := [.nilFunc, .nilFunc]) hr9 0 2 (by simp))
  have EZ := hid ez
  have CC := hid (And.intro c1 (And.intro cn (And.intro cn' (And.intro cn'' (And.intro cs (And.intro cs' (And.intro cs'' (And.intro cx (And.intro cx' (And.intro cx'' c9))))))))))
  clear hr9 ez k1 k2 k3 k4 k5 k6 k7 k8 k9 c1 cn cn' cn'' cs cs' cs'' cx cx' cx'' c9
  go_wp2_with (refine wpList_store_as rfl 81 (.tmp 0) (.tmp 10) rfl w.heap.size 0 #[fv 69 #[pt p], fv 70 #[pt p]] rfl rfl HT.out csize81 (by simp [Value.oneCell']) wz EZ.out ?_)
  refine bodyPost_ret (cell_result rfl _ _ w.heap.size 0 rfl [fv 69 #[pt p], fv 70 #[pt p]] _ HE.out.1 Tryz.underlying81 rfl csize81) rfl ?_
  obtain ⟨c1, cn, cn', cn'', cs, cs', cs'', cx, cx', cx'', c9⟩ := CC.out
  obtain ⟨ca0, ca1, caz, cam, cai0, cai1⟩ := C4.out
  obtain ⟨cd0, cd1, cdz, cdm, cdi0, cdi1⟩ := C7.out
  obtain ⟨⟨lac, lac'⟩, ⟨lam, lam'⟩, ⟨lai, lai'⟩, laz, laz'⟩ := lA
  obtain ⟨⟨ldc, ldc'⟩, ⟨ldm, ldm'⟩, ⟨ldi, ldi'⟩, ldz, ldz'⟩ := lD
  have u9 := HE.out.2.1
  have up : ∀ {x y : World}, Below x.heap.size x y → Upd (fun k => k < w.heap.size + 1) y wz → Upd (fun k => k < w.heap.size + 1) x wz := fun hb hu => (Upd.of_below (F := fun k => k < w.heap.size + 1) hb).trans hu (fun _ _ h => h)
  have u8 := up H9.out u9
  have u7 := up H8.out u8
  have u6 := up H7.out u7
  have u5 := up H6.out u6
  have u4 := up H5.out u5
  have u3 := up H4.out u4
  have u2 := up H3.out u3
  have u1 := up H2.out u2
  have z1 := u1.size
  have z2 := u2.size
  have z3 := u3.size
  have z4 := u4.size
  have z5 := u5.size
  have z6 := u6.size
  have z7 := u7.size
  have z8 := u8.size
  have z9 := u9.size
  have wcp := V3.out.1.more (B' := w.heap.size) (by omega) (u3.mono (fun x _ hx => by omega))
  have rcp := V3.out.2.more (B' := w.heap.size) (by omega) (u3.mono (fun x _ hx => by omega))
  have wwd := V6.out.1.more (B' := w.heap.size) (by omega) (u6.mono (fun x _ hx => by omega))
  have rwd := V6.out.2.more (B' := w.heap.size) (by omega) (u6.mono (fun x _ hx => by omega))
  have n1 := number_wr 0 (.inl rfl) w.heap.size q1 wz (by omega) ((u1.atc 0 l1.2 (by omega)).trans c1) (by omega)
  have m1 := number_rd 0 (.inl rfl) w.heap.size q1 wz (by omega) ((u1.atc 0 l1.2 (by omega)).trans c1) (by omega)
  have na := number_wr 0 (.inl rfl) w.heap.size az wz (by omega) ((u4.atc 0 laz' (by omega)).trans caz) (by omega)
  have ma := number_rd 0 (.inl rfl) w.heap.size az wz (by omega) ((u4.atc 0 laz' (by omega)).trans caz) (by omega)
  have nd := number_wr 0 (.inl rfl) w.heap.size dz wz (by omega) ((u7.atc 0 ldz' (by omega)).trans cdz) (by omega)
  have md := number_rd 0 (.inl rfl) w.heap.size dz wz (by omega) ((u7.atc 0 ldz' (by omega)).trans cdz) (by omega)
  have wlc := list_c w.heap.size wz ac ai (by omega) (by omega) #[pt az] #[pt qc] CpAt eC okC ((u4.atc 0 lac' (by omega)).trans ca0) (by omega) ((u4.atc 0 lai' (by omega)).trans cai0) (by omega) na wcp (fun _ _ _ _ _ _ _ k h => CpAt.keep k h)
  have rlc := listr_c w.heap.size wz ac am ai (by omega) (by omega) (by omega) #[pt az] #[pt qc] 400 (by omega) CpAt IsC rCp zC ((u4.atc 1 lac' (by omega)).trans ca1) ((u4.atc 0 lam' (by omega)).trans cam) ((u4.atc 1 lai' (by omega)).trans cai1) ma rcp (fun N W => ⟨.slice none 0 0, rfl, none, 0, 0, rfl, Src.nil _ _, fun _ _ h => absurd h (by omega), by omega, by omega⟩) (fun _ _ _ _ _ k h => IsC.keep k h) (fun _ _ _ _ _ k h => IsC.mono k h) IsC.lies
  have wlw := list_w w.heap.size wz dc di (by omega) (by omega) #[pt dz] #[pt qw] WdAt eW okW ((u7.atc 0 ldc' (by omega)).trans cd0) (by omega) ((u7.atc 0 ldi' (by omega)).trans cdi0) (by omega) nd wwd (fun _ _ _ _ _ _ _ k h => WdAt.keep k h)
  have rlw := listr_w w.heap.size wz dc dm di (by omega) (by omega) (by omega) #[pt dz] #[pt qw] 6 (by omega) WdAt IsW rWd zW ((u7.atc 1 ldc' (by omega)).trans cd1) ((u7.atc 0 ldm' (by omega)).trans cdm) ((u7.atc 1 ldi' (by omega)).trans cdi1) md rwd (fun N W => rfl) (fun _ _ _ _ _ k h => h) (fun _ _ _ _ _ k h => h) IsW.lies
  have wN := part_xn w.heap.size wz qn pn (by omega) (by omega) #[pt q1] ExAt InAt (fun x => x.n) (eN 0) okI ((u2.atc 0 ln.2 (by omega)).trans cn) (by omega) ((u2.atc 0 ln'.2 (by omega)).trans cn'') (by omega) (fun _ _ _ _ _ h => h.1) (fun _ _ _ _ _ _ _ k h => InAt.keep k h) n1
  have rN' := partr_xn w.heap.size wz qn pn (by omega) (by omega) #[pt q1] 3 1 IsX IsI (fun x => x.n) (fun x y => ⟨y, x.cs, x.ws⟩) (rN 0) ((u2.atc 1 ln.2 (by omega)).trans cn') (by omega) ((u2.atc 0 ln'.2 (by omega)).trans cn'') (by omega) (by omega) (fun _ _ cs x h => by obtain ⟨u, v, h, _⟩ := h; subst h; rfl) (fun _ _ _ cs x y cs' h hk _ h' => by have h := IsX.keep hk h; obtain ⟨u, v, h, h2, h3⟩ := h; unfold IsI at h'; subst h; subst h'; exact ⟨u, v, rfl, h2, h3⟩) (fun _ _ _ _ _ k h => IsX.keep k h) m1
  have wC := part_xc w.heap.size wz qs ps (by omega) (by omega) #[pt ac, pt ai] ExAt (LsAt 5 CpAt) (fun x => x.cs) (eL eC) (okL okC) ((u5.atc 0 ls.2 (by omega)).trans cs) (by omega) ((u5.atc 0 ls'.2 (by omega)).trans cs'') (by omega) (fun _ _ _ _ _ h => h.2.1) (fun _ _ _ _ _ _ _ k h => h.keep (fun _ _ _ h => CpAt.keep k h) k) wlc
  have rC := partr_xc w.heap.size wz qs ps (by omega) (by omega) #[pt ac, pt am, pt ai] 3 1 IsX (IsL 5 CpAt) (fun x => x.cs) (fun x y => ⟨x.n, y, x.ws⟩) (rL 400 rCp zC) ((u5.atc 1 ls.2 (by omega)).trans cs') (by omega) ((u5.atc 0 ls'.2 (by omega)).trans cs'') (by omega) (by omega) (fun _ _ cs x h => by obtain ⟨u, v, h, h2, _⟩ := h; subst h; exact h2) (fun _ _ _ cs x y cs' h hk _ h' => by have h := IsX.keep hk h; obtain ⟨u, v, h, h2, h3⟩ := h; obtain ⟨a, n, c, h1, h4⟩ := h'; subst h; subst h1; exact ⟨_, v, rfl, ⟨a, n, c, rfl, h4⟩, h3⟩) (fun _ _ _ _ _ k h => IsX.keep k h) rlc
  have wW := part_xw w.heap.size wz qx px (by omega) (by omega) #[pt dc, pt di] ExAt (LsAt 2 WdAt) (fun x => x.ws) (eL eW) (okL okW) ((u8.atc 0 lx.2 (by omega)).trans cx) (by omega) ((u8.atc 0 lx'.2 (by omega)).trans cx'') (by omega) (fun _ _ _ _ _ h => h.2.2) (fun _ _ _ _ _ _ _ k h => h.keep (fun _ _ _ h => WdAt.keep k h) k) wlw
  have rW := partr_xw w.heap.size wz qx px (by omega) (by omega) #[pt dc, pt dm, pt di] 3 1 IsX (IsL 2 WdAt) (fun x => x.ws) (fun x y => ⟨x.n, x.cs, y⟩) (rL 6 rWd zW) ((u8.atc 1 lx.2 (by omega)).trans cx') (by omega) ((u8.atc 0 lx'.2 (by omega)).trans cx'') (by omega) (by omega) (fun _ _ cs x h => by obtain ⟨u, v, h, _, h2⟩ := h; subst h; exact h2) (fun _ _ _ cs x y cs' h hk _ h' => by have h := IsX.keep hk h; obtain ⟨u, v, h, h2, h3⟩ := h; obtain ⟨a, n, c, h1, h4⟩ := h'; subst h; subst h1; exact ⟨u, _, rfl, h2, ⟨a, n, c, rfl, h4⟩⟩) (fun _ _ _ _ _ k h => IsX.keep k h) rlw
  obtain ⟨PT, gPT⟩ : ∃ PT : List (Pc Ex), PT = [⟨71, #[pt qn, pt pn], 72, #[pt qn, pt pn], fun x => eN 0 x.n, rP (fun x => x.n) (fun x y => ⟨y, x.cs, x.ws⟩) (rN 0)⟩, ⟨73, #[pt qs, pt ps], 74, #[pt qs, pt ps], fun x => eL eC x.cs, rP (fun x => x.cs) (fun x y => ⟨x.n, y, x.ws⟩) (rL 400 rCp zC)⟩, ⟨89, #[pt qx, pt px], 90, #[pt qx, pt px], fun x => eL eW x.ws, rP (fun x => x.ws) (fun x y => ⟨x.n, x.cs, y⟩) (rL 6 rWd zW)⟩] := ⟨_, rfl⟩
  have hG9 := u9.heap G9.out (by omega)
  have hPct : Pcs wz w8.heap.size 0 PT := by
    subst gPT
    refine ⟨by omega, ?_⟩
    intro i hi
    match i, hi with
    | 0, _ => exact ⟨cell_of_row _ _ 0 _ _ _ hG9, cell_of_row _ _ 1 _ _ _ hG9⟩
    | 1, _ => exact ⟨cell_of_row _ _ 2 _ _ _ hG9, cell_of_row _ _ 3 _ _ _ hG9⟩
    | 2, _ => exact ⟨cell_of_row _ _ 4 _ _ _ hG9, cell_of_row _ _ 5 _ _ _ hG9⟩
  have hWt : ∀ P ∈ PT, Wr w.heap.size wz ExAt P.en okX P.kw P.cw := by
    subst gPT
    intro P hP
    simp only [List.mem_cons, List.not_mem_nil, or_false] at hP
    rcases hP with rfl | rfl | rfl
    · exact wN.imp (fun _ h => h.1) (fun _ => rfl)
    · exact wC.imp (fun _ h => h.2.1) (fun _ => rfl)
    · exact wW.imp (fun _ h => h.2.2) (fun _ => rfl)
  have hRt : ∀ P ∈ PT, Rd w.heap.size wz 3 IsX P.rd P.kr P.cr := by
    subst gPT
    intro P hP
    simp only [List.mem_cons, List.not_mem_nil, or_false] at hP
    rcases hP with rfl | rfl | rfl
    · exact rN'
    · exact rC
    · exact rW
  have cp := (u9.atc 0 l9.2 (by omega)).trans c9
  refine ⟨p, rfl, (join_e w.heap.size wz p w8.heap.size 0 3 (by omega) (by omega) PT ExAt okX cp (by omega) (by rw [gPT]; rfl) (by omega) hPct hWt (fun _ _ _ _ _ _ _ k h => ExAt.keep k h)).imp (fun _ h => h) (fun x => by rw [gPT]; simp [enAll, eX]), (joinr_e w.heap.size wz p w8.heap.size 0 3 (by omega) (by omega) PT 3 IsX cp (by omega) (by rw [gPT]; rfl) (by omega) hPct hRt (fun _ _ _ _ _ k h => IsX.keep k h)).imp (fun x zs => by rw [gPT]; rfl), HE.out.2.2⟩

set_option maxHeartbeats 16000000 in
theorem program_mk (w : World) : Calls Tryz.prog 17 #[] w fun e w' => ∃ q, e = .returned (.agg #[fv 44 #[pt q], fv 45 #[pt q]]) ∧ Wr w.heap.size w' (LsAt 3 ExAt) eP (okL okX) 44 #[pt q] ∧ Rd w.heap.size w' 1 (IsL 3 ExAt) rPg 45 #[pt q] ∧ Below w.heap.size w w' := by
  have k1 := hid call_mk
  have k2 := hid (list_mk_x 64 69 70)
  have k3 := hid end_mk
  have k4 := hid join_mk_x
  go_enter Tryz.func17, Tryz.ntmps17
  go_wp2_with fail
  refine (k1.out _).mono ?_
  rintro e w1 ⟨qc, rfl, wc1, rc1, b1⟩
  obtain ⟨B1, R1, s1⟩ := box_in b1
  have H1 := hid B1
  have HR := hid R1
  have V1 := hid (And.intro wc1 rc1)
  clear b1 B1 R1 wc1 rc1
  go_wp2_with fail
  refine (k2.out _ _ _).mono ?_
  rintro e w2 ⟨ac, am, ai, az, rfl, lA, ca0, ca1, caz, cam, cai0, cai1, b2⟩
  have s2 := b2.size
  have H2 := hid b2
  have C2 := hid (And.intro ca0 (And.intro ca1 (And.intro caz (And.intro cam (And.intro cai0 cai1)))))
  clear b2 ca0 ca1 caz cam cai0 cai1
  go_wp2_with fail
  refine (k3.out _).mono ?_
  rintro e w3 ⟨rfl, b3⟩
  have s3 := b3.size
  have H3 := hid b3
  clear b3
  go_wp2_with fail
  refine (k4.out _ _ _ _).mono ?_
  rintro e w9 ⟨p, rfl, l9, c9, b9⟩
  simp at l9
  obtain ⟨B9, R9, s9⟩ := box_in b9
  have H9 := hid B9
  have G9 := hid R9
  clear b9 B9 R9
  have Ball := hid (H1.out.trans ((H2.out.trans ((H3.out.trans (H9.out.mono H3.out.size)).mono H2.out.size)).mono H1.out.size))
  have hr9 := (H9.out.block w.heap.size (by omega)).trans ((H3.out.block w.heap.size (by omega)).trans ((H2.out.block w.heap.size (by omega)).trans HR.out))
  obtain ⟨wz, ez⟩ : ∃ wz, w9.setCells w.heap.size 0 [fv 44 #[pt p], fv 45 #[pt p]] = wz := ⟨_, rfl⟩
  have HE := hid (res_end (f := fv 44 #[pt p]) (g := fv 45 #[pt p]) Ball.out hr9 ez)
  have HT := hid (there_of_block (C := [.nilFunc, .nilFunc]) hr9 0 2 (by simp))
  have EZ := hid ez
  have CC := hid c9
  clear hr9 ez k1 k2 k3 k4 c9
  go_wp2_with (refine wpList_store_as rfl 41 (.tmp 0) (.tmp 5) rfl w.heap.size 0 #[fv 44 #[pt p], fv 45 #[pt p]] rfl rfl HT.out csize41 (by simp [Value.oneCell']) wz EZ.out ?_)
  refine bodyPost_ret (cell_result rfl _ _ w.heap.size 0 rfl [fv 44 #[pt p], fv 45 #[pt p]] _ HE.out.1 Tryz.underlying41 rfl csize41) rfl ?_
  have c9 := CC.out
  obtain ⟨ca0, ca1, caz, cam, cai0, cai1⟩ := C2.out
  obtain ⟨⟨lac, lac'⟩, ⟨lam, lam'⟩, ⟨lai, lai'⟩, laz, laz'⟩ := lA
  have u9 := HE.out.2.1
  have up : ∀ {x y : World}, Below x.heap.size x y → Upd (fun k => k < w.heap.size + 1) y wz → Upd (fun k => k < w.heap.size + 1) x wz := fun hb hu => (Upd.of_below (F := fun k => k < w.heap.size + 1) hb).trans hu (fun _ _ h => h)
  have u3 := up H9.out u9
  have u2 := up H3.out u3
  have u1 := up H2.out u2
  have z1 := u1.size
  have z2 := u2.size
  have z3 := u3.size
  have z9 := u9.size
  have wcp := V1.out.1.more (B' := w.heap.size) (by simp) (u1.mono (fun x _ hx => by simp; omega))
  have rcp := V1.out.2.more (B' := w.heap.size) (by simp) (u1.mono (fun x _ hx => by simp; omega))
  have na := number_wr 0 (.inl rfl) w.heap.size az wz (by omega) ((u2.atc 0 laz' (by omega)).trans caz) (by omega)
  have ma := number_rd 0 (.inl rfl) w.heap.size az wz (by omega) ((u2.atc 0 laz' (by omega)).trans caz) (by omega)
  have wlc := list_x w.heap.size wz ac ai (by omega) (by omega) #[pt az] #[pt qc] ExAt eX okX ((u2.atc 0 lac' (by omega)).trans ca0) (by omega) ((u2.atc 0 lai' (by omega)).trans cai0) (by omega) na wcp (fun _ _ _ _ _ _ _ k h => ExAt.keep k h)
  have rlc := listr_x w.heap.size wz ac am ai (by omega) (by omega) (by omega) #[pt az] #[pt qc] 64 (by omega) ExAt IsX rEx zX ((u2.atc 1 lac' (by omega)).trans ca1) ((u2.atc 0 lam' (by omega)).trans cam) ((u2.atc 1 lai' (by omega)).trans cai1) ma rcp (fun N W => ⟨.slice none 0 0, .slice none 0 0, rfl, ⟨none, 0, 0, rfl, rfl, by omega, by omega, fun h => absurd h (Nat.lt_irrefl 0)⟩, ⟨none, 0, 0, rfl, rfl, by omega, by omega, fun h => absurd h (Nat.lt_irrefl 0)⟩⟩) (fun _ _ _ _ _ k h => IsX.keep k h) (fun _ _ _ _ _ k h => IsX.mono k h) IsX.lies
  obtain ⟨PT, gPT⟩ : ∃ PT : List (Pc (List Ex)), PT = [⟨47, #[pt ac, pt ai], 48, #[pt ac, pt am, pt ai], eL eX, rL 64 rEx zX⟩, ⟨97, #[], 61, #[], fun _ => [], rE⟩] := ⟨_, rfl⟩
  have hG9 := u9.heap G9.out (by omega)
  have hPct : Pcs wz w3.heap.size 0 PT := by
    subst gPT
    refine ⟨by omega, ?_⟩
    intro i hi
    match i, hi with
    | 0, _ => exact ⟨cell_of_row _ _ 0 _ _ _ hG9, cell_of_row _ _ 1 _ _ _ hG9⟩
    | 1, _ => exact ⟨cell_of_row _ _ 2 _ _ _ hG9, cell_of_row _ _ 3 _ _ _ hG9⟩
  have hWt : ∀ P ∈ PT, Wr w.heap.size wz (LsAt 3 ExAt) P.en (okL okX) P.kw P.cw := by
    subst gPT
    intro P hP
    simp only [List.mem_cons, List.not_mem_nil, or_false] at hP
    rcases hP with rfl | rfl
    · exact wlc
    · exact (unwr1_wr w.heap.size wz (LsAt 3 ExAt)).imp (fun _ _ => trivial) (fun _ => rfl)
  have hKL : ∀ (N : Nat → Prop) (W W' : World) (cs : List Value) (x : List Ex), Keep N N W W' → IsL 3 ExAt N W cs x → IsL 3 ExAt N W' cs x := fun _ _ _ _ _ k h => IsL.keep (fun _ _ _ h => ExAt.keep k h) k h
  have hRt : ∀ P ∈ PT, Rd w.heap.size wz 1 (IsL 3 ExAt) P.rd P.kr P.cr := by
    subst gPT
    intro P hP
    simp only [List.mem_cons, List.not_mem_nil, or_false] at hP
    rcases hP with rfl | rfl
    · exact rlc
    · exact end_rd w.heap.size wz 1 (IsL 3 ExAt) hKL
  have cp := (u9.atc 0 l9.2 (by omega)).trans c9
  refine ⟨p, rfl, (join_x w.heap.size wz p w3.heap.size 0 2 (by omega) (by omega) PT (LsAt 3 ExAt) (okL okX) cp (by omega) (by rw [gPT]; rfl) (by omega) hPct hWt (fun _ _ _ _ _ _ _ k h => h.keep (fun _ _ _ h => ExAt.keep k h) k)).imp (fun _ h => h) (fun x => by rw [gPT]; simp [enAll, eP]), (joinr_x w.heap.size wz p w3.heap.size 0 2 (by omega) (by omega) PT 1 (IsL 3 ExAt) cp (by omega) (by rw [gPT]; rfl) (by omega) hPct hRt hKL).imp (fun x zs => by rw [gPT]; rfl), HE.out.2.2⟩

end Go.Proofs.YtpbhcmfbcnihiaaGreat
