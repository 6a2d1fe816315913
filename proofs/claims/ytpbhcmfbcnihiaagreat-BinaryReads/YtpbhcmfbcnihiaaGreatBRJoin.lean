/- Codecs one behind the other: what their Read reads. Written by gen_brjoin.py. -/
import Derived.Test.YtpbhcmfbcnihiaaGreatBRPart
import Derived.Test.YtpbhcmfbcnihiaaGreatBJoin
namespace Go.Proofs.YtpbhcmfbcnihiaaGreat
open Go.RowKit Num
set_option linter.unusedVariables false
set_option maxRecDepth 20000

/-- One behind the other. -/
def rSeq {α : Type} : List (α → List Int → Option (α × Nat)) → α → List Int → Option (α × Nat)
  | [], x, _ => some (x, 0)
  | r :: rs, x, zs => (r x zs).bind fun y => (rSeq rs y.1 (zs.drop y.2)).map fun z => (z.1, y.2 + z.2)
theorem rSeq_app {α : Type} : ∀ (l m : List (α → List Int → Option (α × Nat))) (x : α) (zs : List Int), rSeq (l ++ m) x zs = (rSeq l x zs).bind fun y => (rSeq m y.1 (zs.drop y.2)).map fun z => (z.1, y.2 + z.2)
  | [], m, x, zs => by
    simp only [List.nil_append, rSeq, Option.bind_some, List.drop_zero, Nat.zero_add]
    cases rSeq m x zs <;> rfl
  | r :: l, m, x, zs => by
    simp only [List.cons_append, rSeq]
    cases hr : r x zs with
    | none => rfl
    | some y =>
      simp only [Option.bind_some]
      rw [rSeq_app l m]
      cases rSeq l y.1 (zs.drop y.2) with
      | none => rfl
      | some z =>
        simp only [Option.bind_some, Option.map_some, List.drop_drop]
        cases rSeq m z.1 (zs.drop (y.2 + z.2)) with
        | none => rfl
        | some u => simp [Nat.add_assoc]
def rdAll {α : Type} (ps : List (Pc α)) : α → List Int → Option (α × Nat) := rSeq (ps.map (·.rd))
theorem rdAll_more {α : Type} (ps : List (Pc α)) (x : α) (zs : List Int) (i : Nat) (h : i < ps.length) (y : α) (n : Nat) (hy : rdAll (ps.take i) x zs = some (y, n)) : rdAll (ps.take (i + 1)) x zs = (ps[i].rd y (zs.drop n)).map fun z => (z.1, n + z.2) := by
  unfold rdAll at hy ⊢
  rw [take_one ps i h, List.map_append, rSeq_app, hy]
  simp only [Option.bind_some, List.map_cons, List.map_nil, rSeq]
  cases ps[i].rd y (zs.drop n) with
  | none => rfl
  | some z => simp
theorem rdAll_stop {α : Type} (ps : List (Pc α)) (x : α) (zs : List Int) (i : Nat) (hy : rdAll (ps.take i) x zs = none) : rdAll ps x zs = none := by
  unfold rdAll at hy ⊢
  conv => lhs; rw [← List.take_append_drop i ps]
  rw [List.map_append, rSeq_app, hy]
  rfl

set_option maxHeartbeats 8000000 in
theorem joinr_x {α : Type} (B : Nat) (wc : World) (pj gj og m : Nat) (hpB : B ≤ pj) (hgB : B ≤ gj) (ps : List (Pc α)) (sz : Nat) (Is : (Nat → Prop) → World → List Value → α → Prop)
    (h1 : wc.cell? ⟨pj, 0, none⟩ = some (.slice (some ⟨gj, og, none⟩) m m)) (hpl : pj < wc.heap.size) (hm : ps.length = m) (hm9 : m ≤ 9) (hP : Pcs wc gj og ps) (hW : ∀ P ∈ ps, Rd B wc sz Is P.rd P.kr P.cr)
    (hk : ∀ N W W' cs x, Keep N N W W' → Is N W cs x → Is N W' cs x) : Rd B wc sz Is (rdAll ps) 45 #[.pointer (some ⟨pj, 0, none⟩)] := by
  refine ⟨fun args w => by kernel_rfl, fun W N p g len at_ zs b o C t x hWc hR hz hbB hbp hbg hC hl hI hN hNp hNb => ?_⟩
  show Calls Tryz.prog 45 #[.pointer (some ⟨p, 0, none⟩), .pointer (some ⟨b, o, none⟩), .pointer (some ⟨pj, 0, none⟩)] W _
  have hmid := hR.mid
  have c0 := (hWc.atc 0 hpl (by omega)).trans h1
  obtain ⟨R, gR⟩ : ∃ R, rdAll ps x (zs.drop at_) = R := ⟨_, rfl⟩
  rw [gR]
  have GR := hid gR
  have HP := hid hP
  have HM := hid hm
  have HW := hid hW
  have HK := hid hk
  have HC := hid hWc
  have HR := hid hR
  have HZ := hid hz
  have HB := hid hC
  have HL := hid hl
  have HI := hid hI
  have HN := hid hN
  have HNp := hid hNp
  have HNb := hid hNb
  have HBB := hid hbB
  have hbl : b < W.heap.size := (Array.getElem?_eq_some_iff.1 hC).1
  clear hP hm hW hk hWc hR hz hC hl hI hN hNp hNb h1 gR hbB
  go_enter Tryz.func45, Tryz.ntmps45
  go_wp2_with fail
  go_loopw [11] (fun k wr => ∃ i : Nat, i ≤ m ∧ k = .int .i64 i ∧ ∃ (y : α) (n : Nat) (cs : List Value), Hid (rdAll (ps.take i) x (zs.drop at_) = some (y, n)) ∧ Hid (Rdr wr wc.heap.size p g len (at_ + n) zs) ∧ Hid (cs.length = sz) ∧ Hid (wr.heap[b]? = some (.cells (splice C o cs).toArray t (0, 0))) ∧ Hid (Is N wr cs y) ∧ Hid (Upd (fun k => k = p ∨ k = b) W wr)) (fun k _ => m - (intOf k).toNat)
  case atStart =>
    exact ⟨0, Nat.zero_le _, rfl, x, 0, (C.drop o).take sz, hid rfl, hid HR.out, hid (by simp; have := HL.out; omega), hid (by rw [splice_same C o sz HL.out]; exact HB.out), hid HI.out, hid (Upd.refl _ _)⟩
  case round =>
    obtain ⟨i, hi, rfl, y, n, cs, Hy, HRr, Hcl, HCr, HIr, HU⟩ := hrel
    by_cases hlt : i < m
    · have hil : i < ps.length := by rw [HM.out]; exact hlt
      have hbB := HBB.out
      have hbw : Upd (fun k => k < B) wc wr := HC.out.trans HU.out (fun k hk h => by rcases h with rfl | rfl <;> omega)
      obtain ⟨hgl, hcs⟩ := HP.out
      have d0 := (hbw.atc (og + i * 2) hgl (by omega)).trans (hcs i hil).1
      have d1 := (hbw.atc (og + i * 2 + 1) hgl (by omega)).trans (hcs i hil).2
      have hMem : ps[i] ∈ ps := List.getElem_mem hil
      have HMo := hid (rdAll_more ps x (zs.drop at_) i hil y n Hy.out)
      have HSt := hid (rdAll_stop ps x (zs.drop at_) (i + 1))
      have hwr := HW.out _ hMem
      generalize ps[i] = P at d0 d1 hwr HMo
      have hl := HL.out
      have hcl := Hcl.out
      have hls := length_splice C cs o (by omega)
      have hsz2 := HU.out.size
      have kw := hid (fun o' => hwr.2 (wr.alloc o') N p g len (at_ + n) zs b o (splice C o cs) t y (hbw.trans (Upd.alloc _ _ o') (fun _ _ h => h)) ⟨(((Below.refl _ _).alloc (Nat.le_refl _) o').block p (Array.getElem?_eq_some_iff.1 HRr.out.own).1).trans HRr.out.own, HRr.out.src.below ((Below.refl _ _).alloc (Nat.le_refl _) o'), HRr.out.lo, HRr.out.mid, HRr.out.ne, HRr.out.fit, HRr.out.cap, Nat.lt_of_lt_of_le HRr.out.gl ((Below.refl _ _).alloc (Nat.le_refl _) o').size⟩ HZ.out hbB hbp hbg ((((Below.refl _ _).alloc (Nat.le_refl _) o').block b (by omega)).trans HCr.out) (by omega) (by rw [splice_at C cs o sz hl hcl]; exact HK.out _ _ _ _ _ (Keep.below ((Below.refl _ _).alloc (Nat.le_refl _) o')) HIr.out) (fun k hk => HN.out k (by simp at hk; omega)) HNp.out HNb.out)
      rw [List.drop_drop] at HMo
      have hgo := hwr.1
      have hgw : gj < wr.heap.size := Nat.lt_of_lt_of_le hgl hbw.size
      obtain ⟨D, gD⟩ : ∃ D, P.rd y (zs.drop (at_ + n)) = D := ⟨_, rfl⟩
      simp only [gD] at kw
      rw [gD] at HMo
      clear hwr hcs hMem hil hbw gD hls hcl hl hsz2
      cases D with
      | none =>
        go_wp2_with fail
        refine (kw.out _).mono ?_
        rintro e w2 ⟨hU2, t', u', rfl⟩
        have HU2 : Hid (Upd (fun k => k = p ∨ k = b) W w2) := hid ((HU.out.trans (Upd.alloc (fun k => k = p ∨ k = b) _ _) (fun _ _ h => h)).trans hU2 (fun _ _ h => h))
        clear hU2 kw hgo
        go_wp2_with fail
        go_ret
        refine ⟨HU2.out, ?_⟩
        have hR0 := GR.out.symm.trans (HSt.out HMo.out)
        rw [hR0]
        exact ⟨t', u', rfl⟩
      | some z =>
        go_wp2_with fail
        refine (kw.out _).mono ?_
        rintro e w2 ⟨hU2, rfl, hR2, cs2, hcl2, hC2, hI2⟩
        have HU2 : Hid (Upd (fun k => k = p ∨ k = b) W w2) := hid ((HU.out.trans (Upd.alloc (fun k => k = p ∨ k = b) _ _) (fun _ _ h => h)).trans hU2 (fun _ _ h => h))
        have HR2 : Hid (Rdr w2 wc.heap.size p g len (at_ + (n + z.2)) zs) := hid (by rw [← Nat.add_assoc]; exact hR2)
        have HC2 : Hid (w2.heap[b]? = some (.cells (splice C o cs2).toArray t (0, 0))) := hid (by rw [splice_splice C cs cs2 o (by have := HL.out; have := Hcl.out; omega) (by rw [hcl2, Hcl.out])] at hC2; exact hC2)
        have HI2 := hid hI2
        have HL2 := hid hcl2
        clear hU2 kw hgo hR2 hC2 hI2 hcl2
        go_wp2_with fail
        go_roundw
        case rel => exact ⟨i + 1, by omega, by go_num, z.1, n + z.2, cs2, hid HMo.out, HR2, HL2, HC2, HI2, HU2⟩
        case measure => simp [intOf]; omega
    · obtain rfl : i = m := by omega
      have hRs : R = some (y, n) := by have := Hy.out; rw [← HM.out, List.take_length, GR.out] at this; exact this
      subst hRs
      go_wp2_with fail
      go_ret
      exact ⟨HU.out, rfl, HRr.out, cs, Hcl.out, HCr.out, HIr.out⟩

set_option maxHeartbeats 8000000 in
theorem joinr_e {α : Type} (B : Nat) (wc : World) (pj gj og m : Nat) (hpB : B ≤ pj) (hgB : B ≤ gj) (ps : List (Pc α)) (sz : Nat) (Is : (Nat → Prop) → World → List Value → α → Prop)
    (h1 : wc.cell? ⟨pj, 0, none⟩ = some (.slice (some ⟨gj, og, none⟩) m m)) (hpl : pj < wc.heap.size) (hm : ps.length = m) (hm9 : m ≤ 9) (hP : Pcs wc gj og ps) (hW : ∀ P ∈ ps, Rd B wc sz Is P.rd P.kr P.cr)
    (hk : ∀ N W W' cs x, Keep N N W W' → Is N W cs x → Is N W' cs x) : Rd B wc sz Is (rdAll ps) 70 #[.pointer (some ⟨pj, 0, none⟩)] := by
  refine ⟨fun args w => by kernel_rfl, fun W N p g len at_ zs b o C t x hWc hR hz hbB hbp hbg hC hl hI hN hNp hNb => ?_⟩
  show Calls Tryz.prog 70 #[.pointer (some ⟨p, 0, none⟩), .pointer (some ⟨b, o, none⟩), .pointer (some ⟨pj, 0, none⟩)] W _
  have hmid := hR.mid
  have c0 := (hWc.atc 0 hpl (by omega)).trans h1
  obtain ⟨R, gR⟩ : ∃ R, rdAll ps x (zs.drop at_) = R := ⟨_, rfl⟩
  rw [gR]
  have GR := hid gR
  have HP := hid hP
  have HM := hid hm
  have HW := hid hW
  have HK := hid hk
  have HC := hid hWc
  have HR := hid hR
  have HZ := hid hz
  have HB := hid hC
  have HL := hid hl
  have HI := hid hI
  have HN := hid hN
  have HNp := hid hNp
  have HNb := hid hNb
  have HBB := hid hbB
  have hbl : b < W.heap.size := (Array.getElem?_eq_some_iff.1 hC).1
  clear hP hm hW hk hWc hR hz hC hl hI hN hNp hNb h1 gR hbB
  go_enter Tryz.func70, Tryz.ntmps70
  go_wp2_with fail
  go_loopw [11] (fun k wr => ∃ i : Nat, i ≤ m ∧ k = .int .i64 i ∧ ∃ (y : α) (n : Nat) (cs : List Value), Hid (rdAll (ps.take i) x (zs.drop at_) = some (y, n)) ∧ Hid (Rdr wr wc.heap.size p g len (at_ + n) zs) ∧ Hid (cs.length = sz) ∧ Hid (wr.heap[b]? = some (.cells (splice C o cs).toArray t (0, 0))) ∧ Hid (Is N wr cs y) ∧ Hid (Upd (fun k => k = p ∨ k = b) W wr)) (fun k _ => m - (intOf k).toNat)
  case atStart =>
    exact ⟨0, Nat.zero_le _, rfl, x, 0, (C.drop o).take sz, hid rfl, hid HR.out, hid (by simp; have := HL.out; omega), hid (by rw [splice_same C o sz HL.out]; exact HB.out), hid HI.out, hid (Upd.refl _ _)⟩
  case round =>
    obtain ⟨i, hi, rfl, y, n, cs, Hy, HRr, Hcl, HCr, HIr, HU⟩ := hrel
    by_cases hlt : i < m
    · have hil : i < ps.length := by rw [HM.out]; exact hlt
      have hbB := HBB.out
      have hbw : Upd (fun k => k < B) wc wr := HC.out.trans HU.out (fun k hk h => by rcases h with rfl | rfl <;> omega)
      obtain ⟨hgl, hcs⟩ := HP.out
      have d0 := (hbw.atc (og + i * 2) hgl (by omega)).trans (hcs i hil).1
      have d1 := (hbw.atc (og + i * 2 + 1) hgl (by omega)).trans (hcs i hil).2
      have hMem : ps[i] ∈ ps := List.getElem_mem hil
      have HMo := hid (rdAll_more ps x (zs.drop at_) i hil y n Hy.out)
      have HSt := hid (rdAll_stop ps x (zs.drop at_) (i + 1))
      have hwr := HW.out _ hMem
      generalize ps[i] = P at d0 d1 hwr HMo
      have hl := HL.out
      have hcl := Hcl.out
      have hls := length_splice C cs o (by omega)
      have hsz2 := HU.out.size
      have kw := hid (fun o' => hwr.2 (wr.alloc o') N p g len (at_ + n) zs b o (splice C o cs) t y (hbw.trans (Upd.alloc _ _ o') (fun _ _ h => h)) ⟨(((Below.refl _ _).alloc (Nat.le_refl _) o').block p (Array.getElem?_eq_some_iff.1 HRr.out.own).1).trans HRr.out.own, HRr.out.src.below ((Below.refl _ _).alloc (Nat.le_refl _) o'), HRr.out.lo, HRr.out.mid, HRr.out.ne, HRr.out.fit, HRr.out.cap, Nat.lt_of_lt_of_le HRr.out.gl ((Below.refl _ _).alloc (Nat.le_refl _) o').size⟩ HZ.out hbB hbp hbg ((((Below.refl _ _).alloc (Nat.le_refl _) o').block b (by omega)).trans HCr.out) (by omega) (by rw [splice_at C cs o sz hl hcl]; exact HK.out _ _ _ _ _ (Keep.below ((Below.refl _ _).alloc (Nat.le_refl _) o')) HIr.out) (fun k hk => HN.out k (by simp at hk; omega)) HNp.out HNb.out)
      rw [List.drop_drop] at HMo
      have hgo := hwr.1
      have hgw : gj < wr.heap.size := Nat.lt_of_lt_of_le hgl hbw.size
      obtain ⟨D, gD⟩ : ∃ D, P.rd y (zs.drop (at_ + n)) = D := ⟨_, rfl⟩
      simp only [gD] at kw
      rw [gD] at HMo
      clear hwr hcs hMem hil hbw gD hls hcl hl hsz2
      cases D with
      | none =>
        go_wp2_with fail
        refine (kw.out _).mono ?_
        rintro e w2 ⟨hU2, t', u', rfl⟩
        have HU2 : Hid (Upd (fun k => k = p ∨ k = b) W w2) := hid ((HU.out.trans (Upd.alloc (fun k => k = p ∨ k = b) _ _) (fun _ _ h => h)).trans hU2 (fun _ _ h => h))
        clear hU2 kw hgo
        go_wp2_with fail
        go_ret
        refine ⟨HU2.out, ?_⟩
        have hR0 := GR.out.symm.trans (HSt.out HMo.out)
        rw [hR0]
        exact ⟨t', u', rfl⟩
      | some z =>
        go_wp2_with fail
        refine (kw.out _).mono ?_
        rintro e w2 ⟨hU2, rfl, hR2, cs2, hcl2, hC2, hI2⟩
        have HU2 : Hid (Upd (fun k => k = p ∨ k = b) W w2) := hid ((HU.out.trans (Upd.alloc (fun k => k = p ∨ k = b) _ _) (fun _ _ h => h)).trans hU2 (fun _ _ h => h))
        have HR2 : Hid (Rdr w2 wc.heap.size p g len (at_ + (n + z.2)) zs) := hid (by rw [← Nat.add_assoc]; exact hR2)
        have HC2 : Hid (w2.heap[b]? = some (.cells (splice C o cs2).toArray t (0, 0))) := hid (by rw [splice_splice C cs cs2 o (by have := HL.out; have := Hcl.out; omega) (by rw [hcl2, Hcl.out])] at hC2; exact hC2)
        have HI2 := hid hI2
        have HL2 := hid hcl2
        clear hU2 kw hgo hR2 hC2 hI2 hcl2
        go_wp2_with fail
        go_roundw
        case rel => exact ⟨i + 1, by omega, by go_num, z.1, n + z.2, cs2, hid HMo.out, HR2, HL2, HC2, HI2, HU2⟩
        case measure => simp [intOf]; omega
    · obtain rfl : i = m := by omega
      have hRs : R = some (y, n) := by have := Hy.out; rw [← HM.out, List.take_length, GR.out] at this; exact this
      subst hRs
      go_wp2_with fail
      go_ret
      exact ⟨HU.out, rfl, HRr.out, cs, Hcl.out, HCr.out, HIr.out⟩

set_option maxHeartbeats 8000000 in
theorem joinr_c {α : Type} (B : Nat) (wc : World) (pj gj og m : Nat) (hpB : B ≤ pj) (hgB : B ≤ gj) (ps : List (Pc α)) (sz : Nat) (Is : (Nat → Prop) → World → List Value → α → Prop)
    (h1 : wc.cell? ⟨pj, 0, none⟩ = some (.slice (some ⟨gj, og, none⟩) m m)) (hpl : pj < wc.heap.size) (hm : ps.length = m) (hm9 : m ≤ 9) (hP : Pcs wc gj og ps) (hW : ∀ P ∈ ps, Rd B wc sz Is P.rd P.kr P.cr)
    (hk : ∀ N W W' cs x, Keep N N W W' → Is N W cs x → Is N W' cs x) : Rd B wc sz Is (rdAll ps) 111 #[.pointer (some ⟨pj, 0, none⟩)] := by
  refine ⟨fun args w => by kernel_rfl, fun W N p g len at_ zs b o C t x hWc hR hz hbB hbp hbg hC hl hI hN hNp hNb => ?_⟩
  show Calls Tryz.prog 111 #[.pointer (some ⟨p, 0, none⟩), .pointer (some ⟨b, o, none⟩), .pointer (some ⟨pj, 0, none⟩)] W _
  have hmid := hR.mid
  have c0 := (hWc.atc 0 hpl (by omega)).trans h1
  obtain ⟨R, gR⟩ : ∃ R, rdAll ps x (zs.drop at_) = R := ⟨_, rfl⟩
  rw [gR]
  have GR := hid gR
  have HP := hid hP
  have HM := hid hm
  have HW := hid hW
  have HK := hid hk
  have HC := hid hWc
  have HR := hid hR
  have HZ := hid hz
  have HB := hid hC
  have HL := hid hl
  have HI := hid hI
  have HN := hid hN
  have HNp := hid hNp
  have HNb := hid hNb
  have HBB := hid hbB
  have hbl : b < W.heap.size := (Array.getElem?_eq_some_iff.1 hC).1
  clear hP hm hW hk hWc hR hz hC hl hI hN hNp hNb h1 gR hbB
  go_enter Tryz.func111, Tryz.ntmps111
  go_wp2_with fail
  go_loopw [11] (fun k wr => ∃ i : Nat, i ≤ m ∧ k = .int .i64 i ∧ ∃ (y : α) (n : Nat) (cs : List Value), Hid (rdAll (ps.take i) x (zs.drop at_) = some (y, n)) ∧ Hid (Rdr wr wc.heap.size p g len (at_ + n) zs) ∧ Hid (cs.length = sz) ∧ Hid (wr.heap[b]? = some (.cells (splice C o cs).toArray t (0, 0))) ∧ Hid (Is N wr cs y) ∧ Hid (Upd (fun k => k = p ∨ k = b) W wr)) (fun k _ => m - (intOf k).toNat)
  case atStart =>
    exact ⟨0, Nat.zero_le _, rfl, x, 0, (C.drop o).take sz, hid rfl, hid HR.out, hid (by simp; have := HL.out; omega), hid (by rw [splice_same C o sz HL.out]; exact HB.out), hid HI.out, hid (Upd.refl _ _)⟩
  case round =>
    obtain ⟨i, hi, rfl, y, n, cs, Hy, HRr, Hcl, HCr, HIr, HU⟩ := hrel
    by_cases hlt : i < m
    · have hil : i < ps.length := by rw [HM.out]; exact hlt
      have hbB := HBB.out
      have hbw : Upd (fun k => k < B) wc wr := HC.out.trans HU.out (fun k hk h => by rcases h with rfl | rfl <;> omega)
      obtain ⟨hgl, hcs⟩ := HP.out
      have d0 := (hbw.atc (og + i * 2) hgl (by omega)).trans (hcs i hil).1
      have d1 := (hbw.atc (og + i * 2 + 1) hgl (by omega)).trans (hcs i hil).2
      have hMem : ps[i] ∈ ps := List.getElem_mem hil
      have HMo := hid (rdAll_more ps x (zs.drop at_) i hil y n Hy.out)
      have HSt := hid (rdAll_stop ps x (zs.drop at_) (i + 1))
      have hwr := HW.out _ hMem
      generalize ps[i] = P at d0 d1 hwr HMo
      have hl := HL.out
      have hcl := Hcl.out
      have hls := length_splice C cs o (by omega)
      have hsz2 := HU.out.size
      have kw := hid (fun o' => hwr.2 (wr.alloc o') N p g len (at_ + n) zs b o (splice C o cs) t y (hbw.trans (Upd.alloc _ _ o') (fun _ _ h => h)) ⟨(((Below.refl _ _).alloc (Nat.le_refl _) o').block p (Array.getElem?_eq_some_iff.1 HRr.out.own).1).trans HRr.out.own, HRr.out.src.below ((Below.refl _ _).alloc (Nat.le_refl _) o'), HRr.out.lo, HRr.out.mid, HRr.out.ne, HRr.out.fit, HRr.out.cap, Nat.lt_of_lt_of_le HRr.out.gl ((Below.refl _ _).alloc (Nat.le_refl _) o').size⟩ HZ.out hbB hbp hbg ((((Below.refl _ _).alloc (Nat.le_refl _) o').block b (by omega)).trans HCr.out) (by omega) (by rw [splice_at C cs o sz hl hcl]; exact HK.out _ _ _ _ _ (Keep.below ((Below.refl _ _).alloc (Nat.le_refl _) o')) HIr.out) (fun k hk => HN.out k (by simp at hk; omega)) HNp.out HNb.out)
      rw [List.drop_drop] at HMo
      have hgo := hwr.1
      have hgw : gj < wr.heap.size := Nat.lt_of_lt_of_le hgl hbw.size
      obtain ⟨D, gD⟩ : ∃ D, P.rd y (zs.drop (at_ + n)) = D := ⟨_, rfl⟩
      simp only [gD] at kw
      rw [gD] at HMo
      clear hwr hcs hMem hil hbw gD hls hcl hl hsz2
      cases D with
      | none =>
        go_wp2_with fail
        refine (kw.out _).mono ?_
        rintro e w2 ⟨hU2, t', u', rfl⟩
        have HU2 : Hid (Upd (fun k => k = p ∨ k = b) W w2) := hid ((HU.out.trans (Upd.alloc (fun k => k = p ∨ k = b) _ _) (fun _ _ h => h)).trans hU2 (fun _ _ h => h))
        clear hU2 kw hgo
        go_wp2_with fail
        go_ret
        refine ⟨HU2.out, ?_⟩
        have hR0 := GR.out.symm.trans (HSt.out HMo.out)
        rw [hR0]
        exact ⟨t', u', rfl⟩
      | some z =>
        go_wp2_with fail
        refine (kw.out _).mono ?_
        rintro e w2 ⟨hU2, rfl, hR2, cs2, hcl2, hC2, hI2⟩
        have HU2 : Hid (Upd (fun k => k = p ∨ k = b) W w2) := hid ((HU.out.trans (Upd.alloc (fun k => k = p ∨ k = b) _ _) (fun _ _ h => h)).trans hU2 (fun _ _ h => h))
        have HR2 : Hid (Rdr w2 wc.heap.size p g len (at_ + (n + z.2)) zs) := hid (by rw [← Nat.add_assoc]; exact hR2)
        have HC2 : Hid (w2.heap[b]? = some (.cells (splice C o cs2).toArray t (0, 0))) := hid (by rw [splice_splice C cs cs2 o (by have := HL.out; have := Hcl.out; omega) (by rw [hcl2, Hcl.out])] at hC2; exact hC2)
        have HI2 := hid hI2
        have HL2 := hid hcl2
        clear hU2 kw hgo hR2 hC2 hI2 hcl2
        go_wp2_with fail
        go_roundw
        case rel => exact ⟨i + 1, by omega, by go_num, z.1, n + z.2, cs2, hid HMo.out, HR2, HL2, HC2, HI2, HU2⟩
        case measure => simp [intOf]; omega
    · obtain rfl : i = m := by omega
      have hRs : R = some (y, n) := by have := Hy.out; rw [← HM.out, List.take_length, GR.out] at this; exact this
      subst hRs
      go_wp2_with fail
      go_ret
      exact ⟨HU.out, rfl, HRr.out, cs, Hcl.out, HCr.out, HIr.out⟩

set_option maxHeartbeats 8000000 in
theorem joinr_w {α : Type} (B : Nat) (wc : World) (pj gj og m : Nat) (hpB : B ≤ pj) (hgB : B ≤ gj) (ps : List (Pc α)) (sz : Nat) (Is : (Nat → Prop) → World → List Value → α → Prop)
    (h1 : wc.cell? ⟨pj, 0, none⟩ = some (.slice (some ⟨gj, og, none⟩) m m)) (hpl : pj < wc.heap.size) (hm : ps.length = m) (hm9 : m ≤ 9) (hP : Pcs wc gj og ps) (hW : ∀ P ∈ ps, Rd B wc sz Is P.rd P.kr P.cr)
    (hk : ∀ N W W' cs x, Keep N N W W' → Is N W cs x → Is N W' cs x) : Rd B wc sz Is (rdAll ps) 121 #[.pointer (some ⟨pj, 0, none⟩)] := by
  refine ⟨fun args w => by kernel_rfl, fun W N p g len at_ zs b o C t x hWc hR hz hbB hbp hbg hC hl hI hN hNp hNb => ?_⟩
  show Calls Tryz.prog 121 #[.pointer (some ⟨p, 0, none⟩), .pointer (some ⟨b, o, none⟩), .pointer (some ⟨pj, 0, none⟩)] W _
  have hmid := hR.mid
  have c0 := (hWc.atc 0 hpl (by omega)).trans h1
  obtain ⟨R, gR⟩ : ∃ R, rdAll ps x (zs.drop at_) = R := ⟨_, rfl⟩
  rw [gR]
  have GR := hid gR
  have HP := hid hP
  have HM := hid hm
  have HW := hid hW
  have HK := hid hk
  have HC := hid hWc
  have HR := hid hR
  have HZ := hid hz
  have HB := hid hC
  have HL := hid hl
  have HI := hid hI
  have HN := hid hN
  have HNp := hid hNp
  have HNb := hid hNb
  have HBB := hid hbB
  have hbl : b < W.heap.size := (Array.getElem?_eq_some_iff.1 hC).1
  clear hP hm hW hk hWc hR hz hC hl hI hN hNp hNb h1 gR hbB
  go_enter Tryz.func121, Tryz.ntmps121
  go_wp2_with fail
  go_loopw [11] (fun k wr => ∃ i : Nat, i ≤ m ∧ k = .int .i64 i ∧ ∃ (y : α) (n : Nat) (cs : List Value), Hid (rdAll (ps.take i) x (zs.drop at_) = some (y, n)) ∧ Hid (Rdr wr wc.heap.size p g len (at_ + n) zs) ∧ Hid (cs.length = sz) ∧ Hid (wr.heap[b]? = some (.cells (splice C o cs).toArray t (0, 0))) ∧ Hid (Is N wr cs y) ∧ Hid (Upd (fun k => k = p ∨ k = b) W wr)) (fun k _ => m - (intOf k).toNat)
  case atStart =>
    exact ⟨0, Nat.zero_le _, rfl, x, 0, (C.drop o).take sz, hid rfl, hid HR.out, hid (by simp; have := HL.out; omega), hid (by rw [splice_same C o sz HL.out]; exact HB.out), hid HI.out, hid (Upd.refl _ _)⟩
  case round =>
    obtain ⟨i, hi, rfl, y, n, cs, Hy, HRr, Hcl, HCr, HIr, HU⟩ := hrel
    by_cases hlt : i < m
    · have hil : i < ps.length := by rw [HM.out]; exact hlt
      have hbB := HBB.out
      have hbw : Upd (fun k => k < B) wc wr := HC.out.trans HU.out (fun k hk h => by rcases h with rfl | rfl <;> omega)
      obtain ⟨hgl, hcs⟩ := HP.out
      have d0 := (hbw.atc (og + i * 2) hgl (by omega)).trans (hcs i hil).1
      have d1 := (hbw.atc (og + i * 2 + 1) hgl (by omega)).trans (hcs i hil).2
      have hMem : ps[i] ∈ ps := List.getElem_mem hil
      have HMo := hid (rdAll_more ps x (zs.drop at_) i hil y n Hy.out)
      have HSt := hid (rdAll_stop ps x (zs.drop at_) (i + 1))
      have hwr := HW.out _ hMem
      generalize ps[i] = P at d0 d1 hwr HMo
      have hl := HL.out
      have hcl := Hcl.out
      have hls := length_splice C cs o (by omega)
      have hsz2 := HU.out.size
      have kw := hid (fun o' => hwr.2 (wr.alloc o') N p g len (at_ + n) zs b o (splice C o cs) t y (hbw.trans (Upd.alloc _ _ o') (fun _ _ h => h)) ⟨(((Below.refl _ _).alloc (Nat.le_refl _) o').block p (Array.getElem?_eq_some_iff.1 HRr.out.own).1).trans HRr.out.own, HRr.out.src.below ((Below.refl _ _).alloc (Nat.le_refl _) o'), HRr.out.lo, HRr.out.mid, HRr.out.ne, HRr.out.fit, HRr.out.cap, Nat.lt_of_lt_of_le HRr.out.gl ((Below.refl _ _).alloc (Nat.le_refl _) o').size⟩ HZ.out hbB hbp hbg ((((Below.refl _ _).alloc (Nat.le_refl _) o').block b (by omega)).trans HCr.out) (by omega) (by rw [splice_at C cs o sz hl hcl]; exact HK.out _ _ _ _ _ (Keep.below ((Below.refl _ _).alloc (Nat.le_refl _) o')) HIr.out) (fun k hk => HN.out k (by simp at hk; omega)) HNp.out HNb.out)
      rw [List.drop_drop] at HMo
      have hgo := hwr.1
      have hgw : gj < wr.heap.size := Nat.lt_of_lt_of_le hgl hbw.size
      obtain ⟨D, gD⟩ : ∃ D, P.rd y (zs.drop (at_ + n)) = D := ⟨_, rfl⟩
      simp only [gD] at kw
      rw [gD] at HMo
      clear hwr hcs hMem hil hbw gD hls hcl hl hsz2
      cases D with
      | none =>
        go_wp2_with fail
        refine (kw.out _).mono ?_
        rintro e w2 ⟨hU2, t', u', rfl⟩
        have HU2 : Hid (Upd (fun k => k = p ∨ k = b) W w2) := hid ((HU.out.trans (Upd.alloc (fun k => k = p ∨ k = b) _ _) (fun _ _ h => h)).trans hU2 (fun _ _ h => h))
        clear hU2 kw hgo
        go_wp2_with fail
        go_ret
        refine ⟨HU2.out, ?_⟩
        have hR0 := GR.out.symm.trans (HSt.out HMo.out)
        rw [hR0]
        exact ⟨t', u', rfl⟩
      | some z =>
        go_wp2_with fail
        refine (kw.out _).mono ?_
        rintro e w2 ⟨hU2, rfl, hR2, cs2, hcl2, hC2, hI2⟩
        have HU2 : Hid (Upd (fun k => k = p ∨ k = b) W w2) := hid ((HU.out.trans (Upd.alloc (fun k => k = p ∨ k = b) _ _) (fun _ _ h => h)).trans hU2 (fun _ _ h => h))
        have HR2 : Hid (Rdr w2 wc.heap.size p g len (at_ + (n + z.2)) zs) := hid (by rw [← Nat.add_assoc]; exact hR2)
        have HC2 : Hid (w2.heap[b]? = some (.cells (splice C o cs2).toArray t (0, 0))) := hid (by rw [splice_splice C cs cs2 o (by have := HL.out; have := Hcl.out; omega) (by rw [hcl2, Hcl.out])] at hC2; exact hC2)
        have HI2 := hid hI2
        have HL2 := hid hcl2
        clear hU2 kw hgo hR2 hC2 hI2 hcl2
        go_wp2_with fail
        go_roundw
        case rel => exact ⟨i + 1, by omega, by go_num, z.1, n + z.2, cs2, hid HMo.out, HR2, HL2, HC2, HI2, HU2⟩
        case measure => simp [intOf]; omega
    · obtain rfl : i = m := by omega
      have hRs : R = some (y, n) := by have := Hy.out; rw [← HM.out, List.take_length, GR.out] at this; exact this
      subst hRs
      go_wp2_with fail
      go_ret
      exact ⟨HU.out, rfl, HRr.out, cs, Hcl.out, HCr.out, HIr.out⟩

end Go.Proofs.YtpbhcmfbcnihiaaGreat
