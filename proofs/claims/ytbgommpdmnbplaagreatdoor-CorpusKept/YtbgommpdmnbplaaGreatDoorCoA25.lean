/- The corpus and what it stands on, merged. -/
import Derived.Test.YtbgommpdmnbplaaGreatDoorCoA8
import Derived.Test.YtbgommpdmnbplaaGreatDoorCoA20
import Derived.Test.YtbgommpdmnbplaaGreatDoorCoA19
import Derived.Test.YtbgommpdmnbplaaGreatDoorCoA18

/- What reads a record: its numbers and texts. -/
namespace Go.Proofs.YtbgommpdmnbplaaGreatDoor
open Go.RowKit Co Num Jr
set_option linter.unusedVariables false
set_option maxRecDepth 20000

/-- The fields of a record under way: the reader at rp, whether something was wrong. -/
structure Fw (w : World) (B fp rp g len at_ : Nat) (zs : List Int) (wr : Bool) : Prop where
  f : w.heap[fp]? = some (.cells #[.pointer (some ⟨rp, 0, none⟩), .bool wr] 150 (0, 0))
  r : Rdr w B rp g len at_ zs
  fr : fp ≠ rp
  fg : fp ≠ g
  lo : B ≤ fp
/-- Where it stands. -/
def fs (zs : List Int) (at_ : Nat) (wr : Bool) : Fs := (zs.drop at_, wr)

theorem Fw.upd {w w' : World} {B fp rp g len at_ : Nat} {zs : List Int} {wr : Bool} {G : Nat → Prop} (h : Fw w B fp rp g len at_ zs wr) (u : Upd G w w') (h1 : ¬ G fp) (h2 : ¬ G rp) (h3 : ¬ G g) : Fw w' B fp rp g len at_ zs wr :=
  ⟨u.heap h.f h1, ⟨u.heap h.r.own h2, u.src h.r.src (fun b o e => by injection e with e; injection e with e _; rw [← e]; exact h3), h.r.lo, h.r.mid, h.r.ne, h.r.fit, h.r.cap, Nat.lt_of_lt_of_le h.r.gl u.size⟩, h.fr, h.fg, h.lo⟩
theorem Fw.below {w w' : World} {B fp rp g len at_ : Nat} {zs : List Int} {wr : Bool} (h : Fw w B fp rp g len at_ zs wr) (u : Below w.heap.size w w') : Fw w' B fp rp g len at_ zs wr :=
  h.upd (Upd.of_below (F := fun _ => False) u) (fun h => h) (fun h => h) (fun h => h)
theorem Fw.set {w w' : World} {B fp rp g len at_ at2 : Nat} {zs : List Int} {wr : Bool} (h : Fw w B fp rp g len at_ zs wr) (hr : Rdr w' B rp g len at2 zs) (ho : Only rp w w') (b : Bool) : Fw (w'.setCell ⟨fp, 1, none⟩ (.bool b)) B fp rp g len at2 zs b := by
  have hf : w'.heap[fp]? = _ := (ho.block fp h.fr).trans h.f
  refine ⟨?_, hr.only (q := fp) ⟨rfl, rfl, rfl, by simp [World.setCell], fun k hk => heap_setCell_other w' _ k _ hk⟩ (fun e => h.fr e.symm) (fun e => h.fg e.symm), h.fr, h.fg, h.lo⟩
  rw [heap_setCell_same w' fp 1 _ _ _ hf]
  rfl
theorem only_upd {p : Nat} {w w' : World} (h : Only p w w') : Upd (· = p) w w' := ⟨h.os, h.tape, h.output, by rw [h.size]; exact Nat.le_refl _, fun k _ hk => h.block k hk⟩

/-- What a step of the fields leaves. -/
def FldP (w : World) (B fp rp g len : Nat) (zs : List Int) (v : Value) (s : Fs) (r : Ending) (w' : World) : Prop := ∃ at2 wr2, r = .returned v ∧ Fw w' B fp rp g len at2 zs wr2 ∧ fs zs at2 wr2 = s ∧ Upd (fun x => x = fp ∨ x = rp) w w' ∧ w'.heap.size = w.heap.size

set_option maxHeartbeats 2000000 in
theorem fnum_any (B fp rp g len at_ : Nat) (zs : List Int) (wr : Bool) (w : World) (h : Fw w B fp rp g len at_ zs wr) (hz : Bytes zs) :
    Calls Tryz.prog 93 #[.pointer (some ⟨fp, 0, none⟩)] w (FldP w B fp rp g len zs (.int .i64 ((num (fs zs at_ wr)).1 : Nat)) (num (fs zs at_ wr)).2) := by
  have c0 : w.cell? ⟨fp, 0, none⟩ = some (.pointer (some ⟨rp, 0, none⟩)) := heap_cells h.f 0 _ rfl
  have c1 : w.cell? ⟨fp, 1, none⟩ = some (.bool wr) := heap_cells h.f 1 _ rfl
  cases wr with
  | true =>
    have HH := hid h
    have e1 : num (fs zs at_ true) = (0, fs zs at_ true) := by simp [Co.num, fs]
    rw [e1]
    have GE := hid e1
    clear h e1
    go_enter Tryz.func93, Tryz.ntmps93
    go_wp2_with fail
    go_ret
    exact ⟨at_, true, rfl, HH.out, rfl, Upd.refl _ _, rfl⟩
  | false =>
    have k1 := hid (uint_any B rp g len at_ zs w h.r hz)
    have e1 : num (fs zs at_ false) = ((dec (zs.drop at_)).1, (zs.drop (at_ + (dec (zs.drop at_)).2.1), decide ((dec (zs.drop at_)).2.2 ≠ 0))) := by
      unfold Co.num fs
      rw [if_neg (by simp), List.drop_drop]
    rw [e1]
    clear e1
    obtain ⟨D, gD⟩ : ∃ D, D = dec (zs.drop at_) := ⟨_, rfl⟩
    rw [← gD] at k1
    rw [← gD]
    obtain ⟨n, k, e⟩ := D
    simp only at k1 ⊢
    have HH := hid h
    clear h gD
    by_cases he : e = 0
    · subst he
      go_enter Tryz.func93, Tryz.ntmps93
      go_wp2_with (first | (go_at_call 141; refine k1.out.mono ?_; rintro r w1 ⟨rfl, hr1, ho1⟩; have HR1 := hid hr1; have HO1 := hid ho1; have z1 : w1.cell? ⟨fp, 1, none⟩ = some (.bool false) := heap_cells ((ho1.block fp HH.out.fr).trans HH.out.f) 1 _ rfl; have y1 : w1.frozen? ⟨fp, 1, none⟩ = false := frozen_of_row w1 fp 1 _ _ ((ho1.block fp HH.out.fr).trans HH.out.f); clear hr1 ho1 k1))
      go_ret
      exact ⟨at_ + k, false, rfl, HH.out.set HR1.out HO1.out false, by simp [fs], ((only_upd HO1.out).mono (fun x _ h => .inr h)).trans (Upd.setCell (F := fun x => x = fp ∨ x = rp) _ _ _ (.inl rfl)) (fun x _ h => h), by simp [World.setCell, HO1.out.size]⟩
    · have hev : ¬ (e : Int) = 0 := by omega
      have hevb : ((e : Int) != 0) = true := by simp; omega
      go_enter Tryz.func93, Tryz.ntmps93
      go_wp2_with (first | (go_at_call 141; refine k1.out.mono ?_; rintro r w1 ⟨rfl, hr1, ho1⟩; have HR1 := hid hr1; have HO1 := hid ho1; have z1 : w1.cell? ⟨fp, 1, none⟩ = some (.bool false) := heap_cells ((ho1.block fp HH.out.fr).trans HH.out.f) 1 _ rfl; have y1 : w1.frozen? ⟨fp, 1, none⟩ = false := frozen_of_row w1 fp 1 _ _ ((ho1.block fp HH.out.fr).trans HH.out.f); clear hr1 ho1 k1))
      go_ret
      exact ⟨at_ + k, true, rfl, HH.out.set HR1.out HO1.out true, by simp [fs, he], ((only_upd HO1.out).mono (fun x _ h => .inr h)).trans (Upd.setCell (F := fun x => x = fp ∨ x = rp) _ _ _ (.inl rfl)) (fun x _ h => h), by simp [World.setCell, HO1.out.size]⟩

set_option maxHeartbeats 2000000 in
theorem ftext_any (most : Nat) (B fp rp g len at_ : Nat) (zs : List Int) (wr : Bool) (w : World) (h : Fw w B fp rp g len at_ zs wr) (hz : Bytes zs) :
    Calls Tryz.prog 96 #[.pointer (some ⟨fp, 0, none⟩), .int .i64 (most : Nat)] w (FldP w B fp rp g len zs (.string (strOfNums (txtF most (fs zs at_ wr)).1)) (txtF most (fs zs at_ wr)).2) := by
  have c0 : w.cell? ⟨fp, 0, none⟩ = some (.pointer (some ⟨rp, 0, none⟩)) := heap_cells h.f 0 _ rfl
  have c1 : w.cell? ⟨fp, 1, none⟩ = some (.bool wr) := heap_cells h.f 1 _ rfl
  cases wr with
  | true =>
    have HH := hid h
    have e1 : txtF most (fs zs at_ true) = ([], fs zs at_ true) := by simp [txtF, fs]
    have e2 : strOfNums [] = ⟨#[]⟩ := by decide
    rw [e1, e2]
    clear h e1 e2
    go_enter Tryz.func96, Tryz.ntmps96
    go_wp2_with fail
    go_ret
    exact ⟨at_, true, rfl, HH.out, rfl, Upd.refl _ _, rfl⟩
  | false =>
    have k1 := hid (rtext_any B rp g len at_ zs most w h.r hz)
    have e1 : txtF most (fs zs at_ false) = ((txt (zs.drop at_) most).1, (zs.drop (at_ + (txt (zs.drop at_) most).2.1), decide ((txt (zs.drop at_) most).2.2 ≠ 0))) := by
      unfold txtF fs
      rw [if_neg (by simp), List.drop_drop]
    rw [e1]
    clear e1
    obtain ⟨D, gD⟩ : ∃ D, D = txt (zs.drop at_) most := ⟨_, rfl⟩
    rw [← gD] at k1
    rw [← gD]
    obtain ⟨n, k, e⟩ := D
    simp only at k1 ⊢
    have HH := hid h
    clear h gD
    obtain ⟨sn, gsn⟩ : ∃ sn, sn = strOfNums n := ⟨_, rfl⟩
    rw [← gsn] at k1
    rw [← gsn]
    clear gsn
    by_cases he : e = 0
    · subst he
      go_enter Tryz.func96, Tryz.ntmps96
      go_wp2_with (first | (go_at_call 144; refine k1.out.mono ?_; rintro r w1 ⟨rfl, hr1, ho1⟩; have HR1 := hid hr1; have HO1 := hid ho1; have z1 : w1.cell? ⟨fp, 1, none⟩ = some (.bool false) := heap_cells ((ho1.block fp HH.out.fr).trans HH.out.f) 1 _ rfl; have y1 : w1.frozen? ⟨fp, 1, none⟩ = false := frozen_of_row w1 fp 1 _ _ ((ho1.block fp HH.out.fr).trans HH.out.f); clear hr1 ho1 k1))
      go_ret
      exact ⟨at_ + k, false, rfl, HH.out.set HR1.out HO1.out false, by simp [fs], ((only_upd HO1.out).mono (fun x _ h => .inr h)).trans (Upd.setCell (F := fun x => x = fp ∨ x = rp) _ _ _ (.inl rfl)) (fun x _ h => h), by simp [World.setCell, HO1.out.size]⟩
    · have hev : ¬ (e : Int) = 0 := by omega
      have hevb : ((e : Int) != 0) = true := by simp; omega
      go_enter Tryz.func96, Tryz.ntmps96
      go_wp2_with (first | (go_at_call 144; refine k1.out.mono ?_; rintro r w1 ⟨rfl, hr1, ho1⟩; have HR1 := hid hr1; have HO1 := hid ho1; have z1 : w1.cell? ⟨fp, 1, none⟩ = some (.bool false) := heap_cells ((ho1.block fp HH.out.fr).trans HH.out.f) 1 _ rfl; have y1 : w1.frozen? ⟨fp, 1, none⟩ = false := frozen_of_row w1 fp 1 _ _ ((ho1.block fp HH.out.fr).trans HH.out.f); clear hr1 ho1 k1))
      go_ret
      exact ⟨at_ + k, true, rfl, HH.out.set HR1.out HO1.out true, by simp [fs, he], ((only_upd HO1.out).mono (fun x _ h => .inr h)).trans (Upd.setCell (F := fun x => x = fp ∨ x = rp) _ _ _ (.inl rfl)) (fun x _ h => h), by simp [World.setCell, HO1.out.size]⟩

theorem rend_any (B p g len at_ : Nat) (zs : List Int) (w : World) (h : Rdr w B p g len at_ zs) : Calls Tryz.prog 143 #[.pointer (some ⟨p, 0, none⟩)] w fun e w' => e = .returned (.int .i64 ((if at_ < len then 13 else 0 : Nat) : Int)) ∧ ∃ n, w' = w.drewN n := by
  have k1 := hid (usable_any p w h.c2)
  have k2 := hid (left_any B p g len at_ zs w h)
  have hf := h.fit
  clear h
  by_cases hl : at_ < len
  · have hv : (0 : Int) < ((len - at_ : Nat) : Int) := by omega
    rw [if_pos hl]
    obtain ⟨q, gq⟩ : ∃ q, q = len - at_ := ⟨_, rfl⟩
    rw [← gq] at k2 hv
    clear gq
    go_enter Tryz.func143, Tryz.ntmps143
    go_wp2_with (first | (go_at_call 193; refine k1.out.mono ?_; rintro r wx ⟨rfl, h⟩; subst wx) | (go_at_call 197; refine k2.out.mono ?_; rintro r w1 ⟨rfl, n1, rfl⟩))
    go_ret
    exact ⟨rfl, n1, rfl⟩
  · rw [if_neg hl]
    have hq : len - at_ = 0 := by omega
    rw [hq] at k2
    clear hq
    go_enter Tryz.func143, Tryz.ntmps143
    go_wp2_with (first | (go_at_call 193; refine k1.out.mono ?_; rintro r wx ⟨rfl, h⟩; subst wx) | (go_at_call 197; refine k2.out.mono ?_; rintro r w1 ⟨rfl, n1, rfl⟩))
    go_ret
    exact ⟨rfl, n1, rfl⟩

/-- Whether all was read. -/
def EndP (w : World) (s : Fs) (e : Ending) (w' : World) : Prop := ∃ b : Bool, e = .returned (.bool b) ∧ (b = true ↔ ended s) ∧ ∃ n, w' = w.drewN n
theorem fend_any (B fp rp g len at_ : Nat) (zs : List Int) (wr : Bool) (w : World) (h : Fw w B fp rp g len at_ zs wr) : Calls Tryz.prog 95 #[.pointer (some ⟨fp, 0, none⟩)] w (EndP w (fs zs at_ wr)) := by
  have c0 : w.cell? ⟨fp, 0, none⟩ = some (.pointer (some ⟨rp, 0, none⟩)) := heap_cells h.f 0 _ rfl
  have c1 : w.cell? ⟨fp, 1, none⟩ = some (.bool wr) := heap_cells h.f 1 _ rfl
  have hlen := h.r.src.1
  cases wr with
  | true =>
    clear h
    go_enter Tryz.func95, Tryz.ntmps95
    go_wp2_with fail
    go_ret
    exact ⟨false, rfl, by simp [ended, fs], 0, rfl⟩
  | false =>
    have k1 := hid (rend_any B rp g len at_ zs w h.r)
    have HL := hid hlen
    clear h hlen
    by_cases hl : at_ < len
    · rw [if_pos hl] at k1
      go_enter Tryz.func95, Tryz.ntmps95
      go_wp2_with (first | (go_at_call 143; refine k1.out.mono ?_; rintro r w1 ⟨rfl, n1, rfl⟩))
      go_ret
      refine ⟨false, rfl, ?_, n1, rfl⟩
      simp only [ended, fs, Bool.false_eq_true, false_iff, not_and]
      intro _ h
      have := congrArg List.length h
      rw [List.length_drop, HL.out] at this
      simp at this
      omega
    · rw [if_neg hl] at k1
      go_enter Tryz.func95, Tryz.ntmps95
      go_wp2_with (first | (go_at_call 143; refine k1.out.mono ?_; rintro r w1 ⟨rfl, n1, rfl⟩))
      go_ret
      refine ⟨true, rfl, ?_, n1, rfl⟩
      simp only [ended, fs, true_iff, true_and]
      exact List.drop_eq_nil_of_le (by rw [HL.out]; omega)
end Go.Proofs.YtbgommpdmnbplaaGreatDoor

/- What reads a record: lists of numbers. -/
namespace Go.Proofs.YtbgommpdmnbplaaGreatDoor
open Go.RowKit Co Num Jr
set_option linter.unusedVariables false
set_option maxRecDepth 20000

/-- What numbers leaves. -/
def NumsP (w : World) (B fp rp g len : Nat) (zs : List Int) (L : List Int) (s : Fs) (r : Ending) (w' : World) : Prop := ∃ (at2 : Nat) (wr2 : Bool) (a : Option Addr) (c : Nat), r = .returned (.slice a L.length c) ∧ Fw w' B fp rp g len at2 zs wr2 ∧ fs zs at2 wr2 = s ∧ w'.ownsRow w.heap.size 3 1 (.slice a L.length c) L.length (L.map (Value.int .i64)) ∧ L.length ≤ len + 1 ∧ Upd (fun x => x = fp ∨ x = rp) w w'

theorem num_pos {zs : List Int} (hz : Bytes zs) (at_ : Nat) : (Co.num (fs zs at_ false)).1 < 9223372036854775808 ∧ ((Co.num (fs zs at_ false)).2.2 = false → (Co.num (fs zs at_ false)).2.1.length < (zs.drop at_).length) := by
  have h := dec_got (zs.drop at_) (hz.drop at_)
  unfold Co.num fs
  rw [if_neg (by simp)]
  rcases h with ⟨h1, h2, h3, h4, h5, _⟩ | ⟨h1, h2, h3⟩
  · refine ⟨h2, fun _ => ?_⟩
    show ((zs.drop at_).drop (dec (zs.drop at_)).2.1).length < _
    rw [List.length_drop]
    omega
  · refine ⟨by show (dec (zs.drop at_)).1 < _; omega, fun h => ?_⟩
    have : decide ((dec (zs.drop at_)).2.2 ≠ 0) = false := h
    simp [h1] at this
theorem numsF_zero (s : Fs) : numsF 0 s = ([], s) := rfl
theorem numsF_wrong (n : Nat) (r : List Int) : numsF n (r, true) = ([], (r, true)) := by
  cases n with
  | zero => rfl
  | succ n => simp [numsF]

theorem ilX (w : World) (x : Int) : Ilst (w.alloc (.cells #[.int .i64 x] 3)) (some ⟨w.heap.size, 0, none⟩) 1 1 [x] := ⟨rfl, fun _ => ⟨w.heap.size, 0, rfl, by simp, fun j hj => by
  have : j = 0 := by omega
  subst this
  exact heap_cells (heap_alloc_new w (.cells #[.int .i64 x] 3)) 0 _ rfl⟩, fun h => by cases h⟩
theorem num_mono (zs : List Int) (at_ : Nat) : (Co.num (fs zs at_ false)).2.1.length ≤ (zs.drop at_).length := by
  unfold Co.num fs
  rw [if_neg (by simp)]
  show ((zs.drop at_).drop _).length ≤ _
  rw [List.length_drop]
  omega

set_option maxHeartbeats 4000000 in
theorem fnums_any (B fp rp g len at_ : Nat) (zs : List Int) (wr0 : Bool) (w : World) (h : Fw w B fp rp g len at_ zs wr0) (hz : Bytes zs) (hl : len ≤ 100000) :
    Calls Tryz.prog 142 #[.pointer (some ⟨fp, 0, none⟩)] w (NumsP w B fp rp g len zs (numbers (fs zs at_ wr0)).1 (numbers (fs zs at_ wr0)).2) := by
  obtain ⟨i0, hi0, hz0, hz1, hz2⟩ := info_parts infoInt
  have hlt : fp < w.heap.size ∧ rp < w.heap.size ∧ g < w.heap.size := ⟨(Array.getElem?_eq_some_iff.1 h.f).1, (Array.getElem?_eq_some_iff.1 h.r.own).1, h.r.gl⟩
  have hzl := h.r.src.1
  have k1 := hid (fnum_any B fp rp g len at_ zs wr0 w h hz)
  have hwr : wr0 = true → (Co.num (fs zs at_ wr0)).1 = 0 := fun e => by subst e; simp [Co.num, fs]
  have hn63 : (Co.num (fs zs at_ wr0)).1 < 9223372036854775808 := by
    cases wr0 with
    | true => rw [hwr rfl]; omega
    | false => exact (num_pos hz at_).1
  obtain ⟨L, gL⟩ : ∃ L, L = (numbers (fs zs at_ wr0)).1 := ⟨_, rfl⟩
  obtain ⟨s2, gs2⟩ : ∃ s2, s2 = (numbers (fs zs at_ wr0)).2 := ⟨_, rfl⟩
  rw [← gL, ← gs2]
  unfold numbers at gL gs2
  obtain ⟨cn, gcn⟩ : ∃ cn, cn = (Co.num (fs zs at_ wr0)).1 := ⟨_, rfl⟩
  obtain ⟨s1, gs1⟩ : ∃ s1, s1 = (Co.num (fs zs at_ wr0)).2 := ⟨_, rfl⟩
  rw [← gcn, ← gs1] at gL gs2 k1
  rw [← gcn] at hn63
  have GL := hid gL
  have GS2 := hid gs2
  have HZ := hid hz
  have HZL := hid hzl
  have hf := h.r.fit
  clear h gL gs2 gcn gs1 hwr hz hzl
  go_enter Tryz.func142, Tryz.ntmps142
  go_upto_region 3 with (first | (go_at_call 93; refine k1.out.mono ?_; rintro r w1 ⟨at1, wr1, rfl, hf1, hs1, hu1, hz1'⟩; have HF1 := hid hf1; have HS1 := hid hs1; have HU1 := hid hu1; have HSZ := hid hz1'; clear hf1 hs1 hu1 hz1' k1))
  go_loopw [3, 4] (fun v k wx => ∃ (lf at2 : Nat) (wr2 : Bool) (a : Option Addr) (c : Nat) (P : List Int), v = .slice a P.length c ∧ k = .int .i64 lf ∧ lf < 9223372036854775808 ∧ P.length ≤ len + (if wr2 then 1 else 0) ∧ Hid (Fw wx B fp rp g len at2 zs wr2 ∧ wx.ownsRow w.heap.size 3 1 v P.length (P.map (Value.int .i64)) ∧ (P.length + (zs.drop at2).length ≤ len + (if wr2 then 1 else 0)) ∧ L = P ++ (numsF lf (fs zs at2 wr2)).1 ∧ s2 = (numsF lf (fs zs at2 wr2)).2 ∧ Upd (fun x => x = fp ∨ x = rp) w wx ∧ w.heap.size ≤ wx.heap.size)) (fun _ k _ => (intOf k).toNat)
  case atStart =>
    refine ⟨cn, at1, wr1, none, 0, [], rfl, rfl, hn63, by simp, hid ⟨HF1.out, World.ownsRow_nil _ _ _ _, ?_, ?_, ?_, HU1.out, by rw [HSZ.out]; exact Nat.le_refl _⟩⟩
    · rw [List.length_drop, HZL.out]; simp; omega
    · rw [GL.out, ← HS1.out]; rfl
    · rw [GS2.out, ← HS1.out]
  case round =>
    obtain ⟨lf, at2, wr2, a, c, P, rfl, rfl, hlf, hpl, HA⟩ := hrel
    by_cases h0 : lf = 0
    · subst h0
      have hLP : L = P := by have := HA.out.2.2.2.1; rw [numsF_zero, List.append_nil] at this; exact this
      have hs2 : fs zs at2 wr2 = s2 := by have := HA.out.2.2.2.2.1; rw [numsF_zero] at this; exact this.symm
      have HLP := hid hLP
      have HS2 := hid hs2
      clear hLP hs2
      go_wp2_with fail
      go_ret
      refine ⟨at2, wr2, a, c, by rw [HLP.out]; rfl, HA.out.1, HS2.out, by rw [HLP.out]; exact HA.out.2.1, ?_, HA.out.2.2.2.2.2.1⟩
      rw [HLP.out]
      cases wr2 <;> simp at hpl <;> omega
    · have h0v : (0 : Int) < (lf : Int) := by omega
      have c1 : wr.cell? ⟨fp, 1, none⟩ = some (.bool wr2) := heap_cells HA.out.1.f 1 _ rfl
      cases wr2 with
      | true =>
        have hLP : L = P := by have := HA.out.2.2.2.1; unfold fs at this; rw [numsF_wrong, List.append_nil] at this; exact this
        have hs2 : fs zs at2 true = s2 := by have := HA.out.2.2.2.2.1; unfold fs at this; rw [numsF_wrong] at this; exact this.symm
        have HLP := hid hLP
        have HS2 := hid hs2
        clear hLP hs2
        go_wp2_with fail
        go_ret
        refine ⟨at2, true, a, c, by rw [HLP.out]; rfl, HA.out.1, HS2.out, by rw [HLP.out]; exact HA.out.2.1, ?_, HA.out.2.2.2.2.2.1⟩
        rw [HLP.out]
        simp at hpl
        omega
      | false =>
        obtain ⟨l1, gl1⟩ : ∃ l1, lf = l1 + 1 := ⟨lf - 1, by omega⟩
        have k2 := hid (fnum_any B fp rp g len at2 zs false wr HA.out.1 HZ.out)
        have hnp := num_pos HZ.out at2
        have hstep : numsF lf (fs zs at2 false) = (((Co.num (fs zs at2 false)).1 : Int) :: (numsF l1 (Co.num (fs zs at2 false)).2).1, (numsF l1 (Co.num (fs zs at2 false)).2).2) := by rw [gl1]; simp [numsF, fs]
        obtain ⟨x, gx⟩ : ∃ x, x = (Co.num (fs zs at2 false)).1 := ⟨_, rfl⟩
        obtain ⟨t, gt⟩ : ∃ t, t = (Co.num (fs zs at2 false)).2 := ⟨_, rfl⟩
        rw [← gx, ← gt] at k2 hstep hnp
        have hlL : L = P ++ (x : Int) :: (numsF l1 t).1 := by have := HA.out.2.2.2.1; rw [hstep] at this; exact this
        have hs2 : s2 = (numsF l1 t).2 := by have := HA.out.2.2.2.2.1; rw [hstep] at this; exact this
        have hps := HA.out.2.2.1
        have e1 : (lf : Int) - 1 = (l1 : Int) := by omega
        have HX : Hid ((x, t) = Co.num (fs zs at2 false)) := hid (by rw [gx, gt])
        have HNP := hid hnp
        have HLL := hid hlL
        have HS2 := hid hs2
        have HPS := hid hps
        have GL1 := hid gl1
        clear gx gt hnp hstep hlL hs2 hps gl1
        go_upto_region 5 with fail
        go_wp2_with (first
          | (go_at_call 93; refine k2.out.mono ?_; rintro r w3 ⟨at3, wr3, rfl, hf3, hs3, hu3, hz3⟩; have HF3 := hid hf3; have HS3 := hid hs3; have HU3 := hid hu3; have HZ3 := hid hz3; clear hf3 hs3 hu3 hz3 k2; have HO3 : Hid (w3.ownsRow w.heap.size 3 1 (.slice a P.length c) P.length (P.map (Value.int .i64))) := hid (HU3.out.own HA.out.2.1 (fun k hk e => by have := (HA.out.2.1.lt k hk).1; rcases e with e | e <;> omega)))
          | (at_builtin; go_must (refine wpList_append_lst _ rfl _ _ 35 rfl w.heap.size i0 Tryz.underlying35 hi0 hz0 hz1 hz2 (.slice a P.length c) P.length (P.map (Value.int .i64)) rfl (HO3.out.alloc _) (some ⟨w3.heap.size, 0, none⟩) 1 1 [(x : Int)] rfl (ilX w3 x) (by simp at hpl; omega) (by have := HA.out.2.2.2.2.2.2; have := HZ3.out; simp; omega) ?_; intro v4 w4 ho4 hg4; have HO4 := hid ho4; have HG4 := hid hg4; clear ho4 hg4)))
        have ho4 := HO4.out
        have hlen4 : (P ++ [(x : Int)]).length = P.length + 1 := by simp
        have ho4' : w4.ownsRow w.heap.size 3 1 v4 (P ++ [(x : Int)]).length ((P ++ [(x : Int)]).map (Value.int .i64)) := by rw [hlen4, List.map_append]; exact ho4
        obtain ⟨a4, c4, e4, _, _⟩ := own_shape ho4'
        subst e4
        have hgU := Upd.of_grown HG4.out
        have hU34 : Upd (fun k => some k = (Value.slice a P.length c).ownBlock) w3 w4 := (Upd.alloc _ w3 _).trans hgU (fun k _ h => h)
        have hne : ∀ k, k < w.heap.size → ¬ some k = (Value.slice a P.length c).ownBlock := fun k hk e => by have := (HA.out.2.1.lt k e.symm).1; omega
        have hF4 := HF3.out.upd hU34 (hne fp hlt.1) (hne rp hlt.2.1) (hne g hlt.2.2)
        have hUw : Upd (fun x => x = fp ∨ x = rp) w w4 := (HA.out.2.2.2.2.2.1.trans HU3.out (fun k _ h => h)).trans hU34 (fun k hk h => absurd h (hne k hk))
        have hsz4 : w.heap.size ≤ w4.heap.size := hUw.size
        have ht3 : t = fs zs at3 wr3 := HS3.out.symm
        have hcnt : (P ++ [(x : Int)]).length + (zs.drop at3).length ≤ len + (if wr3 then 1 else 0) := by
          have h1 := HPS.out
          have h2 := HNP.out.2
          rw [ht3] at h2
          simp only [fs, Bool.false_eq_true, if_false] at h1 h2
          rw [hlen4]
          cases wr3 with
          | false =>
            have := h2 rfl
            rw [if_neg (by simp)]
            omega
          | true =>
            have h3 : (zs.drop at3).length ≤ (zs.drop at2).length := by
              have := num_mono zs at2
              rw [← HX.out, ht3] at this
              exact this
            rw [if_pos rfl]
            omega
        have hp1 : (P ++ [(x : Int)]).length ≤ len + (if wr3 then 1 else 0) := by omega
        go_roundw
        case rel =>
          refine ⟨l1, at3, wr3, a4, c4, P ++ [(x : Int)], rfl, by go_num, by have := GL1.out; omega, hp1, hid ⟨hF4, ho4', hcnt, ?_, ?_, hUw, hsz4⟩⟩
          · rw [HLL.out, ht3]; simp
          · rw [HS2.out, ht3]
        case measure => simp [intOf]; have := GL1.out; omega
end Go.Proofs.YtbgommpdmnbplaaGreatDoor

/- What reads a record: an entry. -/
namespace Go.Proofs.YtbgommpdmnbplaaGreatDoor
open Go.RowKit Co Num Jr
set_option linter.unusedVariables false
set_option maxRecDepth 20000

/-- An entry that is read: its cells at a block of its own, behind one for the answer. -/
structure En (w X : World) (fp rp : Nat) (cs : List Value) : Prop where
  b1 : X.heap[w.heap.size + 1]? = some (.cells cs.toArray 37 (0, 0))
  b0 : X.heap[w.heap.size]? = some (.cells ([.string ⟨#[]⟩, .string ⟨#[]⟩, .slice none 0 0, .int .i64 0, .slice none 0 0] : List Value).toArray 37 (0, 0))
  u : Upd (fun x => x = fp ∨ x = rp) w X
  s : w.heap.size + 2 ≤ X.heap.size
theorem En.call {w X X' : World} {fp rp : Nat} {cs : List Value} (h : En w X fp rp cs) (u : Upd (fun x => x = fp ∨ x = rp) X X') (hf : fp < w.heap.size) (hr : rp < w.heap.size) : En w X' fp rp cs :=
  ⟨u.heap h.b1 (fun e => by rcases e with e | e <;> omega), u.heap h.b0 (fun e => by rcases e with e | e <;> omega), h.u.trans u (fun _ _ h => h), Nat.le_trans h.s u.size⟩
theorem En.set {w X : World} {fp rp : Nat} {cs : List Value} (h : En w X fp rp cs) (j : Nat) (v : Value) : En w (X.setCell ⟨w.heap.size + 1, j, none⟩ v) fp rp (cs.set j v) := by
  refine ⟨?_, ?_, h.u.trans (Upd.setCell (F := fun x => x = w.heap.size + 1) _ _ _ rfl) (fun x hx e => by have e' : x = w.heap.size + 1 := e; omega), by simpa [World.setCell] using h.s⟩
  · rw [heap_setCell_same X _ j _ _ _ h.b1]; simp
  · rw [heap_setCell_other X _ _ _ (by simp)]; exact h.b0

/-- What entry reads. -/
def EntP (w : World) (B fp rp g len : Nat) (zs : List Int) (e : Ety) (s : Fs) (r : Ending) (w' : World) : Prop := ∃ (v : Value) (at2 : Nat) (wr2 : Bool), r = .returned v ∧ EvN w' w.heap.size v e ∧ Fw w' B fp rp g len at2 zs wr2 ∧ fs zs at2 wr2 = s ∧ Upd (fun x => x = fp ∨ x = rp) w w' ∧ e.p.length ≤ len + 1 ∧ e.q.length ≤ len + 1

set_option maxHeartbeats 8000000 in
theorem fent_any (B fp rp g len at_ : Nat) (zs : List Int) (wr0 : Bool) (w : World) (h : Fw w B fp rp g len at_ zs wr0) (hz : Bytes zs) (hl : len ≤ 100000) :
    Calls Tryz.prog 94 #[.pointer (some ⟨fp, 0, none⟩)] w (EntP w B fp rp g len zs (entF (fs zs at_ wr0)).1 (entF (fs zs at_ wr0)).2) := by
  have hfp : fp < w.heap.size := (Array.getElem?_eq_some_iff.1 h.f).1
  have hrp : rp < w.heap.size := (Array.getElem?_eq_some_iff.1 h.r.own).1
  have hgl := h.r.gl
  obtain ⟨R, gR⟩ : ∃ R, R = entF (fs zs at_ wr0) := ⟨_, rfl⟩
  rw [← gR]
  unfold entF at gR
  obtain ⟨W, gW⟩ : ∃ W, W = (w.alloc (.cells #[.string ⟨#[]⟩, .string ⟨#[]⟩, .slice none 0 0, .int .i64 0, .slice none 0 0] 37)).alloc (.cells #[.string ⟨#[]⟩, .string ⟨#[]⟩, .slice none 0 0, .int .i64 0, .slice none 0 0] 37) := ⟨_, rfl⟩
  have hbW : Below w.heap.size w W := by rw [gW]; exact ((Below.refl _ _).alloc (Nat.le_refl _) _).alloc (by simp) _
  have hEn : En w W fp rp [.string ⟨#[]⟩, .string ⟨#[]⟩, .slice none 0 0, .int .i64 0, .slice none 0 0] := by
    refine ⟨?_, ?_, Upd.of_below hbW, by rw [gW]; simp⟩
    · rw [gW]
      have := heap_alloc_new (w.alloc (.cells #[.string ⟨#[]⟩, .string ⟨#[]⟩, .slice none 0 0, .int .i64 0, .slice none 0 0] 37)) (.cells #[.string ⟨#[]⟩, .string ⟨#[]⟩, .slice none 0 0, .int .i64 0, .slice none 0 0] 37)
      simpa using this
    · rw [gW]; exact (Below.heap_alloc _ _ _ (by simp)).trans (heap_alloc_new _ _)
  have hset : ∀ (X : World) (at2 : Nat) (wr2 : Bool) (j : Nat) (v : Value), Fw X B fp rp g len at2 zs wr2 → Fw (X.setCell ⟨w.heap.size + 1, j, none⟩ v) B fp rp g len at2 zs wr2 := fun X at2 wr2 j v hF =>
    hF.upd (Upd.setCell (F := fun x => x = w.heap.size + 1) _ _ _ rfl) (fun e => by have e' : fp = w.heap.size + 1 := e; omega) (fun e => by have e' : rp = w.heap.size + 1 := e; omega) (fun e => by have e' : g = w.heap.size + 1 := e; omega)
  have HZ := hid hz
  have GR := hid gR
  have GW := hid gW
  have HEN := hid hEn
  have HSET := hid hset
  have hFW := h.below hbW
  have k1 := hid (ftext_any 24 B fp rp g len at_ zs wr0 W hFW hz)
  obtain ⟨T1, gT1⟩ : ∃ T1, T1 = txtF 24 (fs zs at_ wr0) := ⟨_, rfl⟩
  rw [← gT1] at k1
  have GT1 := hid gT1
  obtain ⟨s1, gs1⟩ : ∃ s1, s1 = strOfNums T1.1 := ⟨_, rfl⟩
  rw [← gs1] at k1
  have GS1 := hid gs1
  clear h gR gW hbW hEn hset hFW gT1 gs1 hz
  go_enter Tryz.func94, Tryz.ntmps94
  go_upto_region 2 with fail
  rw [← GW.out]
  go_upto_region 3 with (first | (go_at_call 96; refine k1.out.mono ?_; rintro r w1 ⟨at1, wr1, rfl, hf1, hs1, hu1, hz1⟩; have HF1 := hid hf1; have HS1 := hid hs1; have HE1 := hid (HEN.out.call hu1 hfp hrp); have z1 : w1.cell? ⟨w.heap.size + 1, 0, none⟩ = some (.string ⟨#[]⟩) := heap_cells HE1.out.b1 0 _ rfl; have y1 : w1.frozen? ⟨w.heap.size + 1, 0, none⟩ = false := frozen_of_row w1 _ 0 _ _ HE1.out.b1; clear hf1 hs1 hu1 hz1 k1))
  obtain ⟨XA, gXA⟩ : ∃ X, X = w1.setCell ⟨w.heap.size + 1, 0, none⟩ (.string s1) := ⟨_, rfl⟩
  have hEXA : En w XA fp rp [.string s1, .string ⟨#[]⟩, .slice none 0 0, .int .i64 0, .slice none 0 0] := by rw [gXA]; exact HE1.out.set 0 _
  have hFXA : Fw XA B fp rp g len at1 zs wr1 := by rw [gXA]; exact HSET.out _ _ _ _ _ HF1.out
  have hUXA : Upd (fun x => x = w.heap.size + 1) w1 XA := by rw [gXA]; exact Upd.setCell (F := fun x => x = w.heap.size + 1) _ _ _ rfl
  rw [← gXA]
  have HEXA := hid hEXA
  have HFXA := hid hFXA
  have HUXA := hid hUXA
  clear gXA hEXA hFXA hUXA z1 y1
  have k2 := hid (ftext_any 1500 B fp rp g len at1 zs wr1 XA HFXA.out HZ.out)
  rw [HS1.out] at k2
  obtain ⟨T2, gT2⟩ : ∃ T2, T2 = txtF 1500 T1.2 := ⟨_, rfl⟩
  rw [← gT2] at k2
  have GT2 := hid gT2
  obtain ⟨s2, gs2⟩ : ∃ s2, s2 = strOfNums T2.1 := ⟨_, rfl⟩
  rw [← gs2] at k2
  have GS2 := hid gs2
  clear gT2 gs2
  go_upto_region 4 with (first | (go_at_call 96; refine k2.out.mono ?_; rintro r w2 ⟨at2, wr2, rfl, hf2, hs2, hu2, hz2⟩; have HF2 := hid hf2; have HS2 := hid hs2; have HE2 := hid (HEXA.out.call hu2 hfp hrp); have z2 : w2.cell? ⟨w.heap.size + 1, 1, none⟩ = some (.string ⟨#[]⟩) := heap_cells HE2.out.b1 1 _ rfl; have y2 : w2.frozen? ⟨w.heap.size + 1, 1, none⟩ = false := frozen_of_row w2 _ 1 _ _ HE2.out.b1; clear hf2 hs2 hu2 hz2 k2))
  obtain ⟨XB, gXB⟩ : ∃ X, X = w2.setCell ⟨w.heap.size + 1, 1, none⟩ (.string s2) := ⟨_, rfl⟩
  have hEXB : En w XB fp rp [.string s1, .string s2, .slice none 0 0, .int .i64 0, .slice none 0 0] := by rw [gXB]; exact HE2.out.set 1 _
  have hFXB : Fw XB B fp rp g len at2 zs wr2 := by rw [gXB]; exact HSET.out _ _ _ _ _ HF2.out
  have hUXB : Upd (fun x => x = w.heap.size + 1) w2 XB := by rw [gXB]; exact Upd.setCell (F := fun x => x = w.heap.size + 1) _ _ _ rfl
  rw [← gXB]
  have HEXB := hid hEXB
  have HFXB := hid hFXB
  have HUXB := hid hUXB
  clear gXB hEXB hFXB hUXB z2 y2
  have k3 := hid (fnums_any B fp rp g len at2 zs wr2 XB HFXB.out HZ.out hl)
  rw [HS2.out] at k3
  obtain ⟨T3, gT3⟩ : ∃ T3, T3 = numbers T2.2 := ⟨_, rfl⟩
  rw [← gT3] at k3
  have GT3 := hid gT3
  obtain ⟨pn, gpn⟩ : ∃ pn, pn = T3.1.length := ⟨_, rfl⟩
  have GPN := hid gpn
  clear gT3
  go_upto_region 5 with (first | (go_at_call 142; refine k3.out.mono ?_; rintro r w3 ⟨at3, wr3, pa, pc, rfl, hf3, hs3, ho3, hl3, hu3⟩; rw [← GPN.out] at ho3 hl3 ⊢; have HF3 := hid hf3; have HS3 := hid hs3; have HO3 := hid ho3; have HL3 := hid hl3; have HE3 := hid (HEXB.out.call hu3 hfp hrp); have z3 : w3.cell? ⟨w.heap.size + 1, 2, none⟩ = some (.slice none 0 0) := heap_cells HE3.out.b1 2 _ rfl; have y3 : w3.frozen? ⟨w.heap.size + 1, 2, none⟩ = false := frozen_of_row w3 _ 2 _ _ HE3.out.b1; clear hf3 hs3 ho3 hl3 hu3 k3 gpn))
  obtain ⟨XC, gXC⟩ : ∃ X, X = w3.setCell ⟨w.heap.size + 1, 2, none⟩ (.slice pa pn pc) := ⟨_, rfl⟩
  have hEXC : En w XC fp rp [.string s1, .string s2, .slice pa pn pc, .int .i64 0, .slice none 0 0] := by rw [gXC]; exact HE3.out.set 2 _
  have hFXC : Fw XC B fp rp g len at3 zs wr3 := by rw [gXC]; exact HSET.out _ _ _ _ _ HF3.out
  have hUXC : Upd (fun x => x = w.heap.size + 1) w3 XC := by rw [gXC]; exact Upd.setCell (F := fun x => x = w.heap.size + 1) _ _ _ rfl
  rw [← gXC]
  have HEXC := hid hEXC
  have HFXC := hid hFXC
  have HUXC := hid hUXC
  clear gXC hEXC hFXC hUXC z3 y3
  have k4 := hid (fnum_any B fp rp g len at3 zs wr3 XC HFXC.out HZ.out)
  rw [HS3.out] at k4
  obtain ⟨T4, gT4⟩ : ∃ T4, T4 = Co.num T3.2 := ⟨_, rfl⟩
  rw [← gT4] at k4
  have GT4 := hid gT4
  obtain ⟨fx, gfx⟩ : ∃ fx : Int, fx = ((T4.1 : Nat) : Int) := ⟨_, rfl⟩
  rw [← gfx] at k4
  have GFX := hid gfx
  clear gT4 gfx
  go_upto_region 6 with (first | (go_at_call 93; refine k4.out.mono ?_; rintro r w4 ⟨at4, wr4, rfl, hf4, hs4, hu4, hz4⟩; have HF4 := hid hf4; have HS4 := hid hs4; have HU4 := hid hu4; have HE4 := hid (HEXC.out.call hu4 hfp hrp); have z4 : w4.cell? ⟨w.heap.size + 1, 3, none⟩ = some (.int .i64 0) := heap_cells HE4.out.b1 3 _ rfl; have y4 : w4.frozen? ⟨w.heap.size + 1, 3, none⟩ = false := frozen_of_row w4 _ 3 _ _ HE4.out.b1; clear hf4 hs4 hu4 hz4 k4))
  obtain ⟨XD, gXD⟩ : ∃ X, X = w4.setCell ⟨w.heap.size + 1, 3, none⟩ (.int .i64 fx) := ⟨_, rfl⟩
  have hEXD : En w XD fp rp [.string s1, .string s2, .slice pa pn pc, .int .i64 fx, .slice none 0 0] := by rw [gXD]; exact HE4.out.set 3 _
  have hFXD : Fw XD B fp rp g len at4 zs wr4 := by rw [gXD]; exact HSET.out _ _ _ _ _ HF4.out
  have hUXD : Upd (fun x => x = w.heap.size + 1) w4 XD := by rw [gXD]; exact Upd.setCell (F := fun x => x = w.heap.size + 1) _ _ _ rfl
  rw [← gXD]
  have HEXD := hid hEXD
  have HFXD := hid hFXD
  have HUXD := hid hUXD
  clear gXD hEXD hFXD hUXD z4 y4
  have k5 := hid (fnums_any B fp rp g len at4 zs wr4 XD HFXD.out HZ.out hl)
  rw [HS4.out] at k5
  obtain ⟨T5, gT5⟩ : ∃ T5, T5 = numbers T4.2 := ⟨_, rfl⟩
  rw [← gT5] at k5
  have GT5 := hid gT5
  obtain ⟨qn, gqn⟩ : ∃ qn, qn = T5.1.length := ⟨_, rfl⟩
  have GQN := hid gqn
  clear gT5
  go_upto_region 7 with (first | (go_at_call 142; refine k5.out.mono ?_; rintro r w5 ⟨at5, wr5, qa, qc, rfl, hf5, hs5, ho5, hl5, hu5⟩; rw [← GQN.out] at ho5 hl5 ⊢; have HF5 := hid hf5; have HS5 := hid hs5; have HO5 := hid ho5; have HL5 := hid hl5; have HU5 := hid hu5; have HE5 := hid (HEXD.out.call hu5 hfp hrp); have z5 : w5.cell? ⟨w.heap.size + 1, 4, none⟩ = some (.slice none 0 0) := heap_cells HE5.out.b1 4 _ rfl; have y5 : w5.frozen? ⟨w.heap.size + 1, 4, none⟩ = false := frozen_of_row w5 _ 4 _ _ HE5.out.b1; clear hf5 hs5 ho5 hl5 hu5 k5 gqn))
  obtain ⟨XE, gXE⟩ : ∃ X, X = w5.setCell ⟨w.heap.size + 1, 4, none⟩ (.slice qa qn qc) := ⟨_, rfl⟩
  have hEXE : En w XE fp rp [.string s1, .string s2, .slice pa pn pc, .int .i64 fx, .slice qa qn qc] := by rw [gXE]; exact HE5.out.set 4 _
  have hFXE : Fw XE B fp rp g len at5 zs wr5 := by rw [gXE]; exact HSET.out _ _ _ _ _ HF5.out
  have hUXE : Upd (fun x => x = w.heap.size + 1) w5 XE := by rw [gXE]; exact Upd.setCell (F := fun x => x = w.heap.size + 1) _ _ _ rfl
  rw [← gXE]
  have HEXE := hid hEXE
  have HFXE := hid hFXE
  have HUXE := hid hUXE
  clear gXE hEXE hFXE hUXE z5 y5
  have d0 : XE.cell? ⟨w.heap.size + 1, 0, none⟩ = some (.string s1) := heap_cells HEXE.out.b1 0 _ rfl
  have d1 : XE.cell? ⟨w.heap.size + 1, 1, none⟩ = some (.string s2) := heap_cells HEXE.out.b1 1 _ rfl
  have d2 : XE.cell? ⟨w.heap.size + 1, 2, none⟩ = some (.slice pa pn pc) := heap_cells HEXE.out.b1 2 _ rfl
  have d3 : XE.cell? ⟨w.heap.size + 1, 3, none⟩ = some (.int .i64 fx) := heap_cells HEXE.out.b1 3 _ rfl
  have d4 : XE.cell? ⟨w.heap.size + 1, 4, none⟩ = some (.slice qa qn qc) := heap_cells HEXE.out.b1 4 _ rfl
  have HTH := hid (there_of_block HEXE.out.b0 0 5 (by simp))
  go_wp2_with (refine wpList_store_mid rfl 37 (.tmp 2) (.tmp 19) rfl w.heap.size 0 #[.string s1, .string s2, .slice pa pn pc, .int .i64 fx, .slice qa qn qc] rfl rfl HTH.out esize (by simp [Value.oneCell']) ?_)
  have hZ := set_row (cs := [.string s1, .string s2, .slice pa pn pc, .int .i64 fx, .slice qa qn qc]) HEXE.out.b0 rfl
  refine bodyPost_ret (cell_result rfl _ _ w.heap.size 0 rfl [.string s1, .string s2, .slice pa pn pc, .int .i64 fx, .slice qa qn qc] _ (rangeAt_block hZ) Tryz.underlying37 rfl esize) rfl ?_
  have hU := upd_setCells w.heap.size [.string s1, .string s2, .slice pa pn pc, .int .i64 fx, .slice qa qn qc] 0 XE
  have hR : R = (⟨s1, s2, T3.1, fx, T5.1⟩, T5.2) := by rw [GR.out, GS1.out, GS2.out, GFX.out, GT5.out, GT4.out, GT3.out, GT2.out, GT1.out]
  rw [hR]
  have hs3 : w.heap.size + 2 ≤ XB.heap.size := HEXB.out.s
  have hs5 : w.heap.size + 2 ≤ XD.heap.size := HEXD.out.s
  obtain ⟨Z, gZ⟩ : ∃ Z, Z = XE.setCells w.heap.size 0 [.string s1, .string s2, .slice pa pn pc, .int .i64 fx, .slice qa qn qc] := ⟨_, rfl⟩
  rw [← gZ] at hU ⊢
  have hother : ∀ k, w.heap.size + 2 ≤ k → ¬ (k = fp ∨ k = rp) ∧ ¬ k = w.heap.size + 1 ∧ ¬ k = w.heap.size := fun k hk => ⟨fun e => by rcases e with e | e <;> omega, by omega, by omega⟩
  have hoP : Z.ownsRow XB.heap.size 3 1 (.slice pa pn pc) pn (T3.1.map (Value.int .i64)) := by
    have hb : ∀ k, (Value.slice pa pn pc).ownBlock = some k → w.heap.size + 2 ≤ k := fun k hk => Nat.le_trans hs3 (HO3.out.lt k hk).1
    exact hU.own (HUXE.out.own (HU5.out.own (HUXD.out.own (HU4.out.own (HUXC.out.own HO3.out (fun k hk => (hother k (hb k hk)).2.1)) (fun k hk => (hother k (hb k hk)).1)) (fun k hk => (hother k (hb k hk)).2.1)) (fun k hk => (hother k (hb k hk)).1)) (fun k hk => (hother k (hb k hk)).2.1)) (fun k hk => (hother k (hb k hk)).2.2)
  have hoQ : Z.ownsRow XD.heap.size 3 1 (.slice qa qn qc) qn (T5.1.map (Value.int .i64)) := by
    have hb : ∀ k, (Value.slice qa qn qc).ownBlock = some k → w.heap.size + 2 ≤ k := fun k hk => Nat.le_trans hs5 (HO5.out.lt k hk).1
    exact hU.own (HUXE.out.own HO5.out (fun k hk => (hother k (hb k hk)).2.1)) (fun k hk => (hother k (hb k hk)).2.2)
  rw [GPN.out] at hoP
  rw [GQN.out] at hoQ
  obtain ⟨pa', pc', ep, hIp⟩ := own_il hoP
  obtain ⟨qa', qc', eq, hIq⟩ := own_il hoQ
  injection ep with ep1 _ ep3
  injection eq with eq1 _ eq3
  refine ⟨_, at5, wr5, rfl, fun N hN => ⟨pa, pc, qa, qc, by rw [GPN.out, GQN.out]; rfl, ?_, ?_⟩, ?_, HS5.out, ?_, ?_, ?_⟩
  · rw [ep1, ep3]; exact hIp N (fun x hx => by have := hN x hx; omega)
  · rw [eq1, eq3]; exact hIq N (fun x hx => by have := hN x hx; omega)
  · exact HFXE.out.upd hU (fun e => by omega) (fun e => by omega) (fun e => by omega)
  · exact HEXE.out.u.trans hU (fun x hx e => by omega)
  · have := HL3.out; rw [GPN.out] at this; exact this
  · have := HL5.out; rw [GQN.out] at this; exact this
end Go.Proofs.YtbgommpdmnbplaaGreatDoor

/- What follows a record. -/
namespace Go.Proofs.YtbgommpdmnbplaaGreatDoor
open Go.RowKit Co Num Jr
set_option linter.unusedVariables false
set_option maxRecDepth 20000

theorem fend_lit (b : Bool) (B fp rp g len at_ : Nat) (zs : List Int) (wr : Bool) (w : World) (h : Fw w B fp rp g len at_ zs wr) (hb : b = true ↔ ended (fs zs at_ wr)) : Calls Tryz.prog 95 #[.pointer (some ⟨fp, 0, none⟩)] w fun r w' => r = .returned (.bool b) ∧ Below w.heap.size w w' := by
  refine (fend_any B fp rp g len at_ zs wr w h).mono ?_
  rintro r w' ⟨b', rfl, hb', n, rfl⟩
  refine ⟨by rw [Bool.eq_iff_iff.2 (hb'.trans hb.symm)], below_drewN (Below.refl _ _) n⟩
theorem takes_lit (b : Bool) (N : List Nat) (m : Nat) (K : List (List UInt8)) (F : Sta) (s : ByteArray) (w : World) (h : Em w N m K F) (hs : s.size ≤ maxLen) (hk : K.length ≤ 40) (hb : b = true ↔ F (kb s) ≠ none ∨ K.length < 40) : Calls Tryz.prog 48 #[.map (some m), .string s] w fun r w' => r = .returned (.bool b) ∧ Below w.heap.size w w' := by
  refine (takes_any N m K F s w h hs hk).mono ?_
  rintro r w' ⟨b', rfl, hb', hB⟩
  exact ⟨by rw [Bool.eq_iff_iff.2 (hb'.trans hb.symm)], hB⟩

theorem txtF_size (most : Nat) (s : Fs) : (strOfNums (txtF most s).1).size ≤ most := by
  rw [strOfNums_size]
  unfold txtF
  split
  · simp
  · show (txt s.1 most).1.length ≤ most
    unfold txt
    split
    · simp
    · split
      · simp
      · split
        · simp
        · rename_i h1 h2 h3
          rw [List.length_take]
          omega
/-- What a record leaves of the map. -/
def FolP (w : World) (N : List Nat) (m : Nat) (F2 : Sta) (r : Ending) (w' : World) : Prop := r = .returned (.tuple #[]) ∧ ∃ K', Em w' N m K' F2 ∧ K'.length ≤ 40 ∧ Upd (· = m) w w'

set_option maxHeartbeats 8000000 in
theorem follow_any (N : List Nat) (m : Nat) (K : List (List UInt8)) (F : Sta) (a : Option Addr) (len cap : Nat) (zs : List Int) (w : World) (hm : Em w N m K F) (hk : K.length ≤ 40) (hN : ∀ x ∈ N, x < w.heap.size) (hs : Src w a len zs) (hz : Bytes zs) (hl : len ≤ 100000) :
    Calls Tryz.prog 40 #[.map (some m), .slice a len cap] w (FolP w N m (folR F zs)) := by
  have hml := hm.lt
  have k1 := hid (over_any a len cap zs w hs (by omega))
  obtain ⟨R, gR⟩ : ∃ R, R = folR F zs := ⟨_, rfl⟩
  rw [← gR]
  unfold folR at gR
  obtain ⟨T, gT⟩ : ∃ T, T = Co.num (zs, false) := ⟨_, rfl⟩
  rw [← gT] at gR
  have GR := hid gR
  have GT := hid gT
  have HM := hid hm
  have HN := hid hN
  have HZ := hid hz
  clear hm hN hs hz gR gT
  go_enter Tryz.func40, Tryz.ntmps40
  go_upto_region 1 with (first | (go_at_call 92; refine k1.out.mono ?_; rintro r w1 ⟨rp, rfl, hr1, hp1, hb1⟩; have HR1 := hid hr1; have HB1 := hid hb1; clear hr1 hb1 k1))
  obtain ⟨W, gW⟩ : ∃ W, W = w1.alloc (.cells #[.pointer (some ⟨rp, 0, none⟩), .bool false] 150) := ⟨_, rfl⟩
  rw [← gW]
  have hbW : Below w1.heap.size w1 W := by rw [gW]; exact (Below.refl _ _).alloc (Nat.le_refl _) _
  have hfW : Fw W w.heap.size w1.heap.size rp w.heap.size len 0 zs false := by
    refine ⟨by rw [gW]; exact heap_alloc_new _ _, ?_, by omega, by have := HR1.out.gl; omega, HB1.out.size⟩
    have h := HR1.out
    exact ⟨(hbW.block rp hp1).trans h.own, (Upd.of_below (F := fun _ => False) hbW).src h.src (fun _ _ _ h => h), h.lo, h.mid, h.ne, h.fit, h.cap, Nat.lt_of_lt_of_le h.gl hbW.size⟩
  obtain ⟨fp, gfp⟩ : ∃ fp, fp = w1.heap.size := ⟨_, rfl⟩
  rw [← gfp] at hfW
  rw [← gfp]
  have hfs0 : fs zs 0 false = (zs, false) := rfl
  have hbw : Below w.heap.size w W := HB1.out.trans (hbW.mono HB1.out.size)
  have hrp : w.heap.size ≤ rp := HR1.out.mid
  have hfl : w.heap.size ≤ fp := by rw [gfp]; exact HB1.out.size
  have hfW' : fp < W.heap.size := (Array.getElem?_eq_some_iff.1 hfW.f).1
  have hrW : rp < W.heap.size := (Array.getElem?_eq_some_iff.1 hfW.r.own).1
  have k2 := hid (fnum_any w.heap.size fp rp w.heap.size len 0 zs false W hfW HZ.out)
  rw [hfs0, ← GT.out] at k2
  have HBw := hid hbw
  obtain ⟨tn, ts⟩ := T
  simp only at k2
  obtain ⟨ti, gti⟩ : ∃ ti : Int, ti = ((tn : Nat) : Int) := ⟨_, rfl⟩
  rw [← gti] at k2
  have GTI := hid gti
  clear hbW hfW gW gfp hfs0 hbw gti HR1
  go_upto_region 2 with (first | (go_at_call 93; refine k2.out.mono ?_; rintro r w3 ⟨at3, wr3, rfl, hf3, hs3, hu3, hz3⟩; have HF3 := hid hf3; have HS3 := hid hs3; have HU3 := hid hu3; clear hf3 hs3 hu3 k2))
  have hb3 : Below w.heap.size w w3 := HBw.out.trans (HU3.out.below HBw.out.size (fun x h => by rcases h with h | h <;> omega))
  have HB3 := hid hb3
  have hfl3 : fp < w3.heap.size := by omega
  have hrl3 : rp < w3.heap.size := by omega
  clear hb3 HU3 hz3
  by_cases h1 : ti = 1
  · subst h1
    have hR : R = folPut F (entF ts) := by rw [GR.out, if_pos (by have := GTI.out; omega)]
    have k3 := hid (fent_any w.heap.size fp rp w.heap.size len at3 zs wr3 w3 HF3.out HZ.out hl)
    rw [HS3.out] at k3
    have HR := hid hR
    obtain ⟨E, gE⟩ : ∃ E, E = entF ts := ⟨_, rfl⟩
    rw [← gE] at k3 HR
    clear hR gE
    obtain ⟨e, s4⟩ := E
    simp only at k3
    go_upto_region 3 with fail
    go_upto_region 4 with (first | (go_at_call 94; refine k3.out.mono ?_; rintro r w4 h4; have H4 := hid h4; clear h4 k3; obtain ⟨v4, at4, wr4, rfl, hE4, hf4, hs4, hu4, hp4, hq4⟩ := H4.out; have HE4 := hid hE4; have HF4 := hid hf4; have HS4 := hid hs4; have HU4 := hid hu4; obtain ⟨pa, pc, qa, qc, rfl, _, _⟩ := hE4 [] (fun x hx => by simp at hx); clear hE4 hf4 hs4 hu4 hp4 hq4 H4; unfold entV at HE4 ⊢))
    obtain ⟨X, gX⟩ : ∃ X, X = w4.alloc (.cells #[.string e.k, .string e.g, .slice pa e.p.length pc, .int .i64 e.f, .slice qa e.q.length qc] 37) := ⟨_, rfl⟩
    rw [← gX]
    have hbX : Below w4.heap.size w4 X := by rw [gX]; exact (Below.refl _ _).alloc (Nat.le_refl _) _
    have hX : X.heap[w4.heap.size]? = some (.cells #[.string e.k, .string e.g, .slice pa e.p.length pc, .int .i64 e.f, .slice qa e.q.length qc] 37 (0, 0)) := by rw [gX]; exact heap_alloc_new _ _
    have hb4 : Below w.heap.size w w4 := HB3.out.trans (HU4.out.below HB3.out.size (fun x h => by rcases h with h | h <;> omega))
    have hbw : Below w.heap.size w X := hb4.trans (hbX.mono hb4.size)
    have hxl : w4.heap.size < X.heap.size := (Array.getElem?_eq_some_iff.1 hX).1
    obtain ⟨x4, gx4⟩ : ∃ x4, x4 = w4.heap.size := ⟨_, rfl⟩
    have hFX := HF4.out.below hbX
    have hev : ∀ wx, Below X.heap.size X wx → Ev wx N (.agg #[.string e.k, .string e.g, .slice pa e.p.length pc, .int .i64 e.f, .slice qa e.q.length qc]) e := fun wx hb =>
      Ev.upd (HE4.out N (fun x hx => by have := HN.out x hx; have := HB3.out.size; omega)) (Upd.of_below (F := fun _ => False) (hbX.trans (hb.mono hbX.size))) (fun _ _ h => h.elim) (fun x hx => .inl hx)
    have hml4 : m < w4.heap.size := by have := hb4.size; omega
    obtain ⟨pn, gpn⟩ : ∃ pn, pn = e.p.length := ⟨_, rfl⟩
    obtain ⟨qn, gqn⟩ : ∃ qn, qn = e.q.length := ⟨_, rfl⟩
    obtain ⟨ks, gks⟩ : ∃ ks, ks = e.k := ⟨_, rfl⟩
    obtain ⟨gs, ggs⟩ : ∃ gs, gs = e.g := ⟨_, rfl⟩
    obtain ⟨fx, gfx⟩ : ∃ fx, fx = e.f := ⟨_, rfl⟩
    rw [← gx4] at hX hxl hml4
    rw [← gx4]
    rw [← gpn, ← gqn, ← gks, ← ggs, ← gfx] at hX hev
    rw [← gpn, ← gqn, ← gks, ← ggs, ← gfx]
    have hcel : ∀ wx, Below X.heap.size X wx → wx.heap[x4]? = some (.cells #[.string ks, .string gs, .slice pa pn pc, .int .i64 fx, .slice qa qn qc] 37 (0, 0)) := fun wx hb => (hb.block x4 hxl).trans hX
    have HCEL := hid hcel
    have HEV := hid hev
    have HBX := hid hbw
    have HFX := hid hFX
    have GK := hid gks
    have kM := hid (fun wx hb => maybe_any N _ e wx (hev wx hb))
    clear gX hbX hX hb4 hbw gx4 hFX hev gpn gqn gks ggs gfx hcel HE4 HU4 HF4
    by_cases he : ended s4
    · have k5 := hid (fend_lit true w.heap.size fp rp w.heap.size len at4 zs wr4 X HFX.out (by rw [HS4.out]; simp [he]))
      obtain ⟨b2, gb2⟩ : ∃ b2, b2 = mayB e := ⟨_, rfl⟩
      rw [← gb2] at kM
      have GB2 := hid gb2
      clear gb2
      cases b2 with
      | false =>
        go_wp2_with (first | (go_at_call 95; refine k5.out.mono ?_; rintro r w5 ⟨rfl, hb5⟩; have HB5 := hid hb5; have c0 : w5.cell? ⟨x4, 0, none⟩ = some (.string ks) := heap_cells (HCEL.out w5 HB5.out) 0 _ rfl; have c1 : w5.cell? ⟨x4, 1, none⟩ = some (.string gs) := heap_cells (HCEL.out w5 HB5.out) 1 _ rfl; have c2 : w5.cell? ⟨x4, 2, none⟩ = some (.slice pa pn pc) := heap_cells (HCEL.out w5 HB5.out) 2 _ rfl; have c3 : w5.cell? ⟨x4, 3, none⟩ = some (.int .i64 fx) := heap_cells (HCEL.out w5 HB5.out) 3 _ rfl; have c4 : w5.cell? ⟨x4, 4, none⟩ = some (.slice qa qn qc) := heap_cells (HCEL.out w5 HB5.out) 4 _ rfl; clear hb5 k5) | (go_at_call 46; refine (kM.out _ HB5.out).mono ?_; rintro r w6 ⟨rfl, hb6⟩; have HB6 := hid (HB5.out.trans (hb6.mono HB5.out.size)); clear hb6))
        refine bodyPost_ret (results_none rfl _ _ _) rfl ?_
        exact ⟨rfl, K, by rw [HR.out]; unfold folPut; rw [if_neg (fun h => by have := h.2.1; rw [← GB2.out] at this; cases this)]; exact HM.out.below (HBX.out.trans (HB6.out.mono HBX.out.size)), hk, Upd.of_below (HBX.out.trans (HB6.out.mono HBX.out.size))⟩
      | true =>
        have hks : ks.size ≤ 24 := by rw [GK.out]; exact (isKey_size (mayB_parts GB2.out.symm).1).2
        by_cases ht : F (kb ks) ≠ none ∨ K.length < 40
        · have kT : Hid (∀ wx, Below X.heap.size X wx → Calls Tryz.prog 48 #[.map (some m), .string ks] wx fun r w' => r = .returned (.bool true) ∧ Below wx.heap.size wx w') := hid (fun wx hb => takes_lit true N m K F ks wx (HM.out.below (HBX.out.trans (hb.mono HBX.out.size))) (by unfold maxLen; omega) hk (by simpa using ht))
          have HTK := hid ht
          clear ht
          go_wp2_with (first | (go_at_call 95; refine k5.out.mono ?_; rintro r w5 ⟨rfl, hb5⟩; have HB5 := hid hb5; have c0 : w5.cell? ⟨x4, 0, none⟩ = some (.string ks) := heap_cells (HCEL.out w5 HB5.out) 0 _ rfl; have c1 : w5.cell? ⟨x4, 1, none⟩ = some (.string gs) := heap_cells (HCEL.out w5 HB5.out) 1 _ rfl; have c2 : w5.cell? ⟨x4, 2, none⟩ = some (.slice pa pn pc) := heap_cells (HCEL.out w5 HB5.out) 2 _ rfl; have c3 : w5.cell? ⟨x4, 3, none⟩ = some (.int .i64 fx) := heap_cells (HCEL.out w5 HB5.out) 3 _ rfl; have c4 : w5.cell? ⟨x4, 4, none⟩ = some (.slice qa qn qc) := heap_cells (HCEL.out w5 HB5.out) 4 _ rfl; clear hb5 k5) | (go_at_call 46; refine (kM.out _ HB5.out).mono ?_; rintro r w6 ⟨rfl, hb6⟩; have HB6 := hid (HB5.out.trans (hb6.mono HB5.out.size)); have d0 : w6.cell? ⟨x4, 0, none⟩ = some (.string ks) := heap_cells (HCEL.out w6 HB6.out) 0 _ rfl; have d1 : w6.cell? ⟨x4, 1, none⟩ = some (.string gs) := heap_cells (HCEL.out w6 HB6.out) 1 _ rfl; have d2 : w6.cell? ⟨x4, 2, none⟩ = some (.slice pa pn pc) := heap_cells (HCEL.out w6 HB6.out) 2 _ rfl; have d3 : w6.cell? ⟨x4, 3, none⟩ = some (.int .i64 fx) := heap_cells (HCEL.out w6 HB6.out) 3 _ rfl; have d4 : w6.cell? ⟨x4, 4, none⟩ = some (.slice qa qn qc) := heap_cells (HCEL.out w6 HB6.out) 4 _ rfl; clear hb6) | (go_at_call 48; refine (kT.out _ HB6.out).mono ?_; rintro r w7 ⟨rfl, hb7⟩; have HB7 := hid (HB6.out.trans (hb7.mono HB6.out.size)); obtain ⟨w8, K8, hr8, hm8, hu8, hk8⟩ := em_put (HM.out.below (HBX.out.trans (HB7.out.mono HBX.out.size))) (HEV.out w7 HB7.out) (by rw [← GK.out]; unfold maxLen; omega) (by unfold maxLen; omega); rw [← GK.out] at hr8; have HM8 := hid hm8; have HU8 := hid hu8; have HK8 := hid hk8; have y0 : w7.cell? ⟨x4, 0, none⟩ = some (.string ks) := heap_cells (HCEL.out w7 HB7.out) 0 _ rfl; have y1 : w7.cell? ⟨x4, 1, none⟩ = some (.string gs) := heap_cells (HCEL.out w7 HB7.out) 1 _ rfl; have y2 : w7.cell? ⟨x4, 2, none⟩ = some (.slice pa pn pc) := heap_cells (HCEL.out w7 HB7.out) 2 _ rfl; have y3 : w7.cell? ⟨x4, 3, none⟩ = some (.int .i64 fx) := heap_cells (HCEL.out w7 HB7.out) 3 _ rfl; have y4 : w7.cell? ⟨x4, 4, none⟩ = some (.slice qa qn qc) := heap_cells (HCEL.out w7 HB7.out) 4 _ rfl; clear hb7 hm8 hu8 hk8))
          refine bodyPost_ret (results_none rfl _ _ _) rfl ?_
          have hfew : F (kb e.k) ≠ none ∨ Few F := by have := HTK.out; rw [GK.out, HM.out.keys.few] at this; exact this
          refine ⟨rfl, K8, by rw [HR.out]; unfold folPut; rw [if_pos ⟨he, GB2.out.symm, hfew⟩]; exact HM8.out, ?_, (Upd.of_below (HBX.out.trans (HB7.out.mono HBX.out.size))).trans HU8.out (fun x _ h => h)⟩
          have h1 := HK8.out
          have h2 := HTK.out
          rw [GK.out] at h2
          split at h1
          · rename_i hn
            rcases h2 with h2 | h2
            · exact absurd hn h2
            · omega
          · omega
        · have kT : Hid (∀ wx, Below X.heap.size X wx → Calls Tryz.prog 48 #[.map (some m), .string ks] wx fun r w' => r = .returned (.bool false) ∧ Below wx.heap.size wx w') := hid (fun wx hb => takes_lit false N m K F ks wx (HM.out.below (HBX.out.trans (hb.mono HBX.out.size))) (by unfold maxLen; omega) hk (by simpa using ht))
          have HTK := hid ht
          clear ht
          go_wp2_with (first | (go_at_call 95; refine k5.out.mono ?_; rintro r w5 ⟨rfl, hb5⟩; have HB5 := hid hb5; have c0 : w5.cell? ⟨x4, 0, none⟩ = some (.string ks) := heap_cells (HCEL.out w5 HB5.out) 0 _ rfl; have c1 : w5.cell? ⟨x4, 1, none⟩ = some (.string gs) := heap_cells (HCEL.out w5 HB5.out) 1 _ rfl; have c2 : w5.cell? ⟨x4, 2, none⟩ = some (.slice pa pn pc) := heap_cells (HCEL.out w5 HB5.out) 2 _ rfl; have c3 : w5.cell? ⟨x4, 3, none⟩ = some (.int .i64 fx) := heap_cells (HCEL.out w5 HB5.out) 3 _ rfl; have c4 : w5.cell? ⟨x4, 4, none⟩ = some (.slice qa qn qc) := heap_cells (HCEL.out w5 HB5.out) 4 _ rfl; clear hb5 k5) | (go_at_call 46; refine (kM.out _ HB5.out).mono ?_; rintro r w6 ⟨rfl, hb6⟩; have HB6 := hid (HB5.out.trans (hb6.mono HB5.out.size)); have d0 : w6.cell? ⟨x4, 0, none⟩ = some (.string ks) := heap_cells (HCEL.out w6 HB6.out) 0 _ rfl; have d1 : w6.cell? ⟨x4, 1, none⟩ = some (.string gs) := heap_cells (HCEL.out w6 HB6.out) 1 _ rfl; have d2 : w6.cell? ⟨x4, 2, none⟩ = some (.slice pa pn pc) := heap_cells (HCEL.out w6 HB6.out) 2 _ rfl; have d3 : w6.cell? ⟨x4, 3, none⟩ = some (.int .i64 fx) := heap_cells (HCEL.out w6 HB6.out) 3 _ rfl; have d4 : w6.cell? ⟨x4, 4, none⟩ = some (.slice qa qn qc) := heap_cells (HCEL.out w6 HB6.out) 4 _ rfl; clear hb6) | (go_at_call 48; refine (kT.out _ HB6.out).mono ?_; rintro r w7 ⟨rfl, hb7⟩; have HB7 := hid (HB6.out.trans (hb7.mono HB6.out.size)); clear hb7))
          refine bodyPost_ret (results_none rfl _ _ _) rfl ?_
          have hfew : ¬ (F (kb e.k) ≠ none ∨ Few F) := by have := HTK.out; rw [GK.out, HM.out.keys.few] at this; exact this
          exact ⟨rfl, K, by rw [HR.out]; unfold folPut; rw [if_neg (fun h => hfew h.2.2)]; exact HM.out.below (HBX.out.trans (HB7.out.mono HBX.out.size)), hk, Upd.of_below (HBX.out.trans (HB7.out.mono HBX.out.size))⟩
    · have k5 := hid (fend_lit false w.heap.size fp rp w.heap.size len at4 zs wr4 X HFX.out (by rw [HS4.out]; simp [he]))
      go_wp2_with (first | (go_at_call 95; refine k5.out.mono ?_; rintro r w5 ⟨rfl, hb5⟩; have HB5 := hid hb5; clear hb5 k5))
      refine bodyPost_ret (results_none rfl _ _ _) rfl ?_
      exact ⟨rfl, K, by rw [HR.out]; unfold folPut; rw [if_neg (fun h => he h.1)]; exact HM.out.below (HBX.out.trans (HB5.out.mono HBX.out.size)), hk, Upd.of_below (HBX.out.trans (HB5.out.mono HBX.out.size))⟩
  · by_cases h2 : ti = 2
    · subst h2
      have hR : R = folDel F (txtF 24 ts) := by rw [GR.out, if_neg (by have := GTI.out; omega), if_pos (by have := GTI.out; omega)]
      have k3 := hid (ftext_any 24 w.heap.size fp rp w.heap.size len at3 zs wr3 w3 HF3.out HZ.out)
      rw [HS3.out] at k3
      have HR := hid hR
      obtain ⟨E, gE⟩ : ∃ E, E = txtF 24 ts := ⟨_, rfl⟩
      rw [← gE] at k3 HR
      have hsz : (strOfNums E.1).size ≤ 24 := by rw [gE]; exact txtF_size 24 ts
      clear hR gE
      obtain ⟨t4, s4⟩ := E
      simp only at k3 hsz
      obtain ⟨st, gst⟩ : ∃ st, st = strOfNums t4 := ⟨_, rfl⟩
      rw [← gst] at k3 hsz
      have GST := hid gst
      clear gst
      go_upto_region 8 with (first | (go_at_call 96; refine k3.out.mono ?_; rintro r w4 ⟨at4, wr4, rfl, hf4, hs4, hu4, hz4⟩; have HF4 := hid hf4; have HS4 := hid hs4; have HU4 := hid hu4; clear hf4 hs4 hu4 hz4 k3))
      have hb4 : Below w.heap.size w w4 := HB3.out.trans (HU4.out.below HB3.out.size (fun x h => by rcases h with h | h <;> omega))
      have HB4 := hid hb4
      clear hb4 HU4
      by_cases he : ended s4
      · have k5 := hid (fend_lit true w.heap.size fp rp w.heap.size len at4 zs wr4 w4 HF4.out (by rw [HS4.out]; simp [he]))
        go_wp2_with (first | (go_at_call 95; refine k5.out.mono ?_; rintro r w5 ⟨rfl, hb5⟩; have HB5 := hid (HB4.out.trans (hb5.mono HB4.out.size)); obtain ⟨w6, K6, hr6, hm6, hu6, hk6⟩ := em_del (HM.out.below HB5.out) st (by unfold maxLen; omega) 0; have HM6 := hid hm6; have HU6 := hid hu6; have HK6 := hid hk6; clear hb5 k5 hm6 hu6 hk6))
        refine bodyPost_ret (results_none rfl _ _ _) rfl ?_
        exact ⟨rfl, K6, by rw [HR.out]; unfold folDel; rw [if_pos he]; rw [← GST.out]; exact HM6.out, by have := HK6.out; omega, (Upd.of_below HB5.out).trans HU6.out (fun x _ h => h)⟩
      · have k5 := hid (fend_lit false w.heap.size fp rp w.heap.size len at4 zs wr4 w4 HF4.out (by rw [HS4.out]; simp [he]))
        go_wp2_with (first | (go_at_call 95; refine k5.out.mono ?_; rintro r w5 ⟨rfl, hb5⟩; have HB5 := hid (HB4.out.trans (hb5.mono HB4.out.size)); clear hb5 k5))
        refine bodyPost_ret (results_none rfl _ _ _) rfl ?_
        exact ⟨rfl, K, by rw [HR.out]; unfold folDel; rw [if_neg he]; exact HM.out.below HB5.out, hk, Upd.of_below HB5.out⟩
    · have hR : R = F := by rw [GR.out, if_neg (by have := GTI.out; omega), if_neg (by have := GTI.out; omega)]
      have hv1 : (ti == 1) = false := by simpa using h1
      have hv2 : (ti == 2) = false := by simpa using h2
      go_wp2_with fail
      refine bodyPost_ret (results_none rfl _ _ _) rfl ?_
      exact ⟨rfl, K, by rw [hR]; exact HM.out.below HB3.out, hk, Upd.of_below HB3.out⟩
end Go.Proofs.YtbgommpdmnbplaaGreatDoor

/- A corpus opened on any disk whose records leave entries that may be. -/
namespace Go.Proofs.YtbgommpdmnbplaaGreatDoor
open Go.RowKit Co Num Jr
set_option linter.unusedVariables false
set_option maxRecDepth 20000

/-- What corpus.Open makes of a disk. -/
def COpnP (d : Dk) (w : World) (p n : Nat) (S : Nat → List Int) (O : List (List Int) × Nat × Nat) (r : Ending) (w' : World) : Prop :=
  ∃ (cp jp : Nat) (d' : Dk) (m : Nat) (K : List (List UInt8)), r = .returned (.tuple #[.pointer (some ⟨cp, 0, none⟩), .int .i64 0]) ∧ Cp d' w' cp jp p n (openS n S) (openGen S) O.2.1 O.2.2 O.1 (.slice none 0 0) m K (replay O.1) ∧ Upd (· ∈ d.foot p) w w' ∧ (∀ x ∈ Jf d' p jp (.slice none 0 0), x ∈ d.foot p ∨ w.heap.size ≤ x) ∧ w.heap.size ≤ cp ∧ w.heap.size ≤ m

set_option maxHeartbeats 8000000 in
theorem copen_any (d : Dk) (p n : Nat) (S : Nat → List Int) (w : World) (J : Jd d w p n S) (hr : d.rest) (hT : Tab w) (hdT : 1 ∉ d.foot p) (hn4 : 4 ≤ n) (hok : (replay (opened n S).1).ok) :
    Calls Tryz.prog 10 #[.pointer (some ⟨p, 0, none⟩)] w (COpnP d w p n S (opened n S)) := by
  have hrec := opened_ok n S J.byt
  have hji := JI.open n S J.all
  have k1 := hid (jopen_any d p n S w J hr hT hdT hn4)
  obtain ⟨O, gO⟩ : ∃ O, O = opened n S := ⟨_, rfl⟩
  rw [← gO] at hrec hji hok
  rw [← gO]
  obtain ⟨L, og, ou⟩ := O
  simp only at hrec hji hok
  have HREC := hid hrec
  have HJI := hid hji
  have HOK := hid hok
  have GO := hid gO
  clear J hT hdT hr hrec hji hok gO
  go_enter Tryz.func10, Tryz.ntmps10
  go_upto_region 2 with (first | (go_at_call 39; refine k1.out.mono ?_; rintro r w1 h1; have H1 := hid h1; clear h1 k1; obtain ⟨jp, v, d1, m1, rfl, h1, h2, h3, h4, h5, h6, h7⟩ := H1.out))
  rw [← GO.out] at h5 h6
  simp only at h5 h6
  obtain ⟨us, ho, hvb, hus⟩ := h6
  obtain ⟨av, cv, ev, hc1, hc2⟩ := own_shape ho
  subst ev
  obtain ⟨ln, gln⟩ : ∃ ln, ln = L.length := ⟨_, rfl⟩
  rw [← gln] at ho hc1
  rw [← gln]
  obtain ⟨X, gX⟩ : ∃ X, X = (w1.alloc (.map #[] 0)).alloc (.cells #[.pointer (some ⟨jp, 0, none⟩), .map (some w1.heap.size)] 77) := ⟨_, rfl⟩
  have hjs : Js d1 w1 jp p n (openS n S) (openGen S) og ou L [] (.slice none 0 0) := ⟨h3.jd, h4, h5, HJI.out, by simpa [loadOf] using World.ownsRow_nil _ _ _ _, fun r hr => by simp at hr, by simp [loadOf, needN], h2, fun k hk => by simp [Value.ownBlock] at hk⟩
  have hbX : Below w1.heap.size w1 X := by rw [gX]; exact ((Below.refl _ _).alloc (Nat.le_refl _) _).alloc (by simp) _
  have hX : X.heap[w1.heap.size + 1]? = some (.cells #[.pointer (some ⟨jp, 0, none⟩), .map (some w1.heap.size)] 77 (0, 0)) := by
    rw [gX]
    have := heap_alloc_new (w1.alloc (.map #[] 0)) (.cells #[.pointer (some ⟨jp, 0, none⟩), .map (some w1.heap.size)] 77)
    simpa using this
  have hjl := hjs.lt
  have hem : Em X ((w1.heap.size + 1) :: Jf d1 p jp (.slice none 0 0)) w1.heap.size [] (fun _ => none) := by
    rw [gX]
    exact (em_new w1 _).below ((Below.refl _ _).alloc (Nat.le_refl _) _)
  have hjX := hjs.below hbX
  have hxl : w1.heap.size + 1 < X.heap.size := (Array.getElem?_eq_some_iff.1 hX).1
  have hU : Upd (· ∈ d.foot p) w X := h3.upd.trans (Upd.of_below (F := fun _ => False) hbX) (fun _ _ h => h.elim)
  have hF : ∀ x ∈ Jf d1 p jp (.slice none 0 0), x ∈ d.foot p ∨ w.heap.size ≤ x := fun x hx => by
    simp only [Jf, vb, Value.ownBlock, List.mem_cons, Option.toList, List.nil_append] at hx
    rcases hx with rfl | hx
    · exact .inr h1
    · exact h3.grew x hx
  have hs1 := h3.upd.size
  have hN : ∀ x ∈ (w1.heap.size + 1) :: Jf d1 p jp (.slice none 0 0), x < X.heap.size := fun x hx => by
    rcases List.mem_cons.1 hx with h | h
    · omega
    · have := hjl x h; omega
  have hcell : ∀ i, i < ln → ∃ b c, us[i]? = some (.slice (some ⟨b, 0, none⟩) (L.getD i []).length c) ∧ Src w1 (some ⟨b, 0, none⟩) (L.getD i []).length (L.getD i []) ∧ b < w1.heap.size := fun i hi => by
    have hi' : i < L.length := by omega
    obtain ⟨u, e1, b, c, e2, e3, _, _, e4, _⟩ := hus i hi'
    have eg : L.getD i [] = L[i] := by simp [List.getD, List.getElem?_eq_getElem hi']
    rw [eg]
    exact ⟨b, c, by rw [e1, e2], e3, e4⟩
  have HJX := hid hjX
  have HXc := hid hX
  have HEM := hid hem
  have HU := hid hU
  have HF := hid hF
  have HN := hid hN
  have HCE := hid hcell
  have HO := hid ho
  have HJL := hid hjl
  have HBX := hid hbX
  have GX := hid gX
  have GLN := hid gln
  clear h1 h2 h3 h4 h5 h7 ho hvb hus hjs hbX hX hjl hem hjX hU hF hN hcell gX H1 gln
  have hmm := @run_makeMap Tryz.prog
  go_upto_region 5 with fail
  rw [← GX.out]
  go_upto_region 6 with fail
  go_loopw [25] (fun k wr => ∃ (i : Nat), k = .int .i64 i ∧ i ≤ ln ∧ Hid (∃ K', Em wr ((w1.heap.size + 1) :: Jf d1 p jp (.slice none 0 0)) w1.heap.size K' (replay (L.take i)) ∧ K'.length ≤ 40 ∧ Upd (· = w1.heap.size) X wr)) (fun k _ => ln - (intOf k).toNat)
  case atStart => exact ⟨0, rfl, Nat.zero_le _, hid ⟨[], by simpa [replay] using HEM.out, by simp, Upd.refl _ _⟩⟩
  case round =>
    obtain ⟨i, rfl, hin, HA⟩ := hrel
    by_cases hlt : i < ln
    · obtain ⟨K', hE, hk', hu⟩ := HA.out
      obtain ⟨b, c, hus, hsrc, hbl⟩ := HCE.out i hlt
      obtain ⟨gk, ek⟩ : ∃ gk, av = some ⟨gk, 0, none⟩ := by
        rcases HO.out.2 with ⟨h, h0⟩ | ⟨g, c, cur, h, _⟩
        · omega
        · injection h with h1 h2 h3; exact ⟨g, h1⟩
      subst ek
      have hblk : ∀ x, x < w1.heap.size → wr.heap[x]? = w1.heap[x]? := fun x hx => (hu.block x (by omega) (by omega)).trans (HBX.out.block x hx)
      have hcell : wr.cell? ⟨gk, i, none⟩ = some (.slice (some ⟨b, 0, none⟩) (L.getD i []).length c) := by
        have hg := (HO.out.lt gk rfl).2
        rw [World.cell?_of_block (a := ⟨gk, i, none⟩) (hblk gk hg), HO.out.cellAt i (by omega), hus]
      have hcp : wr.cell? ⟨w1.heap.size + 1, 1, none⟩ = some (.map (some w1.heap.size)) := by
        rw [World.cell?_of_block (a := ⟨w1.heap.size + 1, 1, none⟩) (hu.block (w1.heap.size + 1) hxl (by omega))]
        exact heap_cells HXc.out 1 _ rfl
      have hU2 : Upd (· = w1.heap.size) w1 wr := (Upd.of_below HBX.out).trans hu (fun x _ h => h)
      have hsr := hU2.src hsrc (fun b' o e => by injection e with e; injection e with e _; omega)
      have hil : i < L.length := by rw [← GLN.out]; exact hlt
      have eg : L.getD i [] = L[i] := by simp [List.getD, List.getElem?_eq_getElem hil]
      have hrk := HREC.out L[i] (List.getElem_mem hil)
      rw [← eg] at hrk
      have kF := hid (follow_any _ w1.heap.size K' (replay (L.take i)) _ (L.getD i []).length c _ wr hE hk' (fun x hx => Nat.lt_of_lt_of_le (HN.out x hx) hu.size) hsr hrk.2.2 (by have := hrk.2.1; omega))
      have hrp : folR (replay (L.take i)) (L.getD i []) = replay (L.take (i + 1)) := by
        have ht : L.take (i + 1) = L.take i ++ [L[i]] := by rw [List.take_add_one, List.getElem?_eq_getElem hil]; rfl
        rw [ht, replay_snoc, eg]
      rw [hrp] at kF
      obtain ⟨zl, gzl⟩ : ∃ zl, zl = (L.getD i []).length := ⟨_, rfl⟩
      rw [← gzl] at kF hcell
      obtain ⟨mp, gmp⟩ : ∃ mp, mp = w1.heap.size := ⟨_, rfl⟩
      have HUX := hid hu
      clear hE hk' hus hsrc hblk hU2 hsr eg hrk hrp gzl gmp hu
      go_wp2_with (first | (go_at_call 40; refine kF.out.mono ?_; rintro r w3 h3; have H3 := hid h3; clear h3 kF; obtain ⟨rfl, K3, hE3, hk3, hu3⟩ := H3.out; have HE3 := hid hE3; have HK3 := hid hk3; have HU3 := hid hu3; clear hE3 hk3 hu3 H3))
      go_roundw
      case rel => exact ⟨i + 1, by go_num, by omega, hid ⟨K3, HE3.out, HK3.out, HUX.out.trans HU3.out (fun x _ h => h)⟩⟩
      case measure => simp [intOf]; omega
    · have hltv : ¬ (i : Int) < (ln : Int) := by omega
      have hie : i = ln := by omega
      subst hie
      go_wp2_with fail
      go_ret2
      obtain ⟨K', hE, hk', hu⟩ := HA.out
      rw [GLN.out, List.take_length] at hE
      have hw1 : w1.heap.size ∉ Jf d1 p jp (.slice none 0 0) := fun hx => by have := HJL.out _ hx; omega
      refine ⟨w1.heap.size + 1, jp, d1, w1.heap.size, K', rfl, ⟨HJX.out.upd hu (fun x hx h => hw1 (h ▸ hx)), ?_, hE, HOK.out, hk', (fun hx => by have := HJL.out _ hx; omega), hw1⟩, HU.out.trans hu (fun x hx h => by omega), HF.out, by omega, hs1⟩
      exact (hu.block (w1.heap.size + 1) hxl (by omega)).trans HXc.out
end Go.Proofs.YtbgommpdmnbplaaGreatDoor
