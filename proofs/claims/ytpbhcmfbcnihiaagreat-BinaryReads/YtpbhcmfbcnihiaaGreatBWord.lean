/- The codec of a word, and the one that looks for the end: made, and what their Write writes. -/
import Derived.Test.YtpbhcmfbcnihiaaGreatBChosen
import Derived.Test.YtpbhcmfbcnihiaaGreatBPart
import Derived.Test.YtpbhcmfbcnihiaaGreatBRPart2
import Derived.Test.YtpbhcmfbcnihiaaGreatBRChosen
namespace Go.Proofs.YtpbhcmfbcnihiaaGreat
open Go.RowKit Num
set_option linter.unusedVariables false
set_option maxRecDepth 20000

def okW (x : Wd) : Prop := okI x.r ∧ okI x.v
def okC (c : Cp) : Prop := okI c.a ∧ okI c.r ∧ okI c.s ∧ okI c.v ∧ okT c.bs
def okX (x : Ex) : Prop := okI x.n ∧ okL okC x.cs ∧ okL okW x.ws

/-- What is read: a word, a copy, a call, a program. -/
def rWd : Wd → List Int → Option (Wd × Nat) := rSeq [rP (fun x => x.r) (fun x y => ⟨y, x.v⟩) (rN 1), rP (fun x => x.v) (fun x y => ⟨x.r, y⟩) rS]
def rRes : Cp → List Int → Option (Cp × Nat) := rSeq [rP (fun c => c.s) (fun c y => ⟨c.a, c.r, y, c.v, c.bs⟩) (rN 0), rP (fun c => c.v) (fun c y => ⟨c.a, c.r, c.s, y, c.bs⟩) rS]
def rLaid : Cp → List Int → Option (Cp × Nat) := rP (fun c => c.bs) (fun c y => ⟨c.a, c.r, c.s, c.v, y⟩) (rT 2048)
def rCp : Cp → List Int → Option (Cp × Nat) := rSeq [rP (fun c => c.a) (fun c y => ⟨y, c.r, c.s, c.v, c.bs⟩) (rN 0), rP (fun c => c.r) (fun c y => ⟨c.a, y, c.s, c.v, c.bs⟩) (rN 1), rCh rLaid rRes]
def zW : Wd := ⟨0, 0⟩
def zC : Cp := ⟨0, 0, 0, 0, []⟩
def zX : Ex := ⟨0, [], []⟩
def rEx : Ex → List Int → Option (Ex × Nat) := rSeq [rP (fun x => x.n) (fun x y => ⟨y, x.cs, x.ws⟩) (rN 0), rP (fun x => x.cs) (fun x y => ⟨x.n, y, x.ws⟩) (rL 400 rCp zC), rP (fun x => x.ws) (fun x y => ⟨x.n, x.cs, y⟩) (rL 6 rWd zW)]
def rPg : List Ex → List Int → Option (List Ex × Nat) := rSeq [rL 64 rEx zX, rE]

theorem unwr1_wr {α : Type} (B : Nat) (wc : World) (At : (Nat → Prop) → World → Nat → Nat → α → Prop) : Wr B wc At (fun _ => []) (fun _ => True) 97 #[] := by
  refine ⟨fun args w => by kernel_rfl, fun W b o x v xs hW hv hx hok hO hlen => ?_⟩
  show Calls Tryz.prog 97 #[v, .pointer (some ⟨b, o, none⟩)] W _
  have HO := hid hO
  clear hO hx hv hW
  go_enter Tryz.func97, Tryz.ntmps97
  go_wp2_with fail
  go_ret
  exact ⟨v, rfl, by simpa using HO.out, Upd.refl _ _, .inl rfl⟩

theorem unwr_mk (k : Nat) (c : Array Value) (w : World) : Calls Tryz.prog 60 #[fv k c] w fun e w' => e = .returned (.agg #[fv 97 #[], fv k c]) ∧ Below w.heap.size w w' := by
  go_enter Tryz.func60, Tryz.ntmps60
  go_wp2_with fail
  refine bodyPost_ret (cell_result rfl _ _ w.heap.size 0 rfl [fv 97 #[], fv k c] _ (rangeAt_block (t := 41) (heap1 w _)) Tryz.underlying41 rfl csize41) rfl ?_
  exact ⟨rfl, below_box _ _⟩

/-- What is behind a store of a codec into a result's cell. -/
theorem res_end {w w6 w7 : World} {T : TypeId} {f g : Value} (h0 : Below w.heap.size w w6) (hl : w6.heap[w.heap.size]? = some (.cells [.nilFunc, .nilFunc].toArray T (0, 0))) (e : w6.setCells w.heap.size 0 [f, g] = w7) :
    w7.rangeAt w.heap.size 0 [f, g] ∧ Upd (fun k => k < w.heap.size + 1) w6 w7 ∧ Below w.heap.size w w7 := by
  obtain ⟨h1, h2⟩ := cdc_end f g hl rfl e
  exact ⟨h1, h2.mono (fun x _ hx => by omega), h0.trans (h2.below h0.size (fun x hx => by omega))⟩

set_option maxHeartbeats 4000000 in
theorem end_mk (w : World) : Calls Tryz.prog 37 #[] w fun e w' => e = .returned (.agg #[fv 97 #[], fv 61 #[]]) ∧ Below w.heap.size w w' := by
  have k1 := hid (unwr_mk 61 #[])
  go_enter Tryz.func37, Tryz.ntmps37
  go_wp2_with fail
  refine (k1.out _).mono ?_
  rintro e w1 ⟨rfl, hb⟩
  have hl := (hb.block w.heap.size (by simp)).trans (heap1 w _)
  obtain ⟨w7, e7⟩ : ∃ w7, w1.setCells w.heap.size 0 [fv 97 #[], fv 61 #[]] = w7 := ⟨_, rfl⟩
  have HE := hid (res_end (f := fv 97 #[]) (g := fv 61 #[]) ((below_box w _).trans (hb.mono (below_box w _).size)) hl e7)
  have HT := hid (there_of_block (C := [.nilFunc, .nilFunc]) hl 0 2 (by simp))
  have E7 := hid e7
  clear hb hl e7 k1
  go_wp2_with (refine wpList_store_as rfl 41 (.tmp 0) (.tmp 1) rfl w.heap.size 0 #[fv 97 #[], fv 61 #[]] rfl rfl HT.out csize41 (by simp [Value.oneCell']) w7 E7.out ?_)
  refine bodyPost_ret (cell_result rfl _ _ w.heap.size 0 rfl [fv 97 #[], fv 61 #[]] _ HE.out.1 Tryz.underlying41 rfl csize41) rfl ?_
  exact ⟨rfl, HE.out.2.2⟩

set_option maxHeartbeats 4000000 in
theorem word_mk (w : World) : Calls Tryz.prog 59 #[] w fun e w' => ∃ q, e = .returned (.agg #[fv 120 #[pt q], fv 121 #[pt q]]) ∧ Wr w.heap.size w' WdAt eW okW 120 #[pt q] ∧ Rd w.heap.size w' 2 IsW rWd 121 #[pt q] ∧ Below w.heap.size w w' := by
  have k1 := hid (number_mk 1)
  have k2 := hid (part_mk_wn 95 65 67)
  have k3 := hid whole_mk
  have k4 := hid (part_mk_wn 96 114 116 #[] #[])
  have k5 := hid join_mk_w
  go_enter Tryz.func59, Tryz.ntmps59
  go_wp2_with fail
  refine (k1.out _).mono ?_
  rintro e w1 ⟨q1, rfl, l1, c1, b1⟩
  have hs1 := b1.size
  simp at hs1 l1
  have hr1 := hid ((b1.block w.heap.size (by simp)).trans (heap1 w _))
  have B1 := hid ((below_box w _).trans (b1.mono (below_box w _).size))
  clear b1 k1
  go_wp2_with fail
  refine (k2.out _ _ _).mono ?_
  rintro e w2 ⟨qa, pa, rfl, l2, l2', c2, c2', c2'', b2⟩
  have hs2 := b2.size
  have H2 := hid b2
  clear b2 k2
  go_wp2_with fail
  refine (k3.out _).mono ?_
  rintro e w3 ⟨rfl, b3⟩
  have hs3 := b3.size
  have H3 := hid b3
  clear b3 k3
  go_wp2_with fail
  refine (k4.out _).mono ?_
  rintro e w4 ⟨qb, pb, rfl, l4, l4', c4, c4', c4'', b4⟩
  have hs4 := b4.size
  have H4 := hid b4
  clear b4 k4
  go_wp2_with fail
  refine (k5.out _ _ _ _).mono ?_
  rintro e w6 ⟨p, rfl, l6, c6, b6⟩
  have hs6 := b6.size
  simp at hs6 l6
  have hg6 := (b6.block w4.heap.size (by simp)).trans (heap1 w4 _)
  have hr6 := (b6.block w.heap.size (by simp; omega)).trans (((below_box w4 _).block w.heap.size (by omega)).trans ((H4.out.block w.heap.size (by omega)).trans ((H3.out.block w.heap.size (by omega)).trans ((H2.out.block w.heap.size (by omega)).trans hr1.out))))
  have H6 := hid ((below_box w4 _).trans (b6.mono (below_box w4 _).size))
  have B6 := hid (B1.out.trans (((H2.out.trans (((H3.out.trans ((H4.out.trans (H6.out.mono H4.out.size)).mono H3.out.size)).mono H2.out.size))).mono B1.out.size)))
  obtain ⟨w7, e7⟩ : ∃ w7, w6.setCells w.heap.size 0 [fv 120 #[pt p], fv 121 #[pt p]] = w7 := ⟨_, rfl⟩
  have HE := hid (res_end (f := fv 120 #[pt p]) (g := fv 121 #[pt p]) B6.out hr6 e7)
  have HT := hid (there_of_block (C := [.nilFunc, .nilFunc]) hr6 0 2 (by simp))
  have E7 := hid e7
  have G6 := hid hg6
  have C := hid (And.intro c1 (And.intro c2 (And.intro c2'' (And.intro c4 (And.intro c4'' (And.intro c6 (And.intro c2' c4')))))))
  clear b6 hg6 hr6 e7 k5 c1 c2 c2' c2'' c4 c4' c4'' c6
  go_wp2_with (refine wpList_store_as rfl 127 (.tmp 0) (.tmp 6) rfl w.heap.size 0 #[fv 120 #[pt p], fv 121 #[pt p]] rfl rfl HT.out csize127 (by simp [Value.oneCell']) w7 E7.out ?_)
  refine bodyPost_ret (cell_result rfl _ _ w.heap.size 0 rfl [fv 120 #[pt p], fv 121 #[pt p]] _ HE.out.1 Tryz.underlying127 rfl csize127) rfl ?_
  obtain ⟨c1, c2, c2'', c4, c4'', c6, c2', c4'⟩ := C.out
  have u6 := HE.out.2.1
  have u4 := (Upd.of_below (F := fun k => k < w.heap.size + 1) H6.out).trans u6 (fun _ _ h => h)
  have u3 := (Upd.of_below (F := fun k => k < w.heap.size + 1) H4.out).trans u4 (fun _ _ h => h)
  have u2 := (Upd.of_below (F := fun k => k < w.heap.size + 1) H3.out).trans u3 (fun _ _ h => h)
  have u1 := (Upd.of_below (F := fun k => k < w.heap.size + 1) H2.out).trans u2 (fun _ _ h => h)
  have z1 := u1.size
  have z2 := u2.size
  have z4 := u4.size
  have z6 := u6.size
  have n1 := number_wr 1 (.inr rfl) w.heap.size q1 w7 (by omega) ((u1.atc 0 l1.2 (by omega)).trans c1) (by omega)
  have n2 := whole_wr w.heap.size w7
  have p1 := part_wr w.heap.size w7 qa pa (by omega) (by omega) #[pt q1] WdAt InAt (fun x => x.r) (eN 1) okI ((u2.atc 0 l2.2 (by omega)).trans c2) (by omega) ((u2.atc 0 l2'.2 (by omega)).trans c2'') (by omega) (fun _ _ _ _ _ h => h.1) (fun _ _ _ _ _ _ _ k h => InAt.keep k h) n1
  have p2 := part_wv w.heap.size w7 qb pb (by omega) (by omega) #[] WdAt InAt (fun x => x.v) eS okI ((u4.atc 0 l4.2 (by omega)).trans c4) (by omega) ((u4.atc 0 l4'.2 (by omega)).trans c4'') (by omega) (fun _ _ _ _ _ h => h.2) (fun _ _ _ _ _ _ _ k h => InAt.keep k h) n2
  have hG := u6.heap G6.out (by omega)
  have r1 := number_rd 1 (.inr rfl) w.heap.size q1 w7 (by omega) ((u1.atc 0 l1.2 (by omega)).trans c1) (by omega)
  have r2 := whole_rd w.heap.size w7
  have s1 := partr_wr w.heap.size w7 qa pa (by omega) (by omega) #[pt q1] 2 1 IsW IsI (fun x => x.r) (fun x y => ⟨y, x.v⟩) (rN 1) ((u2.atc 1 l2.2 (by omega)).trans c2') (by omega) ((u2.atc 0 l2'.2 (by omega)).trans c2'') (by omega) (by omega) (fun _ _ cs x h => by unfold IsW at h; subst h; rfl) (fun _ _ _ cs x y cs' h _ _ h' => by unfold IsW at h; unfold IsI at h'; subst h; subst h'; rfl) (fun _ _ _ _ _ _ h => h) r1
  have s2 := partr_wv w.heap.size w7 qb pb (by omega) (by omega) #[] 2 1 IsW IsI (fun x => x.v) (fun x y => ⟨x.r, y⟩) rS ((u4.atc 1 l4.2 (by omega)).trans c4') (by omega) ((u4.atc 0 l4'.2 (by omega)).trans c4'') (by omega) (by omega) (fun _ _ cs x h => by unfold IsW at h; subst h; rfl) (fun _ _ _ cs x y cs' h _ _ h' => by unfold IsW at h; unfold IsI at h'; subst h; subst h'; rfl) (fun _ _ _ _ _ _ h => h) r2
  obtain ⟨PS, gPS⟩ : ∃ PS : List (Pc Wd), PS = [⟨122, #[pt qa, pt pa], 123, #[pt qa, pt pa], fun x => eN 1 x.r, rP (fun x => x.r) (fun x y => ⟨y, x.v⟩) (rN 1)⟩, ⟨122, #[pt qb, pt pb], 123, #[pt qb, pt pb], fun x => eS x.v, rP (fun x => x.v) (fun x y => ⟨x.r, y⟩) rS⟩] := ⟨_, rfl⟩
  have hPcs : Pcs w7 w4.heap.size 0 PS := by
    subst gPS
    refine ⟨by omega, ?_⟩
    intro i hi
    match i, hi with
    | 0, _ => exact ⟨cell_of_row _ _ 0 _ _ _ hG, cell_of_row _ _ 1 _ _ _ hG⟩
    | 1, _ => exact ⟨cell_of_row _ _ 2 _ _ _ hG, cell_of_row _ _ 3 _ _ _ hG⟩
  have hW : ∀ P ∈ PS, Wr w.heap.size w7 WdAt P.en okW P.kw P.cw := by
    subst gPS
    intro P hP
    simp only [List.mem_cons, List.not_mem_nil, or_false] at hP
    rcases hP with rfl | rfl
    · exact p1.imp (fun _ h => h.1) (fun _ => rfl)
    · exact p2.imp (fun _ h => h.2) (fun _ => rfl)
  have hR : ∀ P ∈ PS, Rd w.heap.size w7 2 IsW P.rd P.kr P.cr := by
    subst gPS
    intro P hP
    simp only [List.mem_cons, List.not_mem_nil, or_false] at hP
    rcases hP with rfl | rfl
    · exact s1
    · exact s2
  have cp := (u6.atc 0 l6.2 (by omega)).trans c6
  refine ⟨p, rfl, (join_w w.heap.size w7 p w4.heap.size 0 2 (by omega) (by omega) PS WdAt okW cp (by omega) (by rw [gPS]; rfl) (by omega) hPcs hW (fun _ _ _ _ _ _ _ k h => WdAt.keep k h)).imp (fun _ h => h) (fun x => by rw [gPS]; simp [enAll, eW]), (joinr_w w.heap.size w7 p w4.heap.size 0 2 (by omega) (by omega) PS 2 IsW cp (by omega) (by rw [gPS]; rfl) (by omega) hPcs hR (fun _ _ _ _ _ _ h => h)).imp (fun x zs => by rw [gPS]; rfl), HE.out.2.2⟩

end Go.Proofs.YtpbhcmfbcnihiaaGreat
