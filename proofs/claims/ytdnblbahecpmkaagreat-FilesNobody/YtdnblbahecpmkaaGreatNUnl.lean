/- What takeLink, Unlink and Drop do to a file that is alone in its system. -/
import Derived.Test.YtdnblbahecpmkaaGreatNSettle
import Derived.Test.YtdnblbahecpmkaaGreatNTo3
namespace Go.Proofs.YtdnblbahecpmkaaGreat
open Go.RowKit Go.ChangeMaps Go.MapKept
set_option linter.unusedVariables false
set_option maxRecDepth 20000

def Nd.link (x : Nd) (l : Int) : Nd := { x with l := l }
theorem ndC_link (x : Nd) (l : Int) : ndC (x.link l) = (ndC x).set 1 (.int .i64 l) := by simp [ndC, Nd.link]
theorem Sy.linkTo {w : World} {p : Nat} {S : Sg} (h : Sy w p S) (i : Nat) (hi : i < 17) (s : Int) : Sy (w.setCell ⟨p, 1 + i * 107 + 1, none⟩ (.int .i64 s)) p (S.at_ i ((S.P i).link s)) :=
  h.set i hi ((S.P i).link s) ⟨(h.ok i hi).b, (h.ok i hi).B⟩ rfl rfl 1 (by omega) _ rfl (fun j hj e => ndC_set0 _ 1 (by omega) _ _ (ndC_link _ _) j e)

set_option maxHeartbeats 2000000 in
theorem tklink_stay (p : Nat) (S : Sg) (w : World) (H : Sy w p S) (i : Nat) (hi : i < 17) (hl : (S.P i).l = 1) (n : Nat) (hh : (S.P i).h = (n : Int)) (hn : 0 < n) :
    Calls Tryz.prog 67 #[.pointer (some ⟨p, 0, none⟩), .int .i64 (i : Int)] w fun e w' => e = .returned (.tuple #[]) ∧ Sy w' p (S.at_ i ((S.P i).link 0)) ∧ Upd (· = p) w w' := by
  have d := H.l i hi
  rw [hl] at d
  have f := H.fz (1 + i * 107 + 1)
  have hi0 : (0 : Int) ≤ (i : Int) := by omega
  have hi1 : (i : Int) < 17 := by omega
  have hS : Sy (w.setCell ⟨p, 1 + i * 107 + 1, none⟩ (.int .i64 0)).drew p (S.at_ i ((S.P i).link 0)) := (H.linkTo i hi 0).hp rfl
  have k1 : Hid (Calls Tryz.prog 82 #[.pointer (some ⟨p, 0, none⟩), .int .i64 (i : Int)] (w.setCell ⟨p, 1 + i * 107 + 1, none⟩ (.int .i64 0)).drew fun e w' => e = .returned (.tuple #[]) ∧ w' = (w.setCell ⟨p, 1 + i * 107 + 1, none⟩ (.int .i64 0)).drew) :=
    hid (settle_stay p _ _ hS i hi (by rw [Sg.at_same]; rfl) n (by rw [Sg.at_same]; exact hh) hn)
  have HQ : Hid (Sy (w.setCell ⟨p, 1 + i * 107 + 1, none⟩ (.int .i64 0)).drew p (S.at_ i ((S.P i).link 0)) ∧ Upd (· = p) w (w.setCell ⟨p, 1 + i * 107 + 1, none⟩ (.int .i64 0)).drew) := hid ⟨hS, (Upd.setCell (F := (· = p)) w ⟨p, _, none⟩ _ rfl).drewN 1⟩
  clear H hl hh hS
  go_enter Tryz.func67, Tryz.ntmps67
  go_wp2_with fail
  go_region
  go_wp2_with fail
  refine k1.out.mono ?_
  rintro e w1 ⟨rfl, rfl⟩
  go_wp2_with fail
  go_end0
  exact ⟨rfl, HQ.out⟩

set_option maxHeartbeats 2000000 in
theorem drop_last (p : Nat) (S : Sg) (w : World) (i : Nat) (h1 : 2 ≤ i) (hi : i < 17) (x : Nd) (T : Nat → Bool) (H : Sy w p (S.bl i x T)) (hd : S.d = 0) (hk : x.k ≠ 0) (hl : x.l = 0) (hh : x.h = 1) (hs : x.s ≤ 96) (hB : Bok x T (need x.s)) :
    Calls Tryz.prog 154 #[.pointer (some ⟨p, 0, none⟩), .int .i64 (i : Int)] w fun e w' => e = .returned (.int .i64 0) ∧ (∃ T', Sy w' p ((S.bl i (x.hold 0) T').gone i) ∧ cnt T' 25 = 0) ∧ Upd (· = p) w w' := by
  have hP : (S.bl i x T).P i = x := updN_same _ _ _
  have k0 := hid (node_yes p (S.bl i x T) w H i (by omega) hi (by rw [hP]; exact hk))
  have c := H.h i hi
  rw [hP, hh] at c
  have f := H.fz (1 + i * 107 + 2)
  obtain ⟨W, gW⟩ : ∃ W, W = w.setCell ⟨p, 1 + i * 107 + 2, none⟩ (.int .i64 0) := ⟨_, rfl⟩
  have hS : Sy W p (S.bl i (x.hold 0) T) := by
    have := H.holdTo i hi 0
    rw [hP] at this
    rw [gW]
    have e : (S.bl i x T).at_ i (x.hold 0) = S.bl i (x.hold 0) T := by
      unfold Sg.bl Sg.at_ updN
      congr 1
      funext j
      by_cases e : j = i <;> simp [e]
    rw [e] at this
    exact this
  have k1 := hid (settle_go p S W i hi (by omega) (by omega) (x.hold 0) T hS hd hl rfl hs ⟨hB.in_, hB.ne, hB.n⟩)
  have HU : Hid (Upd (· = p) w W) := by rw [gW]; exact hid (Upd.setCell (F := (· = p)) w ⟨p, _, none⟩ _ rfl)
  clear H hd hk hl hh hs hB hP hS
  go_enter Tryz.func154, Tryz.ntmps154
  go_wp2_with fail
  refine k0.out.mono ?_
  rintro e w1 ⟨rfl, rfl⟩
  clear k0
  go_wp2_with fail
  rw [← gW]
  refine k1.out.mono ?_
  rintro e w2 ⟨rfl, hT, u⟩
  have HT := hid hT
  clear k1 hT gW c f
  go_wp2_with fail
  go_ret
  exact ⟨rfl, HT.out, HU.out.trans u (fun _ _ h => h)⟩

end Go.Proofs.YtdnblbahecpmkaaGreat
