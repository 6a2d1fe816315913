/- What disk.Crash does with all epochs, and no sector (a list that is empty, nil or not). -/
import Derived.Test.YtcophmafkpbdaaaDCrash
namespace Go.Proofs.Ytcophmafkpbdaaa
open Go.RowKit
set_option linter.unusedVariables false

set_option maxHeartbeats 1000000 in
set_option maxRecDepth 20000 in
theorem crash_last (d : Dk) (p k t : Nat) (kk : Option Addr) (kc : Nat) (w : World) (hok : d.ok w p) (hke : k = d.eps.length) (hsz : d.eps.length ≤ 5000000000000) (hkc2 : kc ≤ 9223372036854775807) :
    Calls Try.prog 19 #[.pointer (some ⟨p, 0, none⟩), .int .i64 k, .slice kk 0 kc, .int .i64 t] w fun e w' => e = .returned (.int .i64 0) ∧ Settled w d p (landAll d.dur d.ab) w' := by
  obtain ⟨ae, ce, hve, hce1, hce2⟩ := own_shape hok.row
  have k1 := hid (dusable d p w hok)
  have htk : d.ab.take k = d.ab := List.take_of_length_le (by rw [hke]; simp [Dk.ab])
  have k2 : Hid (∀ wx av cv, cv ≤ 9223372036854775807 → Below w.heap.size w wx → Calls Try.prog 44 #[.pointer (some ⟨p, 0, none⟩), .slice ae k ce, .slice av 0 cv] wx fun e w' => e = .returned (.tuple #[]) ∧ Settled wx d p (landAll d.dur d.ab) w') := fun wx av cv hcv hb => by
    have h := settle_any d p k ce ae av cv ce [] wx (hok.frame fun x hx => hb.block x (hok.lt x hx)) hve (by omega) (by omega) hce2 ⟨Nat.zero_le _, hcv, fun h => by simp at h, fun s hs => by simp at hs⟩ (by simp)
    rw [htk] at h
    exact h
  have kc' := hid (choose_any ⟨.slice none 0 0, []⟩ d.n w ⟨World.ownsRow_nil _ _ _ _, fun s hs => by simp at hs, ⟨by simp, fun x hx => by simp at hx⟩⟩ hok.n2 none 0 rfl (by simp) (by omega) kk kc [] (fun h => by simp at h) (Nat.zero_le _) hkc2 List.nodup_nil (fun k hk => by simp at hk))
  obtain ⟨c0, c1, c2, c3⟩ := hok.cell
  rw [hve] at c2
  have HK := hid hok
  have HVE := hid hve
  have hplt := hok.lt p (by simp [Dk.foot])
  clear hok hve c0 c1 c3 htk
  obtain ⟨m, hm⟩ : ∃ m, m = d.eps.length := ⟨_, rfl⟩
  rw [← hm] at c2 hke hsz hce1
  subst hke
  have HM := hid hm
  clear hm
  go_enter Try.func19, Try.ntmps19
  go_wp2_with fail
  refine k1.out.mono ?_
  rintro r w1 ⟨rfl, h⟩
  subst w1
  go_wp2_with fail
  refine kc'.out.mono ?_
  rintro r w1 ⟨v, rfl, hvo, hvn, hb1⟩
  simp only [List.filter_nil, List.length_nil] at hvo
  obtain ⟨av, cv, hvs, hcv1, hcv2⟩ := own_shape hvo
  subst hvs
  have d2 : w1.cell? ⟨p, 2, none⟩ = some (.slice ae k ce) := (hb1.cell (p := ⟨p, 2, none⟩) hplt).trans c2
  have b1 : (0 : Int) ≤ (k : Int) := by omega
  have b3 : (0 : Int) ≤ (t : Int) := by omega
  have b2 : (k : Int) ≤ (ce : Int) := by omega
  have hbd := hb1.drew
  have hae : (ae = none ∧ k = 0 ∧ ce = 0) ∨ ∃ ge, ae = some ⟨ge, 0, none⟩ := by
    rcases HK.out.row.2 with ⟨h, h2⟩ | ⟨g, c, cur, h, _⟩
    · rw [HVE.out] at h; injection h with h1 h3 h4; exact .inl ⟨h1, by rw [HM.out]; exact h2, h4⟩
    · rw [HVE.out] at h; injection h with h1 h3 h4; exact .inr ⟨g, h1⟩
  clear hvo hvn
  go_wp2_with fail
  rcases hae with ⟨rfl, h0, h00⟩ | ⟨ge, rfl⟩
  · subst h00
    subst h0
    go_region_with (first | (go_at_call 45; refine (tear_empty _ _ _ _).mono ?_; rintro r w4 ⟨rfl, h⟩; subst w4) | (go_at_call 44; refine (k2.out _ _ _ hcv2 hbd).mono ?_; rintro r w5 ⟨rfl, hst⟩; have HST := hid hst; clear hst))
    all_goals
      go_wp2_with fail
      go_ret
      exact ⟨rfl, HST.out.below hbd⟩
  · go_region_with (first | (go_at_call 45; refine (tear_empty _ _ _ _).mono ?_; rintro r w4 ⟨rfl, h⟩; subst w4) | (go_at_call 44; refine (k2.out _ _ _ hcv2 hbd).mono ?_; rintro r w5 ⟨rfl, hst⟩; have HST := hid hst; clear hst))
    all_goals
      go_wp2_with fail
      go_ret
      exact ⟨rfl, HST.out.below hbd⟩

end Go.Proofs.Ytcophmafkpbdaaa
