/- What disk.Crash does without sectors of the next epoch, whatever number stands for what is torn. -/
import Derived.Test.YtnfkkhglooehfaaDCrash
namespace Go.Proofs.Ytnfkkhglooehfaa
open Go.RowKit
set_option linter.unusedVariables false

set_option maxHeartbeats 1000000 in
set_option maxRecDepth 20000 in
theorem crash_nil (d : Dk) (p k t : Nat) (w : World) (hok : d.ok w p) (hk : k ≤ d.eps.length) (hsz : d.eps.length ≤ 5000000000000) :
    Calls Try.prog 19 #[.pointer (some ⟨p, 0, none⟩), .int .i64 k, .slice none 0 0, .int .i64 t] w fun e w' => e = .returned (.int .i64 0) ∧ Settled w d p (landAll d.dur (d.ab.take k)) w' := by
  obtain ⟨ae, ce, hve, hce1, hce2⟩ := own_shape hok.row
  have k1 := hid (dusable d p w hok)
  have k2 : Hid (∀ wx, Below w.heap.size w wx → Calls Try.prog 44 #[.pointer (some ⟨p, 0, none⟩), .slice ae k ce, .slice none 0 0] wx fun e w' => e = .returned (.tuple #[]) ∧ Settled wx d p (landAll d.dur (d.ab.take k)) w') := fun wx hb =>
    settle_any d p k ce ae none 0 ce [] wx (hok.frame fun x hx => hb.block x (hok.lt x hx)) hve hk (by omega) hce2 ⟨Nat.le_refl _, by omega, fun h => by simp at h, fun s hs => by simp at hs⟩ (by simp)
  obtain ⟨c0, c1, c2, c3⟩ := hok.cell
  rw [hve] at c2
  have HK := hid hok
  have HVE := hid hve
  have hplt := hok.lt p (by simp [Dk.foot])
  clear hok hve c0 c1 c3
  rcases (show k = d.eps.length ∨ k < d.eps.length by omega) with hke | hlt
  · have kc := hid (choose_none ⟨.slice none 0 0, []⟩ d.n w ⟨World.ownsRow_nil _ _ _ _, fun s hs => by simp at hs, ⟨by simp, fun x hx => by simp at hx⟩⟩ HK.out.n2 none 0 rfl (by simp) (by omega))
    obtain ⟨m, hm⟩ : ∃ m, m = d.eps.length := ⟨_, rfl⟩
    rw [← hm] at c2 hke hsz hce1
    subst hke
    clear hm
    go_enter Try.func19, Try.ntmps19
    go_wp2_with fail
    refine k1.out.mono ?_
    rintro r w1 ⟨rfl, h⟩
    subst w1
    go_wp2_with fail
    refine kc.out.mono ?_
    rintro r w1 ⟨rfl, hb1⟩
    have d2 : w1.cell? ⟨p, 2, none⟩ = some (.slice ae k ce) := (hb1.cell (p := ⟨p, 2, none⟩) hplt).trans c2
    have b1 : (0 : Int) ≤ (k : Int) := by omega
    have b3 : (0 : Int) ≤ (t : Int) := by omega
    have b2 : (k : Int) ≤ (ce : Int) := by omega
    have hbd := hb1.drew
    have hae : (ae = none ∧ k = 0 ∧ ce = 0) ∨ ∃ ge, ae = some ⟨ge, 0, none⟩ := by
      rcases HK.out.row.2 with ⟨h, h2⟩ | ⟨g, c, cur, h, _⟩
      · rw [HVE.out] at h; injection h with h1 h3 h4; exact .inl ⟨h1, by omega, h4⟩
      · rw [HVE.out] at h; injection h with h1 h3 h4; exact .inr ⟨g, h1⟩
    go_wp2_with fail
    rcases hae with ⟨rfl, h0, h00⟩ | ⟨ge, rfl⟩
    · subst h00
      subst h0
      go_region_with (first | (go_at_call 45; refine (tear_empty _ _ _ _).mono ?_; rintro r w4 ⟨rfl, h⟩; subst w4) | (go_at_call 44; refine (k2.out _ hbd).mono ?_; rintro r w5 ⟨rfl, hst⟩; have HST := hid hst; clear hst))
      all_goals
        go_wp2_with fail
        go_ret
        exact ⟨rfl, HST.out.below hbd⟩
    · go_region_with (first | (go_at_call 45; refine (tear_empty _ _ _ _).mono ?_; rintro r w4 ⟨rfl, h⟩; subst w4) | (go_at_call 44; refine (k2.out _ hbd).mono ?_; rintro r w5 ⟨rfl, hst⟩; have HST := hid hst; clear hst))
      all_goals
        go_wp2_with fail
        go_ret
        exact ⟨rfl, HST.out.below hbd⟩
  · obtain ⟨e, he⟩ : ∃ e, e = d.eps[k] := ⟨_, rfl⟩
    have hem : e ∈ d.eps := by rw [he]; exact List.getElem_mem hlt
    have heok := HK.out.eps e hem
    obtain ⟨ae2, ce2, hev, hev1, hev2⟩ := own_shape heok.row
    have kc := hid (choose_none e d.n w heok HK.out.n2 ae2 ce2 hev hev1 hev2)
    obtain ⟨ge, rfl⟩ : ∃ ge, ae = some ⟨ge, 0, none⟩ := by
      rcases HK.out.row.2 with ⟨_, h⟩ | ⟨g, c, cur, h, _⟩
      · omega
      · rw [HVE.out] at h; injection h with h1 h2 h3; exact ⟨g, h1⟩
    have hc : w.cell? ⟨ge, k, none⟩ = some (.slice ae2 e.es.length ce2) := by
      have hrow := HK.out.row
      rw [HVE.out] at hrow
      rw [hrow.cellAt _ (by omega), ← hev, he]
      simp [hlt]
    obtain ⟨m, hm⟩ : ∃ m, m = d.eps.length := ⟨_, rfl⟩
    rw [← hm] at c2 hlt hsz hce1
    have HM := hid hm
    clear he hem heok hev hm
    go_enter Try.func19, Try.ntmps19
    go_wp2_with fail
    refine k1.out.mono ?_
    rintro r w1 ⟨rfl, h⟩
    subst w1
    go_wp2_with fail
    refine kc.out.mono ?_
    rintro r w1 ⟨rfl, hb1⟩
    have d2 : w1.cell? ⟨p, 2, none⟩ = some (.slice (some ⟨ge, 0, none⟩) m ce) := (hb1.cell (p := ⟨p, 2, none⟩) hplt).trans c2
    have b1 : (0 : Int) ≤ (k : Int) := by omega
    have b3 : (0 : Int) ≤ (t : Int) := by omega
    have b2 : (k : Int) ≤ (ce : Int) := by omega
    have hbd := hb1.drew
    clear hc
    go_wp2_with fail
    go_region_with (first | (go_at_call 45; refine (tear_empty _ _ _ _).mono ?_; rintro r w4 ⟨rfl, h⟩; subst w4) | (go_at_call 44; refine (k2.out _ hbd).mono ?_; rintro r w5 ⟨rfl, hst⟩; have HST := hid hst; clear hst))
    all_goals
      go_wp2_with fail
      go_ret
      exact ⟨rfl, HST.out.below hbd⟩

end Go.Proofs.Ytnfkkhglooehfaa
