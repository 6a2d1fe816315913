/- What disk.Crash does with sectors of the next epoch: these are durable too, the greatest one torn. -/
import Derived.Test.YtcophmafkpbdaaaDTear
namespace Go.Proofs.Ytcophmafkpbdaaa
open Go.RowKit
set_option linter.unusedVariables false

theorem tear_empty (ae : Option Addr) (c : Nat) (t : Int) (w : World) : Calls Try.prog 45 #[.slice ae 0 c, .int .i64 t] w fun r w' => r = .returned (.slice ae 0 c) ∧ w' = w := by
  go_enter Try.func45, Try.ntmps45
  go_wp2_with fail
  go_ret
  exact ⟨rfl, rfl⟩

theorem tornE_snoc (ini : List Snt) (s : Snt) (t : Nat) : tornE (ini ++ [s]) t = (ini.map Snt.cut ++ [(⟨s.sec, ⟨s.blk, 0, none⟩, min t 128, s.cap, s.bs.take (min t 128)⟩ : Cut)]).map Cut.ab := by
  simp [tornE, Snt.cut, Cut.ab, Snt.ab]

/-- tear and settle, one behind the other: what a crash does at last. -/
theorem crash_end {d : Dk} {w w1 : World} {p k ce t c : Nat} {ae av : Option Addr} {ch : List Snt} (hok : d.ok w p) (hve : d.ve = .slice ae d.eps.length ce) (hk : k ≤ d.eps.length) (hkc : k ≤ ce) (hce : ce ≤ 9223372036854775807) (hb : Below w.heap.size w w1) (ht : t ≤ 9223372036854775807)
    (hrow : w1.ownsRow 0 57 2 (.slice av ch.length c) ch.length (sentCells ch)) (hnew : ∀ x, (Value.slice av ch.length c).ownBlock = some x → w.heap.size ≤ x) (hch : ∀ s ∈ ch, s.ok w ∧ s.sec < d.n ∧ s.blk ∈ d.eps.flatMap Ep.foot) (hcl : ch.length ≤ 2048) :
    Calls Try.prog 45 #[.slice av ch.length c, .int .i64 t] w1.drew fun r w4 => r = .returned (.slice av ch.length c) ∧ Below w.heap.size w w4 ∧
      Calls Try.prog 44 #[.pointer (some ⟨p, 0, none⟩), .slice ae k ce, .slice av ch.length c] w4 fun r w5 => r = .returned (.tuple #[]) ∧ Settled w d p (landL (landAll d.dur (d.ab.take k)) (tornE ch t)) w5 := by
  have hnd := hok.nodup
  simp only [Dk.foot, List.nodup_cons, List.mem_cons, List.mem_append, not_or] at hnd
  have hgdlt := hok.lt d.gd (by simp [Dk.foot])
  rcases List.eq_nil_or_concat ch with rfl | ⟨ini, s, rfl⟩
  · refine (tear_empty av c t w1.drew).mono ?_
    rintro r w4 ⟨rfl, h⟩
    subst w4
    refine ⟨rfl, hb.drew, ?_⟩
    obtain ⟨_, c', h, hc1, hc2⟩ := own_shape hrow
    injection h with _ _ h3
    subst h3
    refine (settle_any d p k ce ae av c ce [] w1.drew ((hok.frame (w' := w1) fun x hx => hb.block x (hok.lt x hx)).frame fun _ _ => rfl) hve hk hkc hce ⟨Nat.zero_le _, hc2, fun h => by simp at h, fun s hs => by simp at hs⟩ (by simp)).mono ?_
    rintro r w5 ⟨rfl, h⟩
    exact ⟨rfl, h.below hb.drew⟩
  · rw [List.concat_eq_append] at hrow hnew hch hcl ⊢
    obtain ⟨g, hav⟩ : ∃ g, av = some ⟨g, 0, none⟩ := by
      rcases hrow.2 with ⟨_, h⟩ | ⟨g, c, cur, h, _⟩
      · simp at h
      · injection h with h1 h2 h3; exact ⟨g, h1⟩
    subst hav
    have hg := hnew g rfl
    have hlen : (ini ++ [s]).length = ini.length + 1 := by simp
    rw [hlen] at hrow hcl ⊢
    have hsk := hch s (by simp)
    obtain ⟨_, hsh, hsc1, hsc2, _, _⟩ := own_heap (show w.ownsRow 0 5 1 (.slice (some ⟨s.blk, 0, none⟩) 128 s.cap) 128 _ from hsk.1.2)
    refine (tear_any g c ini.length t ini s w1.drew rfl (by omega) (own_of_heap hrow (fun _ _ => rfl)) ht hsc1 (by unfold maxLen at hsc2; omega)).mono ?_
    rintro r w4 ⟨rfl, hr4, hU4⟩
    have hUw : Upd (· = g) w w4 := (Upd.of_below hb.drew).trans hU4 (fun _ _ h => h)
    refine ⟨rfl, hUw.below (Nat.le_refl _) (fun x hx => hx ▸ hg), ?_⟩
    have hok4 := hok.upd hUw (fun x hx e => by have := hok.lt x hx; omega)
    have hcuts := cuts_torn (gd := d.gd) (N := d.n) (t := t) rfl hr4 (by omega) (fun u hu => by
      obtain ⟨h1, h2, h3⟩ := hch u hu
      have hl := h1.lt
      refine ⟨h1.frame (hUw.block _ hl (by omega)), h2, fun e => hnd.2.1.2.2 (e ▸ h3)⟩)
    have hs := settle_any d p k ce ae (some ⟨g, 0, none⟩) c ce _ w4 hok4 hve hk hkc hce hcuts (by simp; omega)
    rw [← tornE_snoc, List.length_append, List.length_map] at hs
    refine hs.mono ?_
    rintro r w5 ⟨rfl, h⟩
    refine ⟨rfl, h.1, ?_⟩
    exact (hUw.mono (G := fun x => x ∈ d.foot p ∨ x = g) (fun x _ h => .inr h)).trans (h.2.mono (G := fun x => x ∈ d.foot p ∨ x = g) (fun x _ h => .inl h)) (fun _ _ h => h) |>.mono (fun x hx h => by
      rcases h with h | h
      · exact h
      · omega)

set_option maxHeartbeats 1000000 in
set_option maxRecDepth 20000 in
theorem crash_keep (d : Dk) (p k t : Nat) (e : Ep) (kk : Option Addr) (kc : Nat) (ks : List Nat) (w : World) (hok : d.ok w p) (hlt : k < d.eps.length) (he : e = d.eps[k]) (hsz : d.eps.length ≤ 5000000000000) (ht : t ≤ 9223372036854775807)
    (hks : Ints w kk ks) (hkc : ks.length ≤ kc) (hkc2 : kc ≤ 9223372036854775807) (hnd : ks.Nodup) (hin : ∀ k ∈ ks, ∃ j, ∃ h : j < e.es.length, e.es[j].sec = k) :
    Calls Try.prog 19 #[.pointer (some ⟨p, 0, none⟩), .int .i64 k, .slice kk ks.length kc, .int .i64 t] w fun r w' => r = .returned (.int .i64 0) ∧ Settled w d p (landL (landAll d.dur (d.ab.take k)) (tornE (e.es.filter (fun s => decide (s.sec ∈ ks))) t)) w' := by
  obtain ⟨ae, ce, hve, hce1, hce2⟩ := own_shape hok.row
  have k1 := hid (dusable d p w hok)
  have hem : e ∈ d.eps := by rw [he]; exact List.getElem_mem hlt
  have heok := hok.eps e hem
  obtain ⟨ae2, ce2, hev, hev1, hev2⟩ := own_shape heok.row
  have kc' := hid (choose_any e d.n w heok hok.n2 ae2 ce2 hev hev1 hev2 kk kc ks hks hkc hkc2 hnd hin)
  obtain ⟨ge, rfl⟩ : ∃ ge, ae = some ⟨ge, 0, none⟩ := by
    rcases hok.row.2 with ⟨_, h⟩ | ⟨g, c, cur, h, _⟩
    · omega
    · rw [hve] at h; injection h with h1 h2 h3; exact ⟨g, h1⟩
  have hc : w.cell? ⟨ge, k, none⟩ = some (.slice ae2 e.es.length ce2) := by
    have hrow := hok.row
    rw [hve] at hrow
    rw [hrow.cellAt _ (by omega), ← hev, he]
    simp [hlt]
  obtain ⟨c0, c1, c2, c3⟩ := hok.cell
  rw [hve] at c2
  have hel := rise_len heok.rise
  have hn2 := hok.n2
  have hplt := hok.lt p (by simp [Dk.foot])
  have hch : ∀ s ∈ e.es.filter (fun s => decide (s.sec ∈ ks)), s.ok w ∧ s.sec < d.n ∧ s.blk ∈ d.eps.flatMap Ep.foot := fun s hs => by
    obtain ⟨h1, h2, h3⟩ := filter_sub heok _ s hs
    refine ⟨h2, h3, List.mem_flatMap.2 ⟨e, hem, ?_⟩⟩
    simp only [Ep.foot, List.mem_append, List.mem_map]
    exact .inr ⟨s, h1, rfl⟩
  have hcl : (e.es.filter (fun s => decide (s.sec ∈ ks))).length ≤ 2048 := Nat.le_trans (List.length_filter_le _ _) (by omega)
  have HK := hid (And.intro hok (And.intro hve (And.intro hch hcl)))
  obtain ⟨m, hm⟩ : ∃ m, m = d.eps.length := ⟨_, rfl⟩
  rw [← hm] at c2 hlt hsz hce1
  have HM := hid hm
  obtain ⟨kn, hkn⟩ : ∃ kn, kn = ks.length := ⟨_, rfl⟩
  rw [← hkn] at kc' hkc ⊢
  clear hm he hem heok hev hok hve hch hcl hks hnd hin c0 c1 c3 hkn
  go_enter Try.func19, Try.ntmps19
  go_wp2_with fail
  refine k1.out.mono ?_
  rintro r w1 ⟨rfl, h⟩
  subst w1
  go_wp2_with fail
  refine kc'.out.mono ?_
  rintro r w1 ⟨v, rfl, hvo, hvn, hb1⟩
  obtain ⟨av, cv, hvs, hcv1, hcv2⟩ := own_shape hvo
  subst hvs
  have kt := hid (crash_end HK.out.1 HK.out.2.1 (k := k) (by have := HM.out; omega) (by omega) hce2 hb1 ht hvo hvn HK.out.2.2.1 HK.out.2.2.2)
  have d2 : w1.cell? ⟨p, 2, none⟩ = some (.slice (some ⟨ge, 0, none⟩) m ce) := (hb1.cell (p := ⟨p, 2, none⟩) hplt).trans c2
  have b1 : (0 : Int) ≤ (k : Int) := by omega
  have b2 : (k : Int) ≤ (ce : Int) := by omega
  have b3 : (0 : Int) ≤ (t : Int) := by omega
  obtain ⟨cn, hcn⟩ : ∃ cn, cn = (e.es.filter (fun s => decide (s.sec ∈ ks))).length := ⟨_, rfl⟩
  rw [← hcn] at kt hcv1 ⊢
  clear hc hvo hvn hcn kc' k1
  go_wp2_with fail
  go_region_with (first | (go_at_call 45; refine kt.out.mono ?_; rintro r w4 ⟨rfl, hb4, hS⟩; have d4 : w4.cell? ⟨p, 2, none⟩ = some (.slice (some ⟨ge, 0, none⟩) m ce) := (hb4.cell (p := ⟨p, 2, none⟩) hplt).trans c2; have KS := hid hS; clear hS hb4) | (go_at_call 44; refine KS.out.mono ?_; rintro r w5 ⟨rfl, hst⟩; have HST := hid hst; clear hst))
  all_goals
    go_wp2_with fail
    go_ret
    exact ⟨rfl, HST.out⟩

end Go.Proofs.Ytcophmafkpbdaaa
