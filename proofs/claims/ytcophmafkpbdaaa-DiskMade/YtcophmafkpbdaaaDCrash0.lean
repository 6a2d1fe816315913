/- What disk.Crash does without sectors of a further epoch: the first epochs are durable, all else is lost. -/
import Derived.Test.YtcophmafkpbdaaaDSettle
namespace Go.Proofs.Ytcophmafkpbdaaa
open Go.RowKit
set_option linter.unusedVariables false

theorem Try.info4 : (Try.prog.info? 4).map (fun i => (i.zero, i.size, i.bytes)) = some (some (.bool false), 1, 1) := by kernel_rfl

set_option maxHeartbeats 1000000 in
set_option maxRecDepth 20000 in
theorem choose_none (e : Ep) (N : Nat) (w : World) (he : e.ok w N) (hN : N ≤ 2048) (ae : Option Addr) (c : Nat) (hv : e.v = .slice ae e.es.length c) (hc1 : e.es.length ≤ c) (hc2 : c ≤ 9223372036854775807) :
    Calls Try.prog 43 #[.slice ae e.es.length c, .slice none 0 0] w fun r w' => r = .returned (.tuple #[.slice none 0 0, .bool true]) ∧ Below w.heap.size w w' := by
  obtain ⟨i0, hi0, hz0, hz1, hz2⟩ := info_parts Try.info4
  have hel := rise_len he.rise
  have hrow := he.row
  rw [hv] at hrow
  have HS := hid (sents_of hrow rfl)
  have HE := hid he
  clear hrow he hv
  have hmx : e.es.length ≤ maxLen := by unfold maxLen; omega
  have hby : i0.bytes * e.es.length ≤ 281474976710656 := by rw [hz2]; omega
  obtain ⟨n, hn⟩ : ∃ n, n = e.es.length := ⟨_, rfl⟩
  rw [← hn] at hel hc1 hmx hby HS ⊢
  have HN := hid hn
  clear hn
  go_enter Try.func43, Try.ntmps43
  go_wp2_with (at_make; go_must (refine wpList_make_lc _ rfl _ _ 92 rfl 4 i0 (.bool false) 1 Try.underlying92 hi0 hz0 hz1 _ _ _ _ n n rfl rfl rfl rfl (Nat.le_refl _) hby hmx ?_))
  obtain ⟨W1, gW1⟩ : ∃ W1, W1 = w.alloc (.cells (madeCells #[Value.bool false] n) 4) := ⟨_, rfl⟩
  have hb1 : Below w.heap.size w W1 := by rw [gW1]; exact (Below.refl _ _).alloc (Nat.le_refl _) _
  have hs1 : W1.heap.size = w.heap.size + 1 := by rw [gW1]; simp
  have hnm : ∀ j, j < n → W1.cell? ⟨w.heap.size, j, none⟩ = some (.bool false) := by
    intro j hj
    have h0 : W1.heap[w.heap.size]? = some (.cells (madeCells #[Value.bool false] n) 4 (0, 0)) := by rw [gW1]; exact heap_alloc_new w _
    rw [cell_of_row W1 _ j _ _ _ h0]
    simp [madeCells, hj, Nat.mod_one]
  have HNM := hid hnm
  rw [← gW1]
  clear gW1 hnm
  go_loop [19] (fun k => k = .int .i64 0) (fun _ => 0)
  case atStart => rfl
  case round =>
    subst hrel
    go_wp2_with fail
    go_loopw [11, 43] (fun a k wr => ∃ i : Nat, a = .slice none 0 0 ∧ k = .int .i64 i ∧ i ≤ n ∧ Below (w.heap.size + 1) W1 wr) (fun _ k _ => n - (intOf k).toNat)
    case atStart => exact ⟨0, rfl, rfl, Nat.zero_le _, Below.refl _ _⟩
    case round =>
      obtain ⟨i, rfl, rfl, hi, hbr⟩ := hrel
      by_cases hlt : i < n
      · have hbw : Below w.heap.size w wr := hb1.trans (hbr.mono (by omega))
        obtain ⟨b, o, rfl, hbl, hc⟩ := HS.out.below hbw (by omega)
        obtain ⟨c0, c1⟩ := hc i hlt
        have hie : i < e.es.length := by have := HN.out; omega
        rw [valAt_eq _ _ hie] at c1
        simp only [Snt.val] at c1
        have cn : wr.cell? ⟨w.heap.size, i, none⟩ = some (.bool false) := (hbr.cell (p := ⟨w.heap.size, i, none⟩) (by show w.heap.size < _; omega)).trans (HNM.out i hlt)
        have hwz := hbr.size
        have hcn : ∀ ob : Obj, (wr.alloc ob).cell? ⟨w.heap.size, i, none⟩ = some (.bool false) := fun ob => (World.cell?_of_block (a := ⟨w.heap.size, i, none⟩) (Below.heap_alloc wr ob w.heap.size (by omega))).trans cn
        clear hc cn
        go_wp2_with fail
        go_roundw
        case rel => exact ⟨i + 1, rfl, by go_num, by omega, hbr.alloc (by omega) _⟩
        case measure => simp [intOf]; omega
      · obtain rfl : i = n := by omega
        go_wp2_with fail
        go_ret2
        exact ⟨rfl, hb1.trans (hbr.mono (by omega))⟩

theorem tear_none (torn : Int) (w : World) : Calls Try.prog 45 #[.slice none 0 0, .int .i64 torn] w fun r w' => r = .returned (.slice none 0 0) ∧ w' = w := by
  go_enter Try.func45, Try.ntmps45
  go_wp2_with fail
  go_ret
  exact ⟨rfl, rfl⟩

theorem Settled.below {w w1 w' : World} {d : Dk} {p : Nat} {D : List Int} (h : Settled w1 d p D w') (hb : Below w.heap.size w w1) : Settled w d p D w' :=
  ⟨h.1, (Upd.of_below hb).trans h.2 (fun _ _ h => h)⟩

set_option maxHeartbeats 1000000 in
set_option maxRecDepth 20000 in
theorem crash_none (d : Dk) (p k : Nat) (w : World) (hok : d.ok w p) (hk : k ≤ d.eps.length) (hsz : d.eps.length ≤ 5000000000000) :
    Calls Try.prog 19 #[.pointer (some ⟨p, 0, none⟩), .int .i64 k, .slice none 0 0, .int .i64 0] w fun e w' => e = .returned (.int .i64 0) ∧ Settled w d p (landAll d.dur (d.ab.take k)) w' := by
  obtain ⟨ae, ce, hve, hce1, hce2⟩ := own_shape hok.row
  have k1 := hid (dusable d p w hok)
  have k2 : Hid (∀ wx, Below w.heap.size w wx → Calls Try.prog 44 #[.pointer (some ⟨p, 0, none⟩), .slice ae k ce, .slice none 0 0] wx fun e w' => e = .returned (.tuple #[]) ∧ Settled wx d p (landAll d.dur (d.ab.take k)) w') := fun wx hb =>
    settle_any d p k ce ae none 0 ce [] wx (hok.frame fun x hx => hb.block x (hok.lt x hx)) hve hk (by omega) hce2 ⟨Nat.le_refl _, by omega, fun h => by simp at h, fun s hs => by simp at hs⟩ (by simp)
  obtain ⟨c0, c1, c2, c3⟩ := hok.cell
  rw [hve] at c2
  have HK := hid hok
  have HVE := hid hve
  have hplt := hok.lt p (by simp [Dk.foot])
  clear hok hve c0 c1 c3
  rcases (show k = d.eps.length ∨ k < d.eps.length by omega) with hke | hlt
  · have kc := hid (choose_none ⟨.slice none 0 0, []⟩ d.n w ⟨World.ownsRow_nil _ _ _ _, fun s hs => by simp at hs, ⟨by simp, fun x hx => by simp at hx⟩⟩ HK.out.n2 none 0 rfl (by simp) (by omega))
    obtain ⟨m, hm⟩ : ∃ m, m = d.eps.length := ⟨_, rfl⟩
    rw [← hm] at c2 hke hsz hce1
    subst hke
    clear hm
    go_enter Try.func19, Try.ntmps19
    go_wp2_with fail
    refine k1.out.mono ?_
    rintro r w1 ⟨rfl, h⟩
    subst w1
    go_wp2_with fail
    refine kc.out.mono ?_
    rintro r w1 ⟨rfl, hb1⟩
    have d2 : w1.cell? ⟨p, 2, none⟩ = some (.slice ae k ce) := (hb1.cell (p := ⟨p, 2, none⟩) hplt).trans c2
    have b1 : (0 : Int) ≤ (k : Int) := by omega
    have b2 : (k : Int) ≤ (ce : Int) := by omega
    have hbd := hb1.drew
    have hae : (ae = none ∧ k = 0 ∧ ce = 0) ∨ ∃ ge, ae = some ⟨ge, 0, none⟩ := by
      rcases HK.out.row.2 with ⟨h, h2⟩ | ⟨g, c, cur, h, _⟩
      · rw [HVE.out] at h; injection h with h1 h3 h4; exact .inl ⟨h1, by omega, h4⟩
      · rw [HVE.out] at h; injection h with h1 h3 h4; exact .inr ⟨g, h1⟩
    go_wp2_with fail
    rcases hae with ⟨rfl, h0, h00⟩ | ⟨ge, rfl⟩
    · subst h00
      subst h0
      go_region_with (first | (go_at_call 45; refine (tear_none _ _).mono ?_; rintro r w4 ⟨rfl, h⟩; subst w4) | (go_at_call 44; refine (k2.out _ hbd).mono ?_; rintro r w5 ⟨rfl, hst⟩; have HST := hid hst; clear hst))
      all_goals
        go_wp2_with fail
        go_ret
        exact ⟨rfl, HST.out.below hbd⟩
    · go_region_with (first | (go_at_call 45; refine (tear_none _ _).mono ?_; rintro r w4 ⟨rfl, h⟩; subst w4) | (go_at_call 44; refine (k2.out _ hbd).mono ?_; rintro r w5 ⟨rfl, hst⟩; have HST := hid hst; clear hst))
      all_goals
        go_wp2_with fail
        go_ret
        exact ⟨rfl, HST.out.below hbd⟩
  · obtain ⟨e, he⟩ : ∃ e, e = d.eps[k] := ⟨_, rfl⟩
    have hem : e ∈ d.eps := by rw [he]; exact List.getElem_mem hlt
    have heok := HK.out.eps e hem
    obtain ⟨ae2, ce2, hev, hev1, hev2⟩ := own_shape heok.row
    have kc := hid (choose_none e d.n w heok HK.out.n2 ae2 ce2 hev hev1 hev2)
    obtain ⟨ge, rfl⟩ : ∃ ge, ae = some ⟨ge, 0, none⟩ := by
      rcases HK.out.row.2 with ⟨_, h⟩ | ⟨g, c, cur, h, _⟩
      · omega
      · rw [HVE.out] at h; injection h with h1 h2 h3; exact ⟨g, h1⟩
    have hc : w.cell? ⟨ge, k, none⟩ = some (.slice ae2 e.es.length ce2) := by
      have hrow := HK.out.row
      rw [HVE.out] at hrow
      rw [hrow.cellAt _ (by omega), ← hev, he]
      simp [hlt]
    obtain ⟨m, hm⟩ : ∃ m, m = d.eps.length := ⟨_, rfl⟩
    rw [← hm] at c2 hlt hsz hce1
    have HM := hid hm
    clear he hem heok hev hm
    go_enter Try.func19, Try.ntmps19
    go_wp2_with fail
    refine k1.out.mono ?_
    rintro r w1 ⟨rfl, h⟩
    subst w1
    go_wp2_with fail
    refine kc.out.mono ?_
    rintro r w1 ⟨rfl, hb1⟩
    have d2 : w1.cell? ⟨p, 2, none⟩ = some (.slice (some ⟨ge, 0, none⟩) m ce) := (hb1.cell (p := ⟨p, 2, none⟩) hplt).trans c2
    have b1 : (0 : Int) ≤ (k : Int) := by omega
    have b2 : (k : Int) ≤ (ce : Int) := by omega
    have hbd := hb1.drew
    clear hc
    go_wp2_with fail
    go_region_with (first | (go_at_call 45; refine (tear_none _ _).mono ?_; rintro r w4 ⟨rfl, h⟩; subst w4) | (go_at_call 44; refine (k2.out _ hbd).mono ?_; rintro r w5 ⟨rfl, hst⟩; have HST := hid hst; clear hst))
    all_goals
      go_wp2_with fail
      go_ret
      exact ⟨rfl, HST.out.below hbd⟩

end Go.Proofs.Ytcophmafkpbdaaa
