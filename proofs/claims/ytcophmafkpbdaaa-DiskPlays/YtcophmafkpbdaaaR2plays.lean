/- DiskPlays: both disks of noughts, through any steps. -/
import Derived.Test.YtcophmafkpbdaaaDosAll
import Derived.Test.YtcophmafkpbdaaaDNewK
namespace Go.Proofs.Ytcophmafkpbdaaa
open Go.RowKit
set_option linter.unusedVariables false

theorem sec_zero (n j : Nat) (hj : j < n) : sec (List.replicate (n * 128) (0 : Int)) j = nought := by
  unfold sec nought
  rw [List.drop_replicate, List.take_replicate]
  congr 1
  have : (j + 1) * 128 ≤ n * 128 := Nat.mul_le_mul_right _ hj
  omega

theorem same_new {d : Dk} {x : Rk} {n : Nat} (h1 : d.n = n) (h2 : d.dur = List.replicate (n * 128) 0) (h3 : d.wr = d.dur) (h4 : d.eps = []) (h5 : d.opn = false) (y1 : x.n = n) (y2 : x.f = fun _ => nought) (y3 : x.E = []) : Same d x := by
  refine ⟨by rw [h1, y1], fun j hj => ?_, fun j hj => ?_, by rw [y3]; simp [Dk.ab, h4], ?_⟩
  · rw [h2, y2, sec_zero n j (by omega)]
  · rw [h3, h2, y2, y3, sec_zero n j (by omega)]; rfl
  · rw [h5, y3]; simp

set_option maxHeartbeats 8000000 in
set_option maxRecDepth 20000 in
theorem plays_road (n : Int) (al : Option Addr) (ll cl : Nat) (w : World) (hl : Dos2 w al ll) (hc : ll ≤ cl) (hc2 : cl ≤ 9223372036854775807) (hm : ll ≤ 1780000000000) :
    Calls Try.prog 3 #[.int .i64 n, .slice al ll cl] w fun e w' => e = .returned (.bool true) ∧ Below w.heap.size w w' := by
  by_cases hn : n < 1 ∨ 2048 < n
  · have k1 := hid (dnew_no n w hn)
    have k2 := hid (rnew_no n w hn)
    clear hl hn
    go_enter Try.func3, Try.ntmps3
    go_wp2_with fail
    refine k1.out.mono ?_
    rintro e w1 ⟨rfl, h⟩
    subst w1
    go_wp2_with fail
    refine k2.out.mono ?_
    rintro e w1 ⟨rfl, h⟩
    subst w1
    go_wp2_with fail
    go_ret
    exact ⟨rfl, Below.refl _ _⟩
  · obtain ⟨N, rfl⟩ : ∃ N : Nat, n = (N : Int) := ⟨n.toNat, by omega⟩
    have hN1 : 1 ≤ N := by omega
    have hN2 : N ≤ 2048 := by omega
    have k1 := hid (new_dk N w hN1 hN2)
    have HL := hid hl
    clear hl hn
    go_enter Try.func3, Try.ntmps3
    go_wp2_with fail
    refine k1.out.mono ?_
    rintro e w1 ⟨p, d, rfl, hd, dn, dd, dw, de, dop, hdf, hb1⟩
    have k2 := hid (rnew_rk N (d.foot p) w1 hN1 hN2 hd.lt)
    have HD := hid hd
    have HDR := hid (show d.n = N ∧ d.dur = List.replicate (N * 128) 0 ∧ d.wr = d.dur ∧ d.eps = [] ∧ d.opn = false from ⟨dn, dd, dw, de, dop⟩)
    have HDF := hid hdf
    have HB1 := hid hb1
    clear hd dn dd dw de dop hdf hb1 k1
    go_wp2_with fail
    refine k2.out.mono ?_
    rintro e w2 ⟨rfl, x, hx, xn, xf, xE, xsl, hxf, hb2⟩
    obtain ⟨q, gq⟩ : ∃ q, q = w1.heap.size := ⟨_, rfl⟩
    rw [← gq] at hx hxf ⊢
    have ht := pair_made (n := N) HD.out HDF.out HB1.out hx (fun k hk => by rw [gq] at hk hxf; rw [gq] at *; exact hxf k hk) hb2
    have hsm : Same d x := same_new HDR.out.1 HDR.out.2.1 HDR.out.2.2.1 HDR.out.2.2.2.1 HDR.out.2.2.2.2 xn xf xE
    have hb02 : Below w.heap.size w w2 := HB1.out.trans (hb2.mono HB1.out.size)
    have hrun : Run w (w2.alloc (.cells #[.pointer (some ⟨p, 0, none⟩), .pointer (some ⟨q, 0, none⟩)] 32)) w2.heap.size 0 d p x q (w2.heap.size :: (x.foot q ++ d.foot p)) := ⟨ht, hsm, by rw [xE]; exact Nat.le_refl _, hb02.trans ((one_alloc w2 _).mono hb02.size)⟩
    have kc := hid (copy_both (K := 0) ht hsm (by rw [xE]; exact Nat.le_refl _) (by omega))
    have HRUN := hid hrun
    clear hx xn xf xE xsl hxf hb2 ht hsm hb02 hrun gq k2 HD HDR HDF HB1
    obtain ⟨pp, gpp⟩ : ∃ pp, pp = w2.heap.size := ⟨_, rfl⟩
    go_wp2_with (first | (go_at_call 9; refine kc.out.mono ?_; rintro e w3 ⟨p0, rfl, hb3, k3⟩; have K3 := hid k3; clear hb3 k3) | (go_at_call 10; refine K3.out.mono ?_; rintro e w4 ⟨q0, d0, x0, M0, rfl, hb4, hd4, hx4, hs4, n1, n2, hap, hdM, hMM, hg4, hl4, hE4⟩))
    have hrun4 : Run w w4 w2.heap.size 0 d p x q M0 := ⟨HRUN.out.two.wide hb4 hMM hg4 hl4, HRUN.out.same, HRUN.out.cnt, HRUN.out.bel.trans (hb4.mono HRUN.out.bel.size)⟩
    have hold4 : Old w4 d0 p0 x0 q0 w2.heap.size d p x q M0 := ⟨hd4, hx4, fun k hk => ⟨hk.elim (hdM k) (hx4.inM k), fun hT => by
      have h1 := HRUN.out.two.lt k (HRUN.out.two.turns k hT)
      rcases hk with h2 | h2
      · have := n1 k h2; omega
      · have := n2 k h2; omega⟩⟩
    have hc0 : x0.E.length ≤ 1800000000000 := by rw [hE4]; have := HRUN.out.cnt; omega
    have HR4 := hid hrun4
    have HO4 := hid hold4
    have HS0 := hid hs4
    have HC0 := hid hc0
    rw [← gpp] at HR4 HO4 ⊢
    clear hb4 hd4 hx4 hs4 n1 n2 hap hdM hMM hg4 hl4 hE4 hrun4 hold4 hc0 HRUN K3 kc gpp
    go_wp2_with fail
    go_loopw [59] (fun t wr => ∃ (i : Nat) (d : Dk) (p : Nat) (x : Rk) (q : Nat) (M : List Nat), t = .int .i64 i ∧ i ≤ ll ∧ Hid (Run w wr pp i d p x q M) ∧ Hid (Old wr d0 p0 x0 q0 pp d p x q M)) (fun t _ => ll - (intOf t).toNat)
    case atStart => exact ⟨0, d, p, x, q, M0, rfl, Nat.zero_le _, HR4, HO4⟩
    case round =>
      obtain ⟨i, d, p, x, q, M, rfl, hi, HR, HO⟩ := hrel
      by_cases hlt : i < ll
      · obtain ⟨b, o, e, hbl, hc'⟩ := HL.out (by omega)
        subst e
        obtain ⟨x0', x1, x2, x3, ab, kb, lb, cb, nk, ck, ⟨c0, c1, c2, c3, c4, c5⟩, kd⟩ := does_at (hc' i hlt) HR.out.bel HR.out.two HR.out.same HR.out.cnt (by omega) hbl
        have KD := hid kd
        clear hc' kd
        go_wp2_with fail
        obtain ⟨W5, gW5⟩ : ∃ W5, W5 = wr.alloc (.cells #[.int .i64 x0', .int .i64 x1, .int .i64 x2, .int .i64 x3, .slice ab lb cb, .slice kb nk ck] 38) := ⟨_, rfl⟩
        have hb5 : Below wr.heap.size wr W5 := by rw [gW5]; exact one_alloc _ _
        rw [← gW5]
        have k5 := hid (KD.out W5 hb5)
        have HR5 := hid (HR.out.below hb5)
        have HO5 := hid (HO.out.below hb5)
        clear gW5 c0 c1 c2 c3 c4 c5
        refine k5.out.mono ?_
        rintro e w6 ⟨rfl, d', p', x', q', M', hst⟩
        have HR6 := hid (HR5.out.step (Below.refl _ _) hst)
        have HO6 := hid (HO5.out.step HR5.out.two hst)
        clear hst hb5
        go_wp2_with fail
        go_roundw
        case rel => exact ⟨i + 1, d', p', x', q', M', by go_num, by omega, HR6, HO6⟩
        case measure => simp [intOf]; omega
      · obtain rfl : i = ll := by omega
        have q0' : wr.cell? ⟨pp, 0, none⟩ = some (.pointer (some ⟨p, 0, none⟩)) := by rw [cell_of_row wr pp 0 _ _ _ HR.out.two.cells]; rfl
        have q1' : wr.cell? ⟨pp, 1, none⟩ = some (.pointer (some ⟨q, 0, none⟩)) := by rw [cell_of_row wr pp 1 _ _ _ HR.out.two.cells]; rfl
        have hpl := HR.out.two.lt pp HR.out.two.pM
        have kA := hid (same_dk (HO.out.below ((Below.refl _ wr).drew)).dk (HO.out.below ((Below.refl _ wr).drew)).rk HS0.out HC0.out)
        have hcnt := HR.out.cnt
        have kB := hid (fun wx (hb : Below wr.heap.size wr wx) => same_two (HR.out.two.below hb) HR.out.same (by omega))
        clear hcnt
        go_wp2_with fail
        go_region_held3 (fun wx => wx.cell? ⟨pp, 0, none⟩ = some (.pointer (some ⟨p, 0, none⟩)) ∧ wx.cell? ⟨pp, 1, none⟩ = some (.pointer (some ⟨q, 0, none⟩))) (go_keep) (first | (go_at_call 12; refine kA.out.mono ?_; rintro e wA ⟨rfl, hbA⟩; have hA0 : wA.cell? ⟨pp, 0, none⟩ = some (.pointer (some ⟨p, 0, none⟩)) := (hbA.cell (p := ⟨pp, 0, none⟩) hpl).trans q0'; have hA1 : wA.cell? ⟨pp, 1, none⟩ = some (.pointer (some ⟨q, 0, none⟩)) := (hbA.cell (p := ⟨pp, 1, none⟩) hpl).trans q1'; have HBA := hid (undrew (X := wr) hbA); have KB := hid (kB.out wA HBA.out); clear hbA kA) | (go_at_call 12; refine KB.out.mono ?_; rintro e wB ⟨rfl, hbB⟩; have hB0 : wB.cell? ⟨pp, 0, none⟩ = some (.pointer (some ⟨p, 0, none⟩)) := (hbB.cell (p := ⟨pp, 0, none⟩) (Nat.lt_of_lt_of_le hpl HBA.out.size)).trans hA0; have hB1 : wB.cell? ⟨pp, 1, none⟩ = some (.pointer (some ⟨q, 0, none⟩)) := (hbB.cell (p := ⟨pp, 1, none⟩) (Nat.lt_of_lt_of_le hpl HBA.out.size)).trans hA1; have HBB := hid hbB; clear hbB))
        go_wp2_with fail
        go_ret
        exact ⟨rfl, (HR.out.bel.trans (HBA.out.mono HR.out.bel.size)).trans (HBB.out.mono (Nat.le_trans HR.out.bel.size HBA.out.size))⟩

end Go.Proofs.Ytcophmafkpbdaaa
