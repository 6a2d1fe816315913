/- What disk.choose does with sectors of which one is not there, or named twice: false. -/
import Derived.Test.YtcophmafkpbdaaaDChoose
import Derived.Test.YtcophmafkpbdaaaR2errs
namespace Go.Proofs.Ytcophmafkpbdaaa
open Go.RowKit
set_option linter.unusedVariables false

/-- A row of ints, whatever they are, that is read. -/
def IntsZ (w : World) (a : Option Addr) (zs : List Int) : Prop := 0 < zs.length → ∃ b o, a = some ⟨b, o, none⟩ ∧ b < w.heap.size ∧ ∀ j (h : j < zs.length), w.cell? ⟨b, o + j, none⟩ = some (.int .i64 zs[j])

theorem IntsZ.below {w w' : World} {a : Option Addr} {zs : List Int} (h : IntsZ w a zs) (hb : Below w.heap.size w w') : IntsZ w' a zs := fun h0 => by
  obtain ⟨b, o, e, hlt, hc⟩ := h h0
  exact ⟨b, o, e, Nat.lt_of_lt_of_le hlt hb.size, fun j hj => (hb.cell (p := ⟨b, o + j, none⟩) hlt).trans (hc j hj)⟩

set_option maxHeartbeats 1000000 in
set_option maxRecDepth 20000 in
theorem choose_bad (e : Ep) (N : Nat) (w : World) (he : e.ok w N) (hN : N ≤ 2048) (ae : Option Addr) (c : Nat) (hv : e.v = .slice ae e.es.length c) (hc1 : e.es.length ≤ c) (hc2 : c ≤ 9223372036854775807)
    (kk : Option Addr) (kc : Nat) (ks : List Nat) (z : Int) (rest : List Int) (hks : IntsZ w kk (ks.map (fun (x : Nat) => (x : Int)) ++ z :: rest)) (hkc : (ks.map (fun (x : Nat) => (x : Int)) ++ z :: rest).length ≤ kc) (hkc2 : kc ≤ 9223372036854775807) (hnd : ks.Nodup) (hin : ∀ k ∈ ks, ∃ j, ∃ h : j < e.es.length, e.es[j].sec = k)
    (hbad : (∀ j, ∀ h : j < e.es.length, (e.es[j].sec : Int) ≠ z) ∨ ∃ k ∈ ks, (k : Int) = z) :
    Calls Try.prog 43 #[.slice ae e.es.length c, .slice kk (ks.map (fun (x : Nat) => (x : Int)) ++ z :: rest).length kc] w fun r w' => r = .returned (.tuple #[.slice none 0 0, .bool false]) ∧ Below w.heap.size w w' := by
  obtain ⟨i0, hi0, hz0, hz1, hz2⟩ := info_parts Try.info4
  obtain ⟨j0, hj0, hy0, hy1, hy2⟩ := info_parts Try.infoSE
  have hel := rise_len he.rise
  have hrow := he.row
  rw [hv] at hrow
  have HS := hid (sents_of hrow rfl)
  have HE := hid he
  have HKS := hid hks
  have HBAD := hid hbad
  have HND := hid hnd
  have HIN := hid hin
  clear hrow he hv hks hnd hin hbad
  have hmx : e.es.length ≤ maxLen := by unfold maxLen; omega
  have hby : i0.bytes * e.es.length ≤ 281474976710656 := by rw [hz2]; omega
  obtain ⟨n, hn⟩ : ∃ n, n = e.es.length := ⟨_, rfl⟩
  obtain ⟨kn, hkn⟩ : ∃ kn, kn = ks.length := ⟨_, rfl⟩
  obtain ⟨zn, hzn⟩ : ∃ zn, zn = (ks.map (fun (x : Nat) => (x : Int)) ++ z :: rest).length := ⟨_, rfl⟩
  have hkz : kn < zn := by rw [hkn, hzn]; simp
  rw [← hn] at hel hc1 hmx hby HS ⊢
  rw [← hzn] at hkc ⊢
  have HN := hid hn
  have HKN := hid hkn
  have HZN := hid hzn
  clear hn hkn hzn
  go_enter Try.func43, Try.ntmps43
  go_wp2_with (at_make; go_must (refine wpList_make_lc _ rfl _ _ 92 rfl 4 i0 (.bool false) 1 Try.underlying92 hi0 hz0 hz1 _ _ _ _ n n rfl rfl rfl rfl (Nat.le_refl _) hby hmx ?_))
  obtain ⟨W1, gW1⟩ : ∃ W1, W1 = w.alloc (.cells (madeCells #[Value.bool false] n) 4) := ⟨_, rfl⟩
  have hb1 : Below w.heap.size w W1 := by rw [gW1]; exact (Below.refl _ _).alloc (Nat.le_refl _) _
  have hs1 : W1.heap.size = w.heap.size + 1 := by rw [gW1]; simp
  have hnm : W1.ownsRow 0 4 1 (.slice (some ⟨w.heap.size, 0, none⟩) n n) n (named e.es []) := by
    rw [gW1]
    refine ⟨by simp [named, HN.out], .inr ⟨w.heap.size, n, _, rfl, Nat.zero_le _, heap_alloc_new w _, Nat.le_refl _, hmx, by simp [size_madeCells], ?_⟩⟩
    rw [toList_madeCells_one]
    simp [named, HN.out, List.map_const']
  have HNM := hid hnm
  rw [← gW1]
  clear gW1 hnm
  go_loopw [19] (fun k wr => ∃ i : Nat, k = .int .i64 i ∧ i ≤ kn ∧ Hid (wr.ownsRow 0 4 1 (.slice (some ⟨w.heap.size, 0, none⟩) n n) n (named e.es (ks.take i))) ∧ Below w.heap.size w wr) (fun k _ => kn - (intOf k).toNat)
  case atStart => exact ⟨0, rfl, Nat.zero_le _, HNM.out, hb1⟩
  case round =>
    obtain ⟨i, rfl, hi, HR, hbr⟩ := hrel
    by_cases hlt : i < kn
    · have hik : i < ks.length := by have := HKN.out; omega
      obtain ⟨b, o, rfl, hbl, hcell⟩ := HKS.out.below hbr (by rw [← HZN.out]; omega)
      have hc := hcell i (by rw [← HZN.out]; omega)
      rw [List.getElem_append_left (by simp; omega), List.getElem_map] at hc
      have hiz : (i : Int) < (zn : Int) := by omega
      obtain ⟨k, hk⟩ : ∃ k, k = ks[i] := ⟨_, rfl⟩
      rw [← hk] at hc
      have HKI := hid hk
      clear hcell hk
      have kf := hid (find_any ae n c (secAt e.es) (valAt e.es) k wr (HS.out.below hbr) (by rw [HN.out]; exact rise_sec HE.out.rise) (by omega))
      go_wp2_with fail
      refine kf.out.mono ?_
      rintro r w2 ⟨ap, f, rfl, h1, h2, h3, h4, hb2⟩
      obtain ⟨j, hj, hjk⟩ := HIN.out k (by rw [HKI.out]; exact List.getElem_mem hik)
      have hjs : secAt e.es j = k := by rw [secAt_eq _ _ hj, hjk]
      have hnn := HN.out
      have hja : ap ≤ j := by
        rcases Nat.lt_or_ge j ap with h | h
        · have := h2 j h; omega
        · exact h
      have hap : ap = j := by
        rcases Nat.lt_or_ge ap j with h | h
        · have h5 := h3 ap (Nat.le_refl _) (by omega)
          have h6 := rise_sec HE.out.rise ap j h hj
          omega
        · omega
      subst hap
      obtain rfl : f = true := h4.2 ⟨by omega, hjs⟩
      have hbw : Below w.heap.size w w2 := hbr.trans (hb2.mono hbr.size)
      have hr2 := own_below HR.out hb2
      have hnk : ¬ (e.es[ap].sec ∈ ks.take i) := by
        rw [hjk, HKI.out]
        intro hx
        obtain ⟨m, hm, hmk⟩ := List.getElem_of_mem hx
        have hm' : m < i := by simp at hm; omega
        rw [List.getElem_take] at hmk
        have := (List.getElem_inj HND.out).1 hmk
        omega
      have cn : w2.cell? ⟨w.heap.size, ap, none⟩ = some (.bool false) := by
        rw [hr2.cellAt _ (by omega), named_at _ _ _ hj]
        simp [hnk]
      have fn := hr2.frozenAt ap
      have hst := hr2.stored ap (.bool true)
      rw [named_set HE.out.rise _ ap hj k hjk, HKI.out, ← List.take_succ_eq_append_getElem hik] at hst
      have HST := hid hst
      have hapn : ap < n := by omega
      have hsz := hbw.size
      clear hst hr2 h2 h3 h4 hc hjs hja hjk hnk hj hnn kf
      go_wp2_with fail
      go_roundw
      case rel => exact ⟨i + 1, by go_num, by omega, HST.out.1, hbw.grown HST.out.2 hbw.size (by intro q hq; simp at hq; omega)⟩
      case measure => simp [intOf]; omega
    · obtain rfl : i = kn := by omega
      have hik : i = ks.length := HKN.out
      obtain ⟨b, o, rfl, hbl, hcell⟩ := HKS.out.below hbr (by rw [← HZN.out]; omega)
      have hc := hcell i (by rw [← HZN.out]; omega)
      have hzz : (ks.map (fun (x : Nat) => (x : Int)) ++ z :: rest)[i]'(by rw [← HZN.out]; omega) = z := by
        rw [List.getElem_append_right (by simp; omega)]
        simp [hik]
      rw [hzz] at hc
      have hiz : (i : Int) < (zn : Int) := by omega
      clear hcell hzz hik
      have kf := hid (find_any ae n c (secAt e.es) (valAt e.es) z wr (HS.out.below hbr) (by rw [HN.out]; exact rise_sec HE.out.rise) (by omega))
      go_wp2_with fail
      refine kf.out.mono ?_
      rintro r w2 ⟨ap, f, rfl, h1, h2, h3, h4, hb2⟩
      have hbw : Below w.heap.size w w2 := hbr.trans (hb2.mono hbr.size)
      have hnn := HN.out
      cases f with
      | false =>
        clear h2 h3 h4 hc kf hnn
        go_wp2_with fail
        go_ret2
        exact ⟨rfl, hbw⟩
      | true =>
        obtain ⟨h5, h6⟩ := h4.1 rfl
        have hae : ap < e.es.length := by omega
        rw [secAt_eq _ _ hae] at h6
        have hmem : e.es[ap].sec ∈ ks := by
          rcases HBAD.out with hb | ⟨k, hk, hkz'⟩
          · exact absurd h6 (hb ap hae)
          · have : e.es[ap].sec = k := by omega
            rw [this]; exact hk
        have hr2 := own_below HR.out hb2
        have cn : w2.cell? ⟨w.heap.size, ap, none⟩ = some (.bool true) := by
          rw [hr2.cellAt _ (by omega), named_at _ _ _ hae, List.take_of_length_le (by have := HKN.out; omega)]
          simp [hmem]
        clear h2 h3 h4 hc kf hnn h6 hmem hr2 hae
        go_wp2_with fail
        go_ret2
        exact ⟨rfl, hbw⟩

/-- The next epoch's value, or none. -/
def Next (d : Dk) (k : Nat) (V : Value) : Prop := (∃ h : k < d.eps.length, V = d.eps[k].v) ∨ (k = d.eps.length ∧ V = .slice none 0 0)

set_option maxHeartbeats 1000000 in
set_option maxRecDepth 20000 in
theorem crash_ch (d : Dk) (p k : Nat) (t : Int) (V : Value) (kk : Option Addr) (kn kc : Nat) (w : World) (hok : d.ok w p) (hV : Next d k V) (b : Bool) (r0 : Int)
    (hr : (b = false ∧ r0 = 20) ∨ (b = true ∧ t < 0 ∧ r0 = 1)) (hch : Calls Try.prog 43 #[V, .slice kk kn kc] w fun r w' => (∃ v, r = .returned (.tuple #[v, .bool b])) ∧ Below w.heap.size w w') :
    Calls Try.prog 19 #[.pointer (some ⟨p, 0, none⟩), .int .i64 k, .slice kk kn kc, .int .i64 t] w fun r w' => r = .returned (.int .i64 r0) ∧ Below w.heap.size w w' := by
  obtain ⟨ae, ce, hve, hce1, hce2⟩ := own_shape hok.row
  have k1 := hid (dusable d p w hok)
  obtain ⟨c0, c1, c2, c3⟩ := hok.cell
  rw [hve] at c2
  have KC := hid hch
  have b1 : (0 : Int) ≤ (k : Int) := by omega
  rcases hV with ⟨hlt, hV⟩ | ⟨hke, hV⟩
  · obtain ⟨ae2, ce2, hev, hev1, hev2⟩ := own_shape (hok.eps d.eps[k] (List.getElem_mem hlt)).row
    obtain ⟨ge, rfl⟩ : ∃ ge, ae = some ⟨ge, 0, none⟩ := by
      rcases hok.row.2 with ⟨_, h⟩ | ⟨g, c, cur, h, _⟩
      · omega
      · rw [hve] at h; injection h with h1 h2 h3; exact ⟨g, h1⟩
    have hc : w.cell? ⟨ge, k, none⟩ = some V := by
      have hrow := hok.row
      rw [hve] at hrow
      rw [hrow.cellAt _ (by omega), hV]
      simp [hlt]
    obtain ⟨m2, gm2⟩ : ∃ m2, m2 = d.eps[k].es.length := ⟨_, rfl⟩
    rw [hev, ← gm2] at hV
    obtain ⟨m, hm⟩ : ∃ m, m = d.eps.length := ⟨_, rfl⟩
    rw [← hm] at c2 hlt hce1
    subst hV
    clear hm gm2 hev hok hve c0 c1 c3 hch hev1 hev2
    rcases hr with ⟨rfl, rfl⟩ | ⟨rfl, ht, rfl⟩
    · go_enter Try.func19, Try.ntmps19
      go_wp2_with fail
      refine k1.out.mono ?_
      rintro r w1 ⟨rfl, rfl⟩
      go_wp2_with fail
      refine KC.out.mono ?_
      rintro r w2 ⟨⟨v2, rfl⟩, hb⟩
      go_wp2_with fail
      go_ret
      exact ⟨rfl, hb⟩
    · go_enter Try.func19, Try.ntmps19
      go_wp2_with fail
      refine k1.out.mono ?_
      rintro r w1 ⟨rfl, rfl⟩
      go_wp2_with fail
      refine KC.out.mono ?_
      rintro r w2 ⟨⟨v2, rfl⟩, hb⟩
      go_wp2_with fail
      go_ret
      exact ⟨rfl, hb⟩
  · subst hV
    obtain ⟨m, hm⟩ : ∃ m, m = d.eps.length := ⟨_, rfl⟩
    rw [← hm] at c2 hke hce1
    subst hke
    clear hm hok hve c0 c1 c3 hch
    rcases hr with ⟨rfl, rfl⟩ | ⟨rfl, ht, rfl⟩
    · go_enter Try.func19, Try.ntmps19
      go_wp2_with fail
      refine k1.out.mono ?_
      rintro r w1 ⟨rfl, rfl⟩
      go_wp2_with fail
      refine KC.out.mono ?_
      rintro r w2 ⟨⟨v2, rfl⟩, hb⟩
      go_wp2_with fail
      go_ret
      exact ⟨rfl, hb⟩
    · go_enter Try.func19, Try.ntmps19
      go_wp2_with fail
      refine k1.out.mono ?_
      rintro r w1 ⟨rfl, rfl⟩
      go_wp2_with fail
      refine KC.out.mono ?_
      rintro r w2 ⟨⟨v2, rfl⟩, hb⟩
      go_wp2_with fail
      go_ret
      exact ⟨rfl, hb⟩

end Go.Proofs.Ytcophmafkpbdaaa
