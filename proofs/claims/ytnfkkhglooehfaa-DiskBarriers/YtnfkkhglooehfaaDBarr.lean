/- The road of DiskBarriers: it returns true for every list of calls, every int and every mask, and leaves what was there. -/
import Derived.Test.YtnfkkhglooehfaaDBarrB
namespace Go.Proofs.Ytnfkkhglooehfaa
open Go.RowKit
set_option linter.unusedVariables false

set_option maxHeartbeats 4000000 in
set_option maxRecDepth 20000 in
theorem barr_road (al : Option Addr) (ll cl : Nat) (eps mask : Int) (w : World) (hl : Dos w al ll) (hll : ll ≤ 1800000000000) (hlc : ll ≤ cl) (hcl : cl ≤ 9223372036854775807) (hm0 : 0 ≤ mask) (hm1 : mask < 18446744073709551616) :
    Calls Try.prog 5 #[.slice al ll cl, .int .i64 eps, .int .u64 mask] w fun e w' => e = .returned (.bool true) ∧ Below w.heap.size w w' := by
  have kP := hid (played_any al ll cl w hl hll hlc hcl)
  clear hl
  go_enter Try.func5, Try.ntmps5
  go_wp2_with fail
  refine kP.out.mono ?_
  rintro r w1 ⟨p, gn, d, vst, fnow, sts, opn, X, rfl, hmem, habs, hel⟩
  obtain ⟨gs, cs, hvst, hcs1, hcs2, _, _, _, _, _⟩ := states_of hmem habs
  subst hvst
  obtain ⟨L, gL⟩ : ∃ L, L = d.eps.length := ⟨_, rfl⟩
  have hmem' : Mem w w1 p gn d (.slice (some ⟨gs, 0, none⟩) (L + 1) cs) (L + 1) fnow sts X := by
    have e : sts.length = L + 1 := by rw [habs.len, gL]
    rw [e, ← gL] at hmem
    exact hmem
  have HMEM := hid hmem'
  have HABS := hid habs
  rw [← gL] at hcs1 hel ⊢
  have GL := hid gL
  have hL5 : L ≤ 5000000000000 := by omega
  have kE := hid (fun wx (hb : Below w1.heap.size w1 wx) => epochs_any d p wx (hmem'.ok.frame fun k hk => hb.block k (hmem'.ok.lt k hk)) (by rw [← gL]; omega))
  rw [← gL] at kE
  obtain ⟨k, gk⟩ : ∃ k : Nat, (k : Int) = (eps % 18446744073709551616) % ((L + 1 : Nat) : Int) := ⟨((eps % 18446744073709551616) % ((L + 1 : Nat) : Int)).toNat, by have := Int.emod_nonneg (eps % 18446744073709551616) (show ((L + 1 : Nat) : Int) ≠ 0 by omega); omega⟩
  have hkL : k ≤ L := by have := Int.emod_lt_of_pos (eps % 18446744073709551616) (show (0 : Int) < ((L + 1 : Nat) : Int) by omega); omega
  have hw : wrap64 ((IntKind.u64.wrap eps).tmod ((L : Int) + 1)) = (k : Int) := by
    rw [IntKind.wrap_u64, Int.tmod_eq_emod_of_nonneg (by omega)]
    have e : (eps % 18446744073709551616) % ((L : Int) + 1) = (k : Int) := by rw [gk]; simp
    rw [e]; unfold wrap64; omega
  have HW := hid hw
  clear hmem hmem' habs gL gk hw
  have i1 : wrap64 (((L + 1 : Nat) : Int) - 1) = (L : Int) := by unfold wrap64; omega
  have i2 : IntKind.u64.wrap ((L + 1 : Nat) : Int) = (L : Int) + 1 := by rw [IntKind.wrap_u64]; omega
  have i2' : IntKind.u64.wrap ((L : Int) + 1) = (L : Int) + 1 := by rw [IntKind.wrap_u64]; omega
  have i3 : ((L : Int) + 1) ≠ 0 := by omega
  go_wp2_with fail
  refine (kE.out w1 (Below.refl _ _)).mono ?_
  rintro r w2 ⟨E, rfl, hpart⟩
  have hb2 := hpart.below
  clear hpart
  rcases Nat.lt_or_ge k L with hk | hk
  · have hlt : wrap64 ((IntKind.u64.wrap eps).tmod ((L : Int) + 1)) < (L : Int) := by rw [HW.out]; omega
    go_wp2_with fail
    rw [HW.out]
    refine (kE.out w2 hb2).mono ?_
    rintro r w3 ⟨E', rfl, hpart⟩
    obtain ⟨M, k0, c0, k1, c1, f0, f1, ge, m, ce, es, e, hP⟩ := prepB HMEM.out HABS.out GL.out hk hb2 (by rw [← GL.out]; exact hpart)
    have HPR := hid hP
    have hhead := hP.head
    have j1 : (0 : Int) ≤ (k : Int) := by omega
    have j2 : (k : Int) < (L : Int) := by omega
    clear hP hpart hlt
    go_wp2_with fail
    have hm4 := HPR.out.m4
    go_loopw [9, 49] (fun v9 s wr => ∃ j : Nat, j ≤ m ∧ s = .int .i64 j ∧ Hid (Kp w3 wr v9 (kept mask es j))) (fun _ s _ => m - (intOf s).toNat)
    case atStart => exact ⟨0, by omega, rfl, hid ⟨World.ownsRow_nil _ _ _ _, fun _ => rfl, fun x hx => by simp [vb, Value.ownBlock] at hx, Below.refl _ _⟩⟩
    case round =>
      obtain ⟨j, hjm, rfl, HT⟩ := hrel
      by_cases hj : j < m
      · obtain ⟨i3', hi3, hz0, hz1, hz2⟩ := info_parts Try.tinfo3
        have hjl : j < es.length := by rw [HPR.out.len]; exact hj
        have hs4 : es[j].sec < 4 := HPR.out.s4 _ (List.getElem_mem hjl)
        have hrow := own_below HPR.out.row HT.out.below
        have hsc := sentCells_at es j hjl
        have q0 : wr.cell? ⟨ge, j * 2, none⟩ = some (.int .i64 (es[j].sec : Int)) := by rw [hrow.cellAt _ (by omega), hsc.1]
        have q1 : wr.cell? ⟨ge, j * 2 + 1, none⟩ = some (.slice (some ⟨es[j].blk, 0, none⟩) 128 es[j].cap) := by rw [hrow.cellAt _ (by omega), hsc.2]; rfl
        have hch : chosen mask es[j] = (bits BinOp.and IntKind.u64 (mask / 2 ^ es[j].sec) 1 == 1) := rfl
        have hky := kept_yes mask es j hjl
        have hkn := kept_no mask es j hjl
        rw [hch] at hky hkn
        obtain ⟨S, gS⟩ : ∃ S : Nat, S = es[j].sec := ⟨_, rfl⟩
        obtain ⟨av, gav⟩ : ∃ av, av = es[j].blk := ⟨_, rfl⟩
        obtain ⟨cv, gcv⟩ : ∃ cv, cv = es[j].cap := ⟨_, rfl⟩
        rw [← gS] at hs4 q0 hky hkn
        rw [← gav, ← gcv] at q1
        have z3 := HT.out.below.size
        have hm0' : 0 ≤ mask := hm0
        have i5 : (0 : Int) ≤ (S : Int) := by omega
        have HKY := hid hky
        have HKN := hid hkn
        clear gS gav gcv hrow hsc hch hky hkn
        by_cases hbit : (bits BinOp.and IntKind.u64 (mask / 2 ^ S) 1 == 1) = true
        · have hke := HKY.out hbit
          obtain ⟨ks, gks⟩ : ∃ ks, ks = kept mask es j := ⟨_, rfl⟩
          rw [← gks] at HT hke
          have HKE := hid hke
          clear hke gks HKY HKN
          rcases Nat.eq_zero_or_pos ks.length with hn0 | hn0
          · have hks0 : ks = [] := List.eq_nil_of_length_eq_zero hn0
            have hv9 := HT.out.nil hks0
            subst hv9
            subst hks0
            clear hn0
            go_wp2_with (at_builtin; go_must (refine wpList_append_own_none rfl (.tmp 61) (.tmp 62) 36 rfl 0 3 i3' 1 Try.underlying36 hi3 (.slice (some ⟨wr.heap.size + 1, 0, none⟩) 1 1) 1 [.int .i64 (S : Int)] rfl ?_ rfl ?_))
            case refine_1 => exact lit_own wr _ S
            go_roundw
            case rel =>
              refine ⟨j + 1, by omega, by go_num, ?_⟩
              rw [HKE.out]
              exact hid ⟨lit_own wr _ S, fun h => by simp at h, fun x hx => by simp [vb, Value.ownBlock] at hx; omega, HT.out.below.trans (((Below.refl _ _).alloc z3 _).alloc (by simp; omega) _)⟩
            case measure => simp [intOf]; omega
          · obtain ⟨kk, kc, hv9, hkc1, hkc2, hints, hg9⟩ := ints_of HT.out.own
            obtain ⟨g9, rfl⟩ := hg9 hn0
            subst hv9
            have hnew := HT.out.new g9 (by simp [vb, Value.ownBlock])
            have hnl : ks.length ≤ 9223372036854775807 := by omega
            have hkl4 : ks.length ≤ 4 := by
              have h1 := congrArg List.length HKE.out
              have h2 : (kept mask es (j + 1)).length ≤ es.length := by
                unfold kept
                rw [List.length_reverse, List.length_map]
                exact Nat.le_trans (List.length_filter_le _ _) (by simp; omega)
              rw [h1, HPR.out.len] at h2
              simp at h2
              omega
            have hcells : ∀ q u, (ks.map fun (k : Nat) => Value.int .i64 (k : Int))[q]? = some u → ((wr.alloc (.cells #[.int .i64 (S : Int), .slice (some ⟨av, 0, none⟩) 128 cv] 57)).alloc (.cells #[.int .i64 (S : Int)] 3)).cell? ((⟨g9, 0, none⟩ : Addr).add q) = some u := by
              intro q u hu
              have ho := (HT.out.own.alloc (.cells #[.int .i64 (S : Int), .slice (some ⟨av, 0, none⟩) 128 cv] 57)).alloc (.cells #[.int .i64 (S : Int)] 3)
              exact ho.cells rfl q u hu
            have HCE := hid hcells
            have h1c : ∀ u ∈ (ks.map fun (k : Nat) => Value.int .i64 (k : Int)), u.oneCell' = true := by
              intro u hu
              obtain ⟨x, _, rfl⟩ := List.mem_map.1 hu
              rfl
            have H1C := hid h1c
            obtain ⟨kn, gkn⟩ : ∃ kn, kn = ks.length := ⟨_, rfl⟩
            obtain ⟨KV, gKV⟩ : ∃ KV, KV = (ks.map fun (k : Nat) => Value.int .i64 (k : Int)) := ⟨_, rfl⟩
            have hKVl : KV.length = kn * 1 := by rw [gKV, gkn]; simp
            rw [← gKV] at HCE H1C
            rw [← gkn] at hkl4 hkc1 ⊢
            have HKVL := hid hKVl
            have GKV := hid gKV
            have GKN := hid gkn
            clear hints hcells h1c hn0 hKVl gKV gkn hnl
            go_wp2_with (at_builtin; go_must (refine wpList_append_where rfl (.tmp 61) (.tmp 62) 36 rfl 3 i3' (.int .i64 0) 1 8 Try.underlying36 hi3 hz0 hz1 hz2 rfl (by decide) (.slice (some ⟨wr.heap.size + 1, 0, none⟩) 1 1) 1 [.int .i64 (S : Int)] rfl (lit_own wr _ S) ⟨g9, 0, none⟩ kn kc KV rfl HKVL.out HCE.out H1C.out (by unfold maxLen; omega) (by omega) ?_))
            intro v9' wB hown hUB hnn hwh
            have hbA : Below w3.heap.size w3 ((wr.alloc (.cells #[.int .i64 (S : Int), .slice (some ⟨av, 0, none⟩) 128 cv] 57)).alloc (.cells #[.int .i64 (S : Int)] 3)) := HT.out.below.trans (((Below.refl _ _).alloc z3 _).alloc (by simp; omega) _)
            have hbB : Below w3.heap.size w3 wB := hbA.trans (hUB.below hbA.size (fun x hx => by simp [Value.ownBlock] at hx; omega))
            have HKP : Hid (Kp w3 wB v9' (S :: ks)) := by
              refine hid ⟨?_, fun h => by simp at h, fun x hx => ?_, hbB⟩
              · have h1 := hown.out
                rw [GKV.out, GKN.out, Nat.add_comm] at h1
                simpa using h1
              · rcases hwh.out with h | h
                · have hx' : v9'.ownBlock = some x := by simpa [vb] using hx
                  rw [h] at hx'
                  simp [Value.ownBlock] at hx'
                  omega
                · have := h x (by simpa [vb] using hx); omega
            clear hown hUB hnn hwh hbA hbB
            go_wp2_with fail
            go_roundw
            case rel =>
              refine ⟨j + 1, by omega, by go_num, ?_⟩
              rw [HKE.out]
              exact HKP
            case measure => simp [intOf]; omega
        · have hbit' : (bits BinOp.and IntKind.u64 (mask / 2 ^ S) 1 == 1) = false := by simpa using hbit
          have hke := HKN.out hbit'
          have HKE := hid hke
          clear hke HKY HKN hbit
          go_wp2_with fail
          go_roundw
          case rel =>
            refine ⟨j + 1, by omega, by go_num, ?_⟩
            rw [HKE.out]
            exact hid ⟨HT.out.own.alloc _, HT.out.nil, HT.out.new, HT.out.below.trans ((Below.refl _ _).alloc z3 _)⟩
          case measure => simp [intOf]; omega
      · obtain rfl : j = m := by omega
        have hkdef : kept mask es j = ((es.filter (chosen mask)).map Snt.sec).reverse := by unfold kept; rw [List.take_of_length_le (by rw [HPR.out.len]; exact Nat.le_refl _)]
        obtain ⟨ks, gks⟩ : ∃ ks, ks = kept mask es j := ⟨_, rfl⟩
        rw [← gks] at HT hkdef
        have hme : e ∈ d.eps := List.mem_of_getElem? HPR.out.e0
        have hrise := (HPR.out.ok.eps e hme).rise
        have hsub : ∀ i ∈ ks, i ∈ es.map Snt.sec := by
          intro i hi
          rw [hkdef, List.mem_reverse] at hi
          obtain ⟨x, hx, rfl⟩ := List.mem_map.1 hi
          exact List.mem_map.2 ⟨x, (List.mem_filter.1 hx).1, rfl⟩
        have hnd : ks.Nodup := by
          rw [hkdef]
          refine List.pairwise_reverse.2 (List.Pairwise.imp (fun h => Ne.symm h) ?_)
          have h1 : (es.map Snt.sec).Nodup := by rw [HPR.out.secs]; exact hrise.1.imp (fun h => Nat.ne_of_lt h)
          exact h1.sublist ((List.filter_sublist (p := chosen mask) (l := es)).map _)
        have hin : ∀ x ∈ ks, ∃ q, ∃ h : q < e.es.length, e.es[q].sec = x := by
          intro x hx
          have h1 := hsub x hx
          rw [HPR.out.secs] at h1
          obtain ⟨y, hy, rfl⟩ := List.mem_map.1 h1
          obtain ⟨q, hq, rfl⟩ := List.getElem_of_mem hy
          exact ⟨q, hq, rfl⟩
        have hks4 : ∀ x ∈ ks, x < 4 := fun x hx => by
          obtain ⟨y, hy, rfl⟩ := List.mem_map.1 (hsub x hx)
          exact HPR.out.s4 y hy
        obtain ⟨kk, kc, hv9, hkc1, hkc2, hints, hg9⟩ := ints_of HT.out.own
        subst hv9
        have hok4 : d.ok wr p := HPR.out.ok.frame fun x hx => HT.out.below.block x (HPR.out.ok.lt x hx)
        have hlt0 : k < d.eps.length := by rw [← GL.out]; exact hk
        have he0 : e = d.eps[k] := by
          have := HPR.out.e0
          rw [List.getElem?_eq_getElem hlt0] at this
          injection this with this
          exact this.symm
        have heq := barr_end HPR.out HABS.out.n4 ks hsub
        have kCr := hid (crash_keep d p k 128 e kk kc ks wr hok4 hlt0 he0 (by rw [← GL.out]; exact hL5) (by decide) hints hkc1 hkc2 hnd hin)
        obtain ⟨DD, gD⟩ : ∃ DD, DD = landL (landAll d.dur (d.ab.take k)) (tornE (e.es.filter (fun s => decide (s.sec ∈ ks))) 128) := ⟨_, rfl⟩
        rw [← gD] at kCr heq
        have HEQ := hid heq
        have HK4 := hid hks4
        have HG9 := hid hg9
        have hb3 := hid HPR.out.below
        clear gD heq hin hnd hrise hme hsub hkdef gks hints hok4 hlt0 he0 hks4 hg9 hhead
        go_wp2_with fail
        refine kCr.out.mono ?_
        rintro r w5 ⟨rfl, hst⟩
        have hn4 := HABS.out.n4
        obtain ⟨dF, gF⟩ : ∃ dF : Dk, dF = { d with dur := DD, wr := DD, ve := .slice none 0 0, eps := [], opn := false } := ⟨_, rfl⟩
        have hokF : dF.ok w5 p := by rw [gF]; exact hst.1
        have hE0 : dF.eps.length = 0 := by rw [gF]; rfl
        have hFn : dF.n = 4 := by rw [gF]; exact hn4
        have hFd : dF.dur = DD := by rw [gF]
        have kE2 := hid (epochs_any dF p w5 hokF (by rw [hE0]; exact Nat.zero_le _))
        rw [hE0] at kE2
        have hpost := hid (fun w6 (hb : Below w5.heap.size w5 w6) => postB HPR.out HT.out hst gF hb)
        have HFN := hid hFn
        have HFD := hid hFd
        clear hst gF hokF hE0 hFn hFd hn4 kCr
        go_wp2_with fail
        refine kE2.out.mono ?_
        rintro r w6 ⟨E6, rfl, hp6⟩
        have HPB := hid (hpost.out w6 hp6.below)
        have hrow0 := HPB.out.two.row0
        obtain ⟨hkl1, hkl2, hk0p⟩ := k_facts k L hk
        have hkn0 := HPR.out.k0n
        clear hp6 hpost kE2
        go_wp2_with fail
        go_loopw [82] (fun s wr => ∃ q : Nat, q ≤ ks.length ∧ s = .int .i64 q ∧ Hid (Tw w6 wr M k0 c0 (mix f0 f1 (ks.take q)))) (fun s _ => ks.length - (intOf s).toNat)
        case atStart => exact ⟨0, Nat.zero_le _, rfl, hid ⟨by simpa [mix_nil] using HPB.out.two.p0, Upd.refl _ _⟩⟩
        case round =>
          obtain ⟨q, hqm, rfl, HW2⟩ := hrel
          by_cases hq : q < ks.length
          · obtain ⟨g9, rfl⟩ := HG9.out (Nat.lt_of_le_of_lt (Nat.zero_le _) hq)
            obtain ⟨S, aa, cc, uo, hS4, q0, q1, q2, q3, q4, hnx⟩ := HPB.out.round q HW2.out hq HK4.out
            have HNX := hid hnx
            have i5 : (0 : Int) ≤ (S : Int) := Int.natCast_nonneg S
            have i6 : (S : Int) < 4 := by exact_mod_cast hS4
            clear hnx
            go_wp2_with fail
            go_roundw
            case rel => exact ⟨q + 1, hq, by go_num, HNX⟩
            case measure => simp [intOf]; omega
          · obtain rfl : q = ks.length := Nat.le_antisymm hqm (Nat.le_of_not_lt hq)
            have hT2 := HW2.out
            rw [List.take_length] at hT2
            have HF := hid (hT2.fin HPB.out.ok HFN.out HFD.out HPB.out.k0d HEQ.out HPB.out.below hkn0)
            clear hT2 HW2
            go_wp2_with fail
            refine HF.out.image.mono ?_
            rintro r w7 ⟨gi, rfl, hpi, hb7⟩
            have HF7 := hid (HF.out.later hb7)
            have HPI := hid hpi
            clear hpi hb7
            go_wp2_with fail
            refine (same_yes _ _ 4 _ _ [] [] _ HPI.out HF7.out.pic (by omega) HF7.out.eq).mono ?_
            rintro r w8 ⟨rfl, rfl⟩
            go_wp2_with fail
            go_ret
            exact ⟨rfl, HF7.out.below⟩
  · obtain rfl : k = L := by omega
    have hlt : ¬ wrap64 ((IntKind.u64.wrap eps).tmod ((k : Int) + 1)) < (k : Int) := by rw [HW.out]; omega
    obtain ⟨k0, c0, F, hok2, hlast⟩ := lastB HMEM.out HABS.out GL.out hb2
    have kCr := hid (crash_nil d p k 128 w2 hok2 (by rw [← GL.out]; exact Nat.le_refl _) (by rw [← GL.out]; omega))
    obtain ⟨DD, gD⟩ : ∃ DD, DD = landAll d.dur (d.ab.take k) := ⟨_, rfl⟩
    rw [← gD] at kCr hlast
    have HLA := hid hlast
    clear hlast gD hok2
    go_wp2_with fail
    rw [HW.out]
    refine kCr.out.mono ?_
    rintro r w5 ⟨rfl, hst⟩
    obtain ⟨dF, gF⟩ : ∃ dF : Dk, dF = { d with dur := DD, wr := DD, ve := .slice none 0 0, eps := [], opn := false } := ⟨_, rfl⟩
    have hokF : dF.ok w5 p := by rw [gF]; exact hst.1
    have hE0 : dF.eps.length = 0 := by rw [gF]; rfl
    have kE2 := hid (epochs_any dF p w5 hokF (by rw [hE0]; exact Nat.zero_le _))
    rw [hE0] at kE2
    have hpost := hid (fun w6 (hb : Below w5.heap.size w5 w6) => HLA.out w5 w6 dF gF hst hb)
    have j1 : (0 : Int) ≤ (k : Int) := by omega
    have j2 : (k : Int) < (k : Int) + 1 := by omega
    clear hst gF hokF hE0 kCr HLA hlt
    go_wp2_with fail
    refine kE2.out.mono ?_
    rintro r w6 ⟨E6, rfl, hp6⟩
    obtain ⟨hc6, hF⟩ := hpost.out w6 hp6.below
    have HF := hid hF
    clear hF hp6 hpost kE2
    go_wp2_with fail
    go_loopw [82] (fun s wr => s = .int .i64 0 ∧ wr = w6) (fun s _ => 0)
    case atStart => exact ⟨rfl, rfl⟩
    case round =>
      obtain ⟨rfl, rfl⟩ := hrel
      go_wp2_with fail
      refine HF.out.image.mono ?_
      rintro r w7 ⟨gi, rfl, hpi, hb7⟩
      have HF7 := hid (HF.out.later hb7)
      have HPI := hid hpi
      clear hpi hb7
      go_wp2_with fail
      refine (same_yes _ _ 4 _ _ [] [] _ HPI.out HF7.out.pic (by omega) HF7.out.eq).mono ?_
      rintro r w8 ⟨rfl, rfl⟩
      go_wp2_with fail
      go_ret
      exact ⟨rfl, HF7.out.below⟩

end Go.Proofs.Ytnfkkhglooehfaa
