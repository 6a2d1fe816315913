/- What disk.choose does with sectors that are all there, none twice: the writes of these, in their order. -/
import Derived.Test.YtcophmafkpbdaaaDCrash0
namespace Go.Proofs.Ytcophmafkpbdaaa
open Go.RowKit
set_option linter.unusedVariables false

/-- A row of ints that is read. -/
def Ints (w : World) (a : Option Addr) (ks : List Nat) : Prop := 0 < ks.length → ∃ b o, a = some ⟨b, o, none⟩ ∧ b < w.heap.size ∧ ∀ j (h : j < ks.length), w.cell? ⟨b, o + j, none⟩ = some (.int .i64 ks[j])

theorem Ints.below {w w' : World} {a : Option Addr} {ks : List Nat} (h : Ints w a ks) (hb : Below w.heap.size w w') : Ints w' a ks := fun h0 => by
  obtain ⟨b, o, e, hlt, hc⟩ := h h0
  exact ⟨b, o, e, Nat.lt_of_lt_of_le hlt hb.size, fun j hj => (hb.cell (p := ⟨b, o + j, none⟩) hlt).trans (hc j hj)⟩

def named (es : List Snt) (ks : List Nat) : List Value := es.map fun s => .bool (decide (s.sec ∈ ks))

theorem named_at (es : List Snt) (ks : List Nat) (j : Nat) (h : j < es.length) : (named es ks)[j]? = some (.bool (decide (es[j].sec ∈ ks))) := by simp [named, h]

theorem named_set {es : List Snt} {n : Nat} (hr : Rise n (es.map Snt.sec)) (ks : List Nat) (j : Nat) (h : j < es.length) (k : Nat) (hk : es[j].sec = k) : (named es ks).set j (.bool true) = named es (ks ++ [k]) := by
  apply List.ext_getElem?
  intro i
  by_cases hi : i < es.length
  · rw [List.getElem?_set]
    by_cases hji : j = i
    · subst hji
      rw [if_pos rfl, if_pos (by simp [named, hi]), named_at _ _ _ hi]
      simp [hk]
    · rw [if_neg hji, named_at _ _ _ hi, named_at _ _ _ hi]
      have hne : es[i].sec ≠ k := by
        intro e0
        have hs := rise_sec hr
        rcases Nat.lt_or_gt_of_ne hji with h1 | h1
        · have := hs j i h1 hi
          rw [secAt_eq _ _ h, secAt_eq _ _ hi] at this
          omega
        · have := hs i j h1 h
          rw [secAt_eq _ _ h, secAt_eq _ _ hi] at this
          omega
      simp [hne]
  · rw [List.getElem?_eq_none (by simp [named]; omega), List.getElem?_eq_none (by simp [named]; omega)]

theorem sentCells_snoc (A : List Snt) (s : Snt) : sentCells (A ++ [s]) = sentCells A ++ [.int .i64 s.sec, s.val] := by simp [sentCells]

set_option maxHeartbeats 1000000 in
set_option maxRecDepth 20000 in
theorem choose_any (e : Ep) (N : Nat) (w : World) (he : e.ok w N) (hN : N ≤ 2048) (ae : Option Addr) (c : Nat) (hv : e.v = .slice ae e.es.length c) (hc1 : e.es.length ≤ c) (hc2 : c ≤ 9223372036854775807)
    (kk : Option Addr) (kc : Nat) (ks : List Nat) (hks : Ints w kk ks) (hkc : ks.length ≤ kc) (hkc2 : kc ≤ 9223372036854775807) (hnd : ks.Nodup) (hin : ∀ k ∈ ks, ∃ j, ∃ h : j < e.es.length, e.es[j].sec = k) :
    Calls Try.prog 43 #[.slice ae e.es.length c, .slice kk ks.length kc] w fun r w' => ∃ v, r = .returned (.tuple #[v, .bool true]) ∧ w'.ownsRow 0 57 2 v (e.es.filter (fun s => decide (s.sec ∈ ks))).length (sentCells (e.es.filter (fun s => decide (s.sec ∈ ks)))) ∧ (∀ x, v.ownBlock = some x → w.heap.size ≤ x) ∧ Below w.heap.size w w' := by
  obtain ⟨i0, hi0, hz0, hz1, hz2⟩ := info_parts Try.info4
  obtain ⟨j0, hj0, hy0, hy1, hy2⟩ := info_parts Try.infoSE
  have hel := rise_len he.rise
  have hrow := he.row
  rw [hv] at hrow
  have HS := hid (sents_of hrow rfl)
  have HE := hid he
  have HKS := hid hks
  have HND := hid hnd
  have HIN := hid hin
  clear hrow he hv hks hnd hin
  have hmx : e.es.length ≤ maxLen := by unfold maxLen; omega
  have hby : i0.bytes * e.es.length ≤ 281474976710656 := by rw [hz2]; omega
  obtain ⟨n, hn⟩ : ∃ n, n = e.es.length := ⟨_, rfl⟩
  obtain ⟨kn, hkn⟩ : ∃ kn, kn = ks.length := ⟨_, rfl⟩
  rw [← hn] at hel hc1 hmx hby HS ⊢
  rw [← hkn] at hkc ⊢
  have HN := hid hn
  have HKN := hid hkn
  clear hn hkn
  go_enter Try.func43, Try.ntmps43
  go_wp2_with (at_make; go_must (refine wpList_make_lc _ rfl _ _ 92 rfl 4 i0 (.bool false) 1 Try.underlying92 hi0 hz0 hz1 _ _ _ _ n n rfl rfl rfl rfl (Nat.le_refl _) hby hmx ?_))
  obtain ⟨W1, gW1⟩ : ∃ W1, W1 = w.alloc (.cells (madeCells #[Value.bool false] n) 4) := ⟨_, rfl⟩
  have hb1 : Below w.heap.size w W1 := by rw [gW1]; exact (Below.refl _ _).alloc (Nat.le_refl _) _
  have hs1 : W1.heap.size = w.heap.size + 1 := by rw [gW1]; simp
  have hnm : W1.ownsRow 0 4 1 (.slice (some ⟨w.heap.size, 0, none⟩) n n) n (named e.es []) := by
    rw [gW1]
    refine ⟨by simp [named, HN.out], .inr ⟨w.heap.size, n, _, rfl, Nat.zero_le _, heap_alloc_new w _, Nat.le_refl _, hmx, by simp [size_madeCells], ?_⟩⟩
    rw [toList_madeCells_one]
    simp [named, HN.out, List.map_const']
  have HNM := hid hnm
  rw [← gW1]
  clear gW1 hnm
  go_loopw [19] (fun k wr => ∃ i : Nat, k = .int .i64 i ∧ i ≤ kn ∧ Hid (wr.ownsRow 0 4 1 (.slice (some ⟨w.heap.size, 0, none⟩) n n) n (named e.es (ks.take i))) ∧ Below w.heap.size w wr) (fun k _ => kn - (intOf k).toNat)
  case atStart => exact ⟨0, rfl, Nat.zero_le _, HNM.out, hb1⟩
  case round =>
    obtain ⟨i, rfl, hi, HR, hbr⟩ := hrel
    by_cases hlt : i < kn
    · have hik : i < ks.length := by have := HKN.out; omega
      obtain ⟨b, o, rfl, hbl, hcell⟩ := HKS.out.below hbr (by omega)
      have hc := hcell i hik
      obtain ⟨k, hk⟩ : ∃ k, k = ks[i] := ⟨_, rfl⟩
      rw [← hk] at hc
      have HKI := hid hk
      clear hcell hk
      have kf := hid (find_any ae n c (secAt e.es) (valAt e.es) k wr (HS.out.below hbr) (by rw [HN.out]; exact rise_sec HE.out.rise) (by omega))
      go_wp2_with fail
      refine kf.out.mono ?_
      rintro r w2 ⟨ap, f, rfl, h1, h2, h3, h4, hb2⟩
      obtain ⟨j, hj, hjk⟩ := HIN.out k (by rw [HKI.out]; exact List.getElem_mem hik)
      have hjs : secAt e.es j = k := by rw [secAt_eq _ _ hj, hjk]
      have hnn := HN.out
      have hja : ap ≤ j := by
        rcases Nat.lt_or_ge j ap with h | h
        · have := h2 j h; omega
        · exact h
      have hap : ap = j := by
        rcases Nat.lt_or_ge ap j with h | h
        · have h5 := h3 ap (Nat.le_refl _) (by omega)
          have h6 := rise_sec HE.out.rise ap j h hj
          omega
        · omega
      subst hap
      obtain rfl : f = true := h4.2 ⟨by omega, hjs⟩
      have hbw : Below w.heap.size w w2 := hbr.trans (hb2.mono hbr.size)
      have hr2 := own_below HR.out hb2
      have hnk : ¬ (e.es[ap].sec ∈ ks.take i) := by
        rw [hjk, HKI.out]
        intro hx
        obtain ⟨m, hm, hmk⟩ := List.getElem_of_mem hx
        have hm' : m < i := by simp at hm; omega
        rw [List.getElem_take] at hmk
        have := (List.getElem_inj HND.out).1 hmk
        omega
      have cn : w2.cell? ⟨w.heap.size, ap, none⟩ = some (.bool false) := by
        rw [hr2.cellAt _ (by omega), named_at _ _ _ hj]
        simp [hnk]
      have fn := hr2.frozenAt ap
      have hst := hr2.stored ap (.bool true)
      rw [named_set HE.out.rise _ ap hj k hjk, HKI.out, ← List.take_succ_eq_append_getElem hik] at hst
      have HST := hid hst
      have hapn : ap < n := by omega
      have hsz := hbw.size
      clear hst hr2 h2 h3 h4 hc hjs hja hjk hnk hj hnn kf
      go_wp2_with fail
      go_roundw
      case rel => exact ⟨i + 1, by go_num, by omega, HST.out.1, hbw.grown HST.out.2 hbw.size (by intro q hq; simp at hq; omega)⟩
      case measure => simp [intOf]; omega
    · obtain rfl : i = kn := by omega
      have hrn := HR.out
      rw [HKN.out, List.take_length] at hrn
      have HRN := hid hrn
      clear hrn
      obtain ⟨wA, hwA⟩ : ∃ wA, wA = wr := ⟨_, rfl⟩
      subst hwA
      have hszA := hbr.size
      have hlA : w.heap.size < wA.heap.size := (HRN.out.lt w.heap.size rfl).2
      go_wp2_with fail
      go_loopw [11, 43] (fun vo k wr => ∃ j : Nat, k = .int .i64 j ∧ j ≤ n ∧ Hid (wr.ownsRow 0 57 2 vo ((e.es.take j).filter (fun s => decide (s.sec ∈ ks))).length (sentCells ((e.es.take j).filter (fun s => decide (s.sec ∈ ks))))) ∧ Hid (∀ x, vo.ownBlock = some x → wA.heap.size ≤ x) ∧ Below wA.heap.size wA wr) (fun _ k _ => n - (intOf k).toNat)
      case atStart => exact ⟨0, rfl, Nat.zero_le _, World.ownsRow_nil _ _ _ _, (fun x hx => by simp [Value.ownBlock] at hx), Below.refl _ _⟩
      case round =>
        obtain ⟨j, rfl, hj, HO, HV, hb2⟩ := hrel
        obtain ⟨vo, hvo⟩ : ∃ vo, vo = u11 := ⟨_, rfl⟩
        rw [← hvo] at HO HV ⊢
        clear hvo
        by_cases hjn : j < n
        · have hje : j < e.es.length := by have := HN.out; omega
          have hbw : Below w.heap.size w wr := hbr.trans (hb2.mono hszA)
          obtain ⟨b, o, rfl, hbl, hcs⟩ := HS.out.below hbw (by omega)
          obtain ⟨c0, c1⟩ := hcs j hjn
          rw [valAt_eq _ _ hje] at c1
          rw [secAt_eq _ _ hje] at c0
          simp only [Snt.val] at c1
          have hwz := hb2.size
          have cn : wr.cell? ⟨w.heap.size, j, none⟩ = some (.bool (decide (e.es[j].sec ∈ ks))) := by
            rw [(own_below HRN.out hb2).cellAt _ (by omega), named_at _ _ _ hje]
          have hcn : ∀ ob : Obj, (wr.alloc ob).cell? ⟨w.heap.size, j, none⟩ = some (.bool (decide (e.es[j].sec ∈ ks))) := fun ob => (World.cell?_of_block (a := ⟨w.heap.size, j, none⟩) (Below.heap_alloc wr ob w.heap.size (by omega))).trans cn
          have htk : e.es.take (j + 1) = e.es.take j ++ [e.es[j]] := List.take_succ_eq_append_getElem hje
          have HTK := hid htk
          have hfl : ((e.es.take j).filter (fun s => decide (s.sec ∈ ks))).length ≤ 2048 := Nat.le_trans (List.length_filter_le _ _) (by simp; omega)
          clear hcs cn htk
          by_cases hmem : e.es[j].sec ∈ ks
          · rw [decide_eq_true hmem] at hcn
            have HME := hid hmem
            clear hmem
            have HOA := hid ((HO.out.alloc (.cells #[.int .i64 e.es[j].sec, .slice (some ⟨e.es[j].blk, 0, none⟩) 128 e.es[j].cap] 57)).alloc (.cells #[.int .i64 e.es[j].sec, .slice (some ⟨e.es[j].blk, 0, none⟩) 128 e.es[j].cap] 57))
            have HNW : Hid (∀ (i : Nat) (u : Value), [Value.int .i64 e.es[j].sec, .slice (some ⟨e.es[j].blk, 0, none⟩) 128 e.es[j].cap][i]? = some u → ((wr.alloc (.cells #[.int .i64 e.es[j].sec, .slice (some ⟨e.es[j].blk, 0, none⟩) 128 e.es[j].cap] 57)).alloc (.cells #[.int .i64 e.es[j].sec, .slice (some ⟨e.es[j].blk, 0, none⟩) 128 e.es[j].cap] 57)).cell? ((⟨wr.heap.size + 1, 0, none⟩ : Addr).add i) = some u) := by
              intro i u hi
              have h9 := heap_alloc_new (wr.alloc (.cells #[.int .i64 e.es[j].sec, .slice (some ⟨e.es[j].blk, 0, none⟩) 128 e.es[j].cap] 57)) (.cells #[.int .i64 e.es[j].sec, .slice (some ⟨e.es[j].blk, 0, none⟩) 128 e.es[j].cap] 57)
              rw [show (wr.alloc (.cells #[.int .i64 e.es[j].sec, .slice (some ⟨e.es[j].blk, 0, none⟩) 128 e.es[j].cap] 57)).heap.size = wr.heap.size + 1 by simp] at h9
              rw [Addr.add_lit, Nat.zero_add]
              exact heap_cells h9 i u (by simpa using hi)
            go_wp2_with (at_builtin; go_must (refine wpList_append_where rfl _ _ 55 rfl 57 j0 _ 2 32 Try.underlying55 hj0 hy0 hy1 hy2 rfl (by decide) vo _ _ rfl HOA.out ⟨wr.heap.size + 1, 0, none⟩ 1 1 _ rfl rfl HNW.out (by intro u hu; simp at hu; rcases hu with rfl | rfl <;> rfl) (by unfold maxLen; omega) (by omega) ?_))
            intro v' w5 hO5 hU5 hN5 hW5
            have hb5 : Below wA.heap.size wA w5 := by
              refine (hb2.trans ((((Below.refl wr.heap.size wr).alloc (Nat.le_refl _) _).alloc (by simp) _).mono hwz)).trans (hU5.below (by simp; omega) (fun x hx => HV.out x hx))
            have hfil : (e.es.take (j + 1)).filter (fun s => decide (s.sec ∈ ks)) = (e.es.take j).filter (fun s => decide (s.sec ∈ ks)) ++ [e.es[j]] := by
              rw [HTK.out, List.filter_append]
              simp [HME.out]
            have hO6 : w5.ownsRow 0 57 2 v' ((e.es.take (j + 1)).filter (fun s => decide (s.sec ∈ ks))).length (sentCells ((e.es.take (j + 1)).filter (fun s => decide (s.sec ∈ ks)))) := by
              rw [hfil, List.length_append, sentCells_snoc]
              exact hO5.out
            have hV6 : ∀ x, v'.ownBlock = some x → wA.heap.size ≤ x := by
              intro x hx
              rcases hW5.out with h | h
              · exact HV.out x (h ▸ hx)
              · have := h x hx; omega
            have HO6 := hid hO6
            have HV6 := hid hV6
            clear hO6 hV6 hfil hU5 hW5
            go_wp2_with fail
            go_roundw
            case rel => exact ⟨j + 1, by go_num, by omega, HO6.out, HV6.out, hb5⟩
            case measure => simp [intOf]; omega
          · rw [decide_eq_false hmem] at hcn
            have hfil : (e.es.take (j + 1)).filter (fun s => decide (s.sec ∈ ks)) = (e.es.take j).filter (fun s => decide (s.sec ∈ ks)) := by
              rw [HTK.out, List.filter_append]
              simp [hmem]
            have HO6 : Hid ((wr.alloc (.cells #[.int .i64 e.es[j].sec, .slice (some ⟨e.es[j].blk, 0, none⟩) 128 e.es[j].cap] 57)).ownsRow 0 57 2 vo ((e.es.take (j + 1)).filter (fun s => decide (s.sec ∈ ks))).length (sentCells ((e.es.take (j + 1)).filter (fun s => decide (s.sec ∈ ks))))) := by
              show World.ownsRow _ _ _ _ _ _ _
              rw [hfil]
              exact HO.out.alloc _
            clear hmem hfil
            go_wp2_with fail
            go_roundw
            case rel => exact ⟨j + 1, by go_num, by omega, HO6.out, HV.out, hb2.alloc hwz _⟩
            case measure => simp [intOf]; omega
        · obtain rfl : j = n := by omega
          have hfin := HO.out
          rw [HN.out, List.take_length] at hfin
          have HFI := hid hfin
          clear hfin
          go_wp2_with fail
          go_ret2
          exact ⟨vo, rfl, HFI.out, fun x hx => Nat.le_trans hszA (HV.out x hx), hbr.trans (hb2.mono hszA)⟩

end Go.Proofs.Ytcophmafkpbdaaa
