/- What dredgerlaw02.played does, for every list of calls: the walk. -/
import Derived.Test.YtnfkkhglooehfaaDAbstX
import Derived.Test.YtnfkkhglooehfaaDNewK
import Derived.Test.YtnfkkhglooehfaaZeros
namespace Go.Proofs.Ytnfkkhglooehfaa
open Go.RowKit
set_option linter.unusedVariables false

theorem Try.infoTI : (Try.prog.info? 42).map (fun i => (i.zero, i.size, i.bytes)) = some (some (.slice none 0 0), 1, 24) := by kernel_rfl

/-- A list of calls, as it lies. -/
def Dos (w : World) (al : Option Addr) (ll : Nat) : Prop :=
  0 < ll → ∃ b o, al = some ⟨b, o, none⟩ ∧ b < w.heap.size ∧ ∀ i, i < ll → ∃ (x0 x1 x2 x3 : Int) (ab kb : Option Addr) (lb cb nk ck : Nat) (zs : List Int),
    w.cell? ⟨b, o + i * 6, none⟩ = some (.int .i64 x0) ∧ w.cell? ⟨b, o + i * 6 + 1, none⟩ = some (.int .i64 x1) ∧ w.cell? ⟨b, o + i * 6 + 2, none⟩ = some (.int .i64 x2) ∧ w.cell? ⟨b, o + i * 6 + 3, none⟩ = some (.int .i64 x3) ∧
    w.cell? ⟨b, o + i * 6 + 4, none⟩ = some (.slice ab lb cb) ∧ w.cell? ⟨b, o + i * 6 + 5, none⟩ = some (.slice kb nk ck) ∧
    (-9223372036854775808 ≤ x0 ∧ x0 ≤ 9223372036854775807) ∧ (-9223372036854775808 ≤ x1 ∧ x1 ≤ 9223372036854775807) ∧ Src w ab lb zs ∧ lb ≤ cb ∧ cb ≤ 9223372036854775807 ∧ (ab = none → lb = 0 ∧ cb = 0)

/-- bytes.Clone of bytes that lie somewhere, nil too. -/
theorem clone_src (ab : Option Addr) (m c : Nat) (zs : List Int) (w : World) (hs : Src w ab m zs) (hm : m ≤ 128) (hn : ab = none → m = 0) :
    Calls Try.prog 21 #[.slice ab m c] w fun e w' => ∃ v, e = .returned v ∧ w'.ownsRow w.heap.size 5 1 v m (zs.map (Value.int .u8)) ∧ Below w.heap.size w w' := by
  cases ab with
  | none =>
    have h0 := hn rfl
    subst h0
    obtain rfl : zs = [] := List.eq_nil_of_length_eq_zero hs.1
    refine (clone_nil 0 c w).mono ?_
    rintro e w' ⟨rfl, h⟩
    subst w'
    exact ⟨_, rfl, World.ownsRow_nil _ _ _ _, Below.refl _ _⟩
  | some a =>
    refine (clone_any a m c zs w hs (by omega)).mono ?_
    rintro e w' ⟨g, cc, rfl, ho, hb⟩
    exact ⟨_, rfl, ho, hb⟩

theorem Src.cut {w : World} {a0 : Option Addr} {len m : Nat} {zs : List Int} (h : Src w a0 len zs) (hm : m ≤ len) : Src w a0 m (zs.take m) := by
  have hl := h.1
  refine ⟨by simp; omega, fun h0 => ?_⟩
  obtain ⟨b, o, e, hlt, hc⟩ := h.2 (by omega)
  refine ⟨b, o, e, hlt, fun j hj => ?_⟩
  rw [hc j (by omega)]
  simp [List.getD, hj]

/-- The sector that a call writes. -/
def padded (zs : List Int) : List Int := zs.take 128 ++ List.replicate (128 - min zs.length 128) 0

theorem padded_len (zs : List Int) : (padded zs).length = 128 := by simp [padded]; omega

/-- What played leaves. -/
def Plays (w : World) (ll : Nat) (r : Ending) (w' : World) : Prop :=
  ∃ p gn d vst fnow sts opn X, r = .returned (.tuple #[.pointer (some ⟨p, 0, none⟩), vst]) ∧ Mem w w' p gn d vst sts.length fnow sts X ∧ Abst d fnow sts opn ∧ d.eps.length ≤ ll

theorem step_append_is {P : Program} {ops : Array Oper} {o : Oper} {a : Act} {w : World} {K : Act → World → Prop} {Q : Exit → Act → World → Prop} {E : Prop}
    (hg : o.guard = none) (d x : Operand) (dT sT : TypeId) (hop : o.op = Op.call { callee := Callee.builtin Builtin.append, args := #[d, x], argTypes := #[dT, sT] })
    (v u : Value) (hd : a.eval d = v) (hx : a.eval x = u) {v' : Value} {w' : World} (hr : (Builtin.append_ #[dT, sT] o.type #[v, u]).run P w = .ok v' w') (hK : K (a.put o.dst v') w') :
    if Region.wanted o (yielded ops a.tmps) = true then Oper.wp P o a w K Q else E := by
  have hw : Region.wanted o (yielded ops a.tmps) = true := by simp [Region.wanted, hg]
  rw [if_pos hw]
  unfold Oper.wp execOp
  simp only [hop, resolve, invoke, builtin, Sem.run_bind, Sem.run_pure, Result.andThen_ok, List.map_toArray, List.map_cons, List.map_nil, hd, hx, hr]
  exact hK

theorem Byt.weaken {w : World} {M M' : List Nat} {u : Value} {bs : List Int} (h : Byt w M u bs) (hs : ∀ x ∈ M', x ∈ M) : Byt w M' u bs := by
  obtain ⟨a, c, h1, h2, h3⟩ := h
  exact ⟨a, c, h1, h2, fun hx => h3 (hs _ hx)⟩

theorem Pic.weaken {w : World} {M M' : List Nat} {v : Value} {n : Nat} {f : Nat → List Int} (h : Pic w M v n f) (hs : ∀ x ∈ M', x ∈ M) : Pic w M' v n f := by
  obtain ⟨vs, hr, hj⟩ := h
  refine ⟨vs, hr, fun j hl => ?_⟩
  obtain ⟨u, h1, h2⟩ := hj j hl
  exact ⟨u, h1, h2.weaken hs⟩

theorem writeE_len (eps : List (List (Nat × List Int))) (opn : Bool) (i : Nat) (bs : List Int) : (writeE eps opn i bs).length ≤ eps.length + 1 := by
  unfold writeE
  split
  · simp
  · simp

theorem padded_map (zs : List Int) (m : Nat) (hm : m = min zs.length 128) : (zs.take m).map (Value.int .u8) ++ List.replicate (128 - m) (Value.int .u8 0) = (padded zs).map (Value.int .u8) := by
  have h1 : zs.take m = zs.take 128 := by
    subst hm
    rcases Nat.le_total zs.length 128 with h | h
    · rw [Nat.min_eq_left h, List.take_of_length_le (Nat.le_refl _), List.take_of_length_le h]
    · rw [Nat.min_eq_right h]
  rw [h1, padded, List.map_append, List.map_replicate, ← hm]

theorem which (x : Int) : ∃ s : Nat, wrap64 ((IntKind.u64.wrap x).tmod 4) = (s : Int) ∧ s < 4 := by
  have h0 : 0 ≤ IntKind.u64.wrap x := by rw [IntKind.wrap_u64]; omega
  rw [Int.tmod_eq_emod_of_nonneg h0]
  have h1 : 0 ≤ IntKind.u64.wrap x % 4 ∧ IntKind.u64.wrap x % 4 < 4 := by omega
  refine ⟨(IntKind.u64.wrap x % 4).toNat, ?_, by omega⟩
  rw [wrap64]
  omega

theorem mem_start {w w1 w2 w3 : World} {p gn : Nat} {d : Dk} {k3 c3 : Nat} (hok : d.ok w1 p) (hnew : ∀ x ∈ d.foot p, w.heap.size ≤ x) (hb1 : Below w.heap.size w w1) (hpic : Pic w2 (gn :: d.foot p) (.slice (some ⟨gn, 0, none⟩) 4 4) 4 (sec d.dur)) (hgn : w1.heap.size ≤ gn) (hb2 : Below w1.heap.size w1 w2)
    (hpic3 : Pic w3 (vb (.slice (some ⟨k3, 0, none⟩) 4 c3) ++ gn :: d.foot p) (.slice (some ⟨k3, 0, none⟩) 4 c3) 4 (sec d.dur)) (hv3 : ∀ x, (Value.slice (some ⟨k3, 0, none⟩) 4 c3).ownBlock = some x → w2.heap.size ≤ x) (hb3 : Below w2.heap.size w2 w3) :
    Mem w (w3.alloc (.cells #[.slice (some ⟨k3, 0, none⟩) 4 c3] 42)) p gn d (.slice (some ⟨w3.heap.size, 0, none⟩) 1 1) 1 (sec d.dur) [sec d.dur] [k3] := by
  have s1 := hb1.size
  have s2 := hb2.size
  have s3 := hb3.size
  have ha : Below w3.heap.size w3 (w3.alloc (.cells #[.slice (some ⟨k3, 0, none⟩) 4 c3] 42)) := (Below.refl _ _).alloc (Nat.le_refl _) _
  have hb24 : Below w2.heap.size w2 (w3.alloc (.cells #[.slice (some ⟨k3, 0, none⟩) 4 c3] 42)) := hb3.trans (ha.mono s3)
  have hb14 : Below w1.heap.size w1 (w3.alloc (.cells #[.slice (some ⟨k3, 0, none⟩) 4 c3] 42)) := hb2.trans (hb24.mono s2)
  obtain ⟨vs, hr, hj⟩ := hpic
  have hgl := (hr.lt gn rfl).2
  have hMM : MM d p gn (.slice (some ⟨w3.heap.size, 0, none⟩) 1 1) = d.foot p ++ [gn, w3.heap.size] := by simp [MM, vb, Value.ownBlock]
  have hlt := hok.lt
  have hk3 := hv3 k3 rfl
  have hk3l : k3 < w3.heap.size := by
    obtain ⟨vs3, hr3, _⟩ := hpic3
    exact (hr3.lt k3 rfl).2
  refine ⟨hok.frame fun k hk => hb14.block k (hlt k hk), ⟨vs, own_below hr hb24, fun j hl => ?_⟩, ⟨[.slice (some ⟨k3, 0, none⟩) 4 c3], World.ownsRow_lit w3 #[.slice (some ⟨k3, 0, none⟩) 4 c3] 1 (Nat.zero_le _) (by unfold maxLen; omega) rfl, fun j hl => ?_, fun i j _ _ _ hij hj => by simp at hj; omega⟩, Nat.le_refl _, fun hx => ?_, fun k hk => ?_, fun x hx => ?_, ?_, hb1.trans (hb14.mono s1)⟩
  · obtain ⟨u, h1, h2⟩ := hj j hl
    refine ⟨u, h1, h2.upd (Upd.of_below hb24) (fun x hx => ?_)⟩
    rw [hMM] at hx
    simp only [List.mem_append, List.mem_cons, List.not_mem_nil, or_false] at hx ⊢
    rcases hx with (hx | hx | hx) | hx
    · exact .inl (.inr hx)
    · exact .inl (.inl hx)
    · exact .inr (by omega)
    · exact .inr (by omega)
  · have hj0 : j = 0 := by simp at hl; omega
    subst hj0
    refine ⟨.slice (some ⟨k3, 0, none⟩) 4 c3, k3, rfl, rfl, by simp, ?_⟩
    obtain ⟨vs3, hr3, hj3⟩ := hpic3
    refine ⟨vs3, own_below hr3 ha, fun j hl => ?_⟩
    obtain ⟨u, h1, h2⟩ := hj3 j hl
    refine ⟨u, h1, h2.upd (Upd.of_below ha) (fun x hx => ?_)⟩
    rw [hMM] at hx
    simp only [List.mem_append, List.mem_cons, List.not_mem_nil, or_false] at hx ⊢
    rcases hx with (hx | hx | hx) | hx
    · exact .inl (.inr (.inr hx))
    · exact .inl (.inr (.inl hx))
    · exact .inr (by omega)
    · exact .inl (.inl (by simp [vb, Value.ownBlock, hx]))
  · have := hlt gn hx; omega
  · simp [Value.ownBlock] at hk
    subst hk
    exact ⟨fun hx => by have := hlt _ hx; omega, by omega⟩
  · simp at hx
    subst hx
    refine ⟨by simp; omega, by omega, ?_⟩
    rw [hMM]
    intro hx
    simp only [List.mem_append, List.mem_cons, List.not_mem_nil, or_false] at hx
    rcases hx with hx | hx | hx
    · have := hlt _ hx; omega
    · omega
    · omega
  · intro x hx
    rw [hMM] at hx
    simp only [List.mem_append, List.mem_cons, List.not_mem_nil, or_false] at hx
    rcases hx with hx | hx | hx
    · exact hnew x hx
    · omega
    · omega

theorem abst_start {d : Dk} (hn : d.n = 4) (hd : d.dur = List.replicate (4 * 128) 0) (hw : d.wr = d.dur) (he : d.eps = []) (ho : d.opn = false) : Abst d (sec d.dur) [sec d.dur] false := by
  have hab : d.ab = [] := by simp [Dk.ab, he]
  refine ⟨hn, hd, ho, fun i _ => by rw [hw], by simp [he], fun i _ => by rw [hw, hab]; rfl, fun j hj i _ => ?_, fun e he => by rw [hab] at he; simp at he⟩
  have : j = 0 := by simp at hj; omega
  subst this
  rw [hab]
  rfl

set_option maxHeartbeats 4000000 in
set_option maxRecDepth 20000 in
theorem played_any (al : Option Addr) (ll cl : Nat) (w : World) (hl : Dos w al ll) (hll : ll ≤ 1800000000000) (hlc : ll ≤ cl) (hcl : cl ≤ 9223372036854775807) :
    Calls Try.prog 17 #[.slice al ll cl] w (Plays w ll) := by
  have HL := hid hl
  clear hl
  obtain ⟨i0, hi0, hz0, hz1, hz2⟩ := info_parts Try.infoTI
  obtain ⟨i5, hi5, hy0, hy1, hy2⟩ := info_parts Try.pinfo5
  go_enter Try.func17, Try.ntmps17
  go_wp2_with fail
  refine (new_dk 4 w (by omega) (by omega)).mono ?_
  rintro r w1 ⟨p, d, rfl, hok, hn4, hdur, hwr, heps, hopn, hnew, hb1⟩
  have HK := hid hok
  have hsz1 := hb1.size
  have ki := hid (image_any d p w1 hok (d.foot p) hok.lt)
  rw [hn4] at ki
  clear hok
  go_wp2_with fail
  refine ki.out.mono ?_
  rintro r w2 ⟨gn, rfl, hpic, hgn, hb2⟩
  have HPIC := hid hpic
  have hsz2 := hb2.size
  have kp := hid (pimage_any _ 4 _ _ (gn :: d.foot p) w2 hpic (by omega) (by
    intro x hx
    obtain ⟨vs, hr, _⟩ := hpic
    have h1 := (hr.lt gn rfl).2
    rcases List.mem_cons.1 hx with rfl | hx
    · exact h1
    · have := HK.out.lt x hx; omega))
  clear hpic
  go_wp2_with fail
  refine kp.out.mono ?_
  rintro r w3 ⟨v3, rfl, hpic3, hv3, hb3⟩
  obtain ⟨k3, c3, rfl⟩ : ∃ k3 c3, v3 = .slice (some ⟨k3, 0, none⟩) 4 c3 := by
    rcases hpic3.choose_spec.1.2 with ⟨_, h⟩ | ⟨g, c, cur, h, _⟩
    · omega
    · exact ⟨g, c, h⟩
  have HPIC3 := hid hpic3
  clear hpic3
  have hmem0 := mem_start HK.out hnew hb1 HPIC.out hgn hb2 HPIC3.out hv3 hb3
  have habs0 := abst_start hn4 hdur hwr heps hopn
  have HM0 := hid hmem0
  have HA0 := hid habs0
  have he0 : d.eps.length = 0 := by rw [heps]; rfl
  have HE0 := hid he0
  clear hmem0 habs0 hnew hb1 hgn hb2 hv3 hb3 hn4 hdur hwr heps hopn he0 ki kp
  go_wp2_with fail
  go_loopw [7, 8, 29] (fun vst ob k wr => ∃ (i : Nat) (d : Dk) (fnow : Nat → List Int) (sts : List (Nat → List Int)) (o : Bool) (X : List Nat), ob = .bool o ∧ k = .int .i64 i ∧ i ≤ ll ∧ Hid (Mem w wr p gn d vst sts.length fnow sts X) ∧ Hid (Abst d fnow sts o) ∧ d.eps.length ≤ i) (fun _ _ k _ => ll - (intOf k).toNat)
  case atStart => exact ⟨0, d, sec d.dur, [sec d.dur], false, [k3], rfl, rfl, Nat.zero_le _, HM0.out, HA0.out, by rw [HE0.out]; exact Nat.le_refl _⟩
  case round =>
    obtain ⟨i, d, fnow, sts, o, X, rfl, rfl, hi, HM, HA, hep⟩ := hrel
    obtain ⟨vst, hvst⟩ : ∃ vst, vst = u7 := ⟨_, rfl⟩
    rw [← hvst] at HM ⊢
    clear hvst
    obtain ⟨wo, hwo⟩ : ∃ wo, wo = wr := ⟨_, rfl⟩
    subst hwo
    obtain ⟨_, hrow, _⟩ := HM.out.row
    obtain ⟨aas, cs, hvs, hcs1, hcs2⟩ := own_shape hrow
    obtain ⟨gs, rfl⟩ : ∃ gs, aas = some ⟨gs, 0, none⟩ := by
      rcases hrow.2 with ⟨_, h⟩ | ⟨g, c, cur, h, _⟩
      · have := HA.out.len; omega
      · rw [hvs] at h; injection h with h1 h2 h3; exact ⟨g, h1⟩
    subst hvs
    clear hrow
    obtain ⟨L, hL⟩ : ∃ L, sts.length = L + 1 := ⟨_, HA.out.len⟩
    rw [hL] at HM hcs1 ⊢
    have HLL := hid hL
    clear hL
    have hLe : L ≤ i := by have h7 := HA.out.len; have h8 := HLL.out; omega
    have hbw := HM.out.below
    by_cases hlt : i < ll
    · obtain ⟨b, o', rfl, hbl, hcells⟩ := HL.out (by omega)
      obtain ⟨x0, x1, x2, x3, ab, kb, lb, cb, nk, ck, zs, q0, q1, q2, q3, q4, q5, hx0, hx1, hsrc, hlb1, hlb2, hnil⟩ := hcells i hlt
      have e0 := (hbw.cell (p := ⟨b, o' + i * 6, none⟩) hbl).trans q0
      have e1 := (hbw.cell (p := ⟨b, o' + i * 6 + 1, none⟩) hbl).trans q1
      have e2 := (hbw.cell (p := ⟨b, o' + i * 6 + 2, none⟩) hbl).trans q2
      have e3 := (hbw.cell (p := ⟨b, o' + i * 6 + 3, none⟩) hbl).trans q3
      have e4 := (hbw.cell (p := ⟨b, o' + i * 6 + 4, none⟩) hbl).trans q4
      have e5 := (hbw.cell (p := ⟨b, o' + i * 6 + 5, none⟩) hbl).trans q5
      have HSRC := hid (hsrc.below hbw)
      have HNIL := hid hnil
      clear hcells q0 q1 q2 q3 q4 q5 hsrc hnil
      by_cases hop : x0.tmod 3 = 0
      · go_wp2_with fail
        have hba : Below wo.heap.size wo (wo.alloc (.cells #[.int .i64 x0, .int .i64 x1, .int .i64 x2, .int .i64 x3, .slice ab lb cb, .slice kb nk ck] 38)) := (Below.refl _ _).alloc (Nat.le_refl _) _
        have hm1 := HM.out.quiet hba [] (by simp)
        rw [List.append_nil] at hm1
        refine (barrier_any d p _ hm1.ok).mono ?_
        rintro r w5 ⟨rfl, hok5, hU5⟩
        have HM5 := hid (hm1.disk hok5 (hU5.mono (fun x _ hx => by simp [Dk.foot, hx])) (Grew.refl _ _))
        clear hm1 hba hok5 hU5 e0 e1 e2 e3 e4 e5
        go_wp2_with fail
        go_roundw
        case rel => exact ⟨i + 1, { d with opn := false }, fnow, sts, false, X, rfl, by go_num, by omega, by rw [HLL.out]; exact HM5.out, HA.out.barrier, by show d.eps.length ≤ _; omega⟩
        case measure => simp [intOf]; omega
      · obtain ⟨si, hsi, hs4⟩ := which x1
        go_wp2_with fail
        obtain ⟨W, gW⟩ : ∃ W, W = wo.alloc (.cells #[.int .i64 x0, .int .i64 x1, .int .i64 x2, .int .i64 x3, .slice ab lb cb, .slice kb nk ck] 38) := ⟨_, rfl⟩
        have hba : Below wo.heap.size wo W := by rw [gW]; exact (Below.refl _ _).alloc (Nat.le_refl _) _
        have r4 : W.cell? ⟨wo.heap.size, 4, none⟩ = some (.slice ab lb cb) := by rw [gW]; simp [go_sem]
        have hWs : W.heap.size = wo.heap.size + 1 := by rw [gW]; simp
        rw [← gW]
        clear gW e0 e1 e2 e3 e4 e5
        obtain ⟨m, hm⟩ : ∃ m, m = min lb 128 := ⟨_, rfl⟩
        have hm1 : min (lb : Int) 128 = (m : Int) := by omega
        have hm2 : m ≤ lb := by omega
        have hm3 : m ≤ 128 := by omega
        have hm4 : (m : Int) ≤ (cb : Int) := by omega
        have hm5 : (0 : Int) ≤ (m : Int) := by omega
        have hzl := HSRC.out.1
        have kc := hid (clone_src ab m cb (zs.take m) W.drew ((HSRC.out.cut hm2).below hba.drew) hm3 (fun h => by have := HNIL.out h; omega))
        have HMN := hid hm
        clear hm
        have hab : (ab = none ∧ lb = 0 ∧ cb = 0 ∧ m = 0) ∨ ∃ a0, ab = some a0 := by
          cases ab with
          | none => have := HNIL.out rfl; exact .inl ⟨rfl, this.1, this.2, by omega⟩
          | some a0 => exact .inr ⟨a0, rfl⟩
        rcases hab with ⟨rfl, h1, h2, h3⟩ | ⟨a0, rfl⟩
        · subst h1
          subst h2
          subst h3
          go_region_held3 (fun wx => wx.cell? ⟨wo.heap.size, 4, none⟩ = some (.slice none 0 0)) (go_keep) (first | (go_at_call 21; refine kc.out.mono ?_; rintro r w6 ⟨vc, rfl, hvo, hb6⟩; have t4 : w6.cell? ⟨wo.heap.size, 4, none⟩ = some (.slice none 0 0) := (hb6.cell (p := ⟨wo.heap.size, 4, none⟩) (by show wo.heap.size < W.heap.size; omega)).trans r4; obtain ⟨ac, cc, hvc, hcc1, hcc2⟩ := own_shape hvo; obtain ⟨vz, wz, hrz, hoz, hbz⟩ := run_append_zeros w6 35 3 35 .i64 i5 Try.underlying35 Try.underlying3 hi5 hy0 hy1 hy2 W.heap.size vc 0 _ hvo hb6.size (128) (by omega) (128) (by omega); rw [hvc] at hrz; subst hvc; have HOZ := hid hoz; have t5 : wz.cell? ⟨wo.heap.size, 4, none⟩ = some (.slice none 0 0) := (hbz.cell (p := ⟨wo.heap.size, 4, none⟩) (by show wo.heap.size < W.heap.size; omega)).trans t4; have hbx := hb6.trans hbz; have HBZ : Hid (Below W.heap.size W wz) := hid ⟨hbx.os, hbx.tape, hbx.output, hbx.size, hbx.block⟩; clear hvo hb6 hoz hbz hbx) | (refine step_append_is rfl _ _ 35 3 rfl _ _ (by simp [Act.eval]) (by simp [Act.eval] <;> (rw [IntKind.wrap_i64]; omega)) hrz ?_))
          all_goals
            have hoz : wz.ownsRow W.heap.size 5 1 vz 128 ((padded zs).map (Value.int .u8)) := by
              have h5 := HOZ.out
              have h6 := HMN.out
              rw [padded_map zs _ (by rw [hzl]; exact h6)] at h5
              exact (show 0 + (128 - 0) = 128 by omega) ▸ h5
            obtain ⟨az, cz, hvz, hcz1, hcz2⟩ := own_shape hoz
            subst hvz
            obtain ⟨gz, rfl⟩ : ∃ gz, az = some ⟨gz, 0, none⟩ := by
              rcases hoz.2 with ⟨_, h⟩ | ⟨g, c, cur, h, _⟩
              · omega
              · injection h with h1 h2 h3; exact ⟨g, h1⟩
            have hbz0 : Below wo.heap.size wo wz := hba.trans (HBZ.out.mono (by omega))
            have hm1 := HM.out.quiet hbz0 [] (by simp)
            rw [List.append_nil] at hm1
            have hgz := hoz.lt gz rfl
            have hMl := HM.out.lt
            have hfn : gz ∉ d.foot p := fun hx => by have := hMl gz (List.mem_append.2 (.inl hx)); omega
            have kw := hid (write_any d p si ⟨gz, 0, none⟩ cz (padded zs) wz hm1.ok (by rw [HA.out.n4]; exact hs4) (Src.own hoz) hfn (by omega))
            have HM1 := hid hm1
            have HOZ2 := hid hoz
            clear hm1 hoz HOZ hrz t4 t5 r4 kc hbz0 hMl HSRC HNIL
            go_wp2_with fail
            refine kw.out.mono ?_
            rintro r wB ⟨rfl, d', hokB, hn', -, hdur', hwr', hab', hopn', hUB, hgB⟩
            have hm2 := HM1.out.disk hokB hUB hgB
            have hbyt : Byt wB (MM d' p gn (.slice (some ⟨gs, 0, none⟩) (L + 1) cs) ++ X) (.slice (some ⟨gz, 0, none⟩) 128 cz) (padded zs) := by
              refine ⟨⟨gz, 0, none⟩, cz, rfl, hUB.src (Src.own HOZ2.out) (fun b o e => ?_), fun hx => ?_⟩
              · have := Option.some.inj e
                injection this with e1 e2
                subst e1
                exact hfn
              · rcases List.mem_append.1 hx with hx | hx
                · rcases List.mem_append.1 hx with h | h
                  · rcases hgB _ h with h' | h'
                    · exact hfn h'
                    · simp at h'; omega
                  · have := HM.out.lt gz (List.mem_append.2 (.inr h)); omega
                · have := (HM.out.xs gz hx).1; omega
            obtain ⟨vs, hvr, hve⟩ := hm2.now
            obtain ⟨u, hu, -⟩ := hve si hs4
            have g1 : wB.cell? ⟨gn, si, none⟩ = some u := by rw [hvr.cellAt _ (by omega)]; exact hu
            have g2 := hvr.frozenAt si
            have hm3 := hm2.setnow hs4 hbyt rfl
            have HM3 := hid hm3
            have hel' : d'.eps.length ≤ d.eps.length + 1 := by
              have h7 : d'.eps.length = d'.ab.length := by simp [Dk.ab]
              have h8 : d.eps.length = d.ab.length := by simp [Dk.ab]
              rw [h7, h8, hab']
              exact writeE_len _ _ _ _
            have HAW := hid (fun base h0 h1 => HA.out.write HM1.out.ok hn' hdur' hwr' hab' hopn' hs4 (padded_len zs) base h0 h1)
            clear hm2 hvr hve hu hm3 hbyt hokB hn' hdur' hwr' hab' hopn' hUB hgB kw
            cases o
            · obtain ⟨us, hus, hue⟩ := HM3.out.row
              have HUS := hid hus
              clear hus hue
              have HNW : Hid (∀ (j : Nat) (u : Value), [Value.slice none 0 0][j]? = some u → ((wB.setCell ⟨gn, si, none⟩ (.slice (some ⟨gz, 0, none⟩) 128 cz)).alloc (.cells #[.slice none 0 0] 42)).cell? ((⟨wB.heap.size, 0, none⟩ : Addr).add j) = some u) := by
                intro j u hj
                have h9 := heap_alloc_new (wB.setCell ⟨gn, si, none⟩ (.slice (some ⟨gz, 0, none⟩) 128 cz)) (.cells #[.slice none 0 0] 42)
                rw [show (wB.setCell ⟨gn, si, none⟩ (.slice (some ⟨gz, 0, none⟩) 128 cz)).heap.size = wB.heap.size by simp] at h9
                rw [Addr.add_lit, Nat.zero_add]
                exact heap_cells h9 j u (by simpa using hj)
              go_wp2_with (at_builtin; go_must (refine wpList_append_where rfl _ _ 50 rfl 42 i0 _ 1 24 Try.underlying50 hi0 hz0 hz1 hz2 rfl (by decide) _ (L + 1) us rfl (HUS.out.alloc _) ⟨wB.heap.size, 0, none⟩ 1 1 [.slice none 0 0] rfl rfl HNW.out (by simp [Value.oneCell']) (by unfold maxLen; omega) (by omega) ?_))
              intro vst' wD hO hU hN hW
              have hU4 := (Upd.alloc (fun x => (Value.slice (some ⟨gs, 0, none⟩) (L + 1) cs).ownBlock = some x) (wB.setCell ⟨gn, si, none⟩ (.slice (some ⟨gz, 0, none⟩) 128 cz)) (.cells #[.slice none 0 0] 42)).trans hU (fun _ _ h => h)
              have hW4 : vst'.ownBlock = (Value.slice (some ⟨gs, 0, none⟩) (L + 1) cs).ownBlock ∨ ∀ x, vst'.ownBlock = some x → (wB.setCell ⟨gn, si, none⟩ (.slice (some ⟨gz, 0, none⟩) 128 cz)).heap.size ≤ x := by
                rcases hW.out with h | h
                · exact .inl h
                · exact .inr fun x hx => Nat.le_trans (by simp) (h x hx)
              have hm4 := HM3.out.grow hU4 hW4 (us' := [.slice none 0 0]) (fun us2 h2 => by rw [own_unique h2 HUS.out]; exact hO.out)
              obtain ⟨as', cs', hvs', hcs1', hcs2'⟩ := own_shape hO.out
              subst hvs'
              obtain ⟨gs', rfl⟩ : ∃ gs', as' = some ⟨gs', 0, none⟩ := by
                rcases hO.out.2 with ⟨_, h⟩ | ⟨g, c, cur, h, _⟩
                · omega
                · injection h with h1 h2 h3; exact ⟨g, h1⟩
              have kp := hid (pimage_any _ 4 _ _ _ wD hm4.now (by omega) (fun x hx => by rcases List.mem_append.1 hx with h | h; exact hm4.lt x h; exact (hm4.xs x h).1))
              have HM4 := hid hm4
              have hul : us.length = L + 1 := by have := HUS.out.1; omega
              clear hm4 hU4 hW4 hU hW hN
              go_wp2_with fail
              refine kp.out.mono ?_
              rintro r wE ⟨v6, rfl, hp6, hv6, hb6⟩
              obtain ⟨k6, c6, rfl⟩ : ∃ k6 c6, v6 = .slice (some ⟨k6, 0, none⟩) 4 c6 := by
                rcases hp6.choose_spec.1.2 with ⟨_, h⟩ | ⟨g, c, cur, h, _⟩
                · omega
                · exact ⟨g, c, h⟩
              have hk6 := hv6 k6 rfl
              have hk6l : k6 < wE.heap.size := (hp6.choose_spec.1.lt k6 rfl).2
              have hm5 := HM4.out.quiet hb6 [k6] (fun y hy => by simp at hy; subst hy; exact ⟨hk6, hk6l⟩)
              have hdk := hid (HM4.out.fresh hb6 k6 hk6)
              have k1 : wE.cell? ⟨gs', L + 1, none⟩ = some (.slice none 0 0) := by
                rw [(own_below hO.out hb6).cellAt _ (by omega), List.getElem?_append_right (by omega), hul]
                simp
              have k2 := (own_below hO.out hb6).frozenAt (L + 1)
              have hm6 := hm5.setst (gs := gs') (cs := cs') rfl (by rw [HLL.out]) (hp6.weaken (fun x hx => by simp only [List.mem_append, List.mem_singleton] at hx ⊢; rcases hx with h | h | h; exact .inr (.inl h); exact .inr (.inr h); exact .inl (by simp [vb, Value.ownBlock, h]))) (k' := k6) rfl (by simp) rfl hdk.out
              rw [HLL.out] at hm6
              have HM6 := hid hm6
              clear hm5 hm6 hp6 hv6 hk6 hk6l kp
              go_wp2_with fail
              go_roundw
              case rel =>
                refine ⟨i + 1, d', _, _, true, X ++ [k6], rfl, by go_num, by omega, ?_, HAW.out sts (fun _ => rfl) (fun h => by cases h), by omega⟩
                rw [List.length_append, HLL.out]
                exact HM6.out
              case measure => simp [intOf]; omega
            · have hm4 := HM3.out.forget (sts.length - 1)
              have htl : (sts.take (sts.length - 1)).length = L := by have := HLL.out; simp; omega
              have kp := hid (pimage_any _ 4 _ _ _ _ hm4.now (by omega) (fun x hx => by rcases List.mem_append.1 hx with h | h; exact hm4.lt x h; exact (hm4.xs x h).1))
              obtain ⟨us, hus, hue⟩ := hm4.row
              have HUS := hid hus
              have HM4 := hid hm4
              have hul : us.length = L + 1 := by have := hus.1; omega
              have HT := hid htl
              clear hm4 hus hue htl
              go_wp2_with fail
              refine kp.out.mono ?_
              rintro r wE ⟨v6, rfl, hp6, hv6, hb6⟩
              obtain ⟨k6, c6, rfl⟩ : ∃ k6 c6, v6 = .slice (some ⟨k6, 0, none⟩) 4 c6 := by
                rcases hp6.choose_spec.1.2 with ⟨_, h⟩ | ⟨g, c, cur, h, _⟩
                · omega
                · exact ⟨g, c, h⟩
              have hk6 := hv6 k6 rfl
              have hk6l : k6 < wE.heap.size := (hp6.choose_spec.1.lt k6 rfl).2
              have hm5 := HM4.out.quiet hb6 [k6] (fun y hy => by simp at hy; subst hy; exact ⟨hk6, hk6l⟩)
              have hdk := hid (HM4.out.fresh hb6 k6 hk6)
              obtain ⟨u8, hu8⟩ : ∃ u8, us[L]? = some u8 := ⟨_, List.getElem?_eq_getElem (by omega)⟩
              have k1 : wE.cell? ⟨gs, L, none⟩ = some u8 := by
                rw [(own_below HUS.out hb6).cellAt _ (by omega)]
                exact hu8
              have k2 := (own_below HUS.out hb6).frozenAt L
              have hm6 := hm5.setst (gs := gs) (cs := cs) rfl (by rw [HT.out]) (hp6.weaken (fun x hx => by simp only [List.mem_append, List.mem_singleton] at hx ⊢; rcases hx with h | h | h; exact .inr (.inl h); exact .inr (.inr h); exact .inl (by simp [vb, Value.ownBlock, h]))) (k' := k6) rfl (by simp) rfl hdk.out
              rw [HT.out] at hm6
              have HM6 := hid hm6
              clear hm5 hm6 hp6 hv6 hk6 hk6l kp hu8
              go_wp2_with fail
              go_roundw
              case rel =>
                refine ⟨i + 1, d', _, _, true, X ++ [k6], rfl, by go_num, by omega, ?_, HAW.out (sts.take (sts.length - 1)) (fun h => by cases h) (fun _ => rfl), by omega⟩
                rw [List.length_append, HT.out]
                exact HM6.out
              case measure => simp [intOf]; omega
        · have hIf : (if (128 : Int) < (lb : Int) then (128 : Int) else (lb : Int)) = (m : Int) := by split <;> omega
          have hwr : IntKind.i64.wrap (128 - (m : Int)) = 128 - (m : Int) := by rw [IntKind.wrap_i64]; omega
          go_region_held3 (fun wx => wx.cell? ⟨wo.heap.size, 4, none⟩ = some (.slice (some a0) lb cb)) (go_keep) (first | (go_at_call 21; refine kc.out.mono ?_; rintro r w6 ⟨vc, rfl, hvo, hb6⟩; have t4 : w6.cell? ⟨wo.heap.size, 4, none⟩ = some (.slice (some a0) lb cb) := (hb6.cell (p := ⟨wo.heap.size, 4, none⟩) (by show wo.heap.size < W.heap.size; omega)).trans r4; obtain ⟨ac, cc, hvc, hcc1, hcc2⟩ := own_shape hvo; obtain ⟨vz, wz, hrz, hoz, hbz⟩ := run_append_zeros w6 35 3 35 .i64 i5 Try.underlying35 Try.underlying3 hi5 hy0 hy1 hy2 W.heap.size vc m _ hvo hb6.size (128 - m) (by omega) (128 - (m : Int)) (by omega); rw [hvc] at hrz; subst hvc; have HOZ := hid hoz; have t5 : wz.cell? ⟨wo.heap.size, 4, none⟩ = some (.slice (some a0) lb cb) := (hbz.cell (p := ⟨wo.heap.size, 4, none⟩) (by show wo.heap.size < W.heap.size; omega)).trans t4; have hbx := hb6.trans hbz; have HBZ : Hid (Below W.heap.size W wz) := hid ⟨hbx.os, hbx.tape, hbx.output, hbx.size, hbx.block⟩; clear hvo hb6 hoz hbz hbx) | (refine step_append_is rfl _ _ 35 3 rfl _ _ (by simp [Act.eval]) (by simp [Act.eval] <;> (rw [IntKind.wrap_i64]; omega)) hrz ?_))
          all_goals
            have hoz : wz.ownsRow W.heap.size 5 1 vz 128 ((padded zs).map (Value.int .u8)) := by
              have h5 := HOZ.out
              have h6 := HMN.out
              rw [padded_map zs _ (by rw [hzl]; exact h6)] at h5
              exact (show m + (128 - m) = 128 by omega) ▸ h5
            obtain ⟨az, cz, hvz, hcz1, hcz2⟩ := own_shape hoz
            subst hvz
            obtain ⟨gz, rfl⟩ : ∃ gz, az = some ⟨gz, 0, none⟩ := by
              rcases hoz.2 with ⟨_, h⟩ | ⟨g, c, cur, h, _⟩
              · omega
              · injection h with h1 h2 h3; exact ⟨g, h1⟩
            have hbz0 : Below wo.heap.size wo wz := hba.trans (HBZ.out.mono (by omega))
            have hm1 := HM.out.quiet hbz0 [] (by simp)
            rw [List.append_nil] at hm1
            have hgz := hoz.lt gz rfl
            have hMl := HM.out.lt
            have hfn : gz ∉ d.foot p := fun hx => by have := hMl gz (List.mem_append.2 (.inl hx)); omega
            have kw := hid (write_any d p si ⟨gz, 0, none⟩ cz (padded zs) wz hm1.ok (by rw [HA.out.n4]; exact hs4) (Src.own hoz) hfn (by omega))
            have HM1 := hid hm1
            have HOZ2 := hid hoz
            clear hm1 hoz HOZ hrz t4 t5 r4 kc hbz0 hMl HSRC HNIL
            go_wp2_with fail
            refine kw.out.mono ?_
            rintro r wB ⟨rfl, d', hokB, hn', -, hdur', hwr', hab', hopn', hUB, hgB⟩
            have hm2 := HM1.out.disk hokB hUB hgB
            have hbyt : Byt wB (MM d' p gn (.slice (some ⟨gs, 0, none⟩) (L + 1) cs) ++ X) (.slice (some ⟨gz, 0, none⟩) 128 cz) (padded zs) := by
              refine ⟨⟨gz, 0, none⟩, cz, rfl, hUB.src (Src.own HOZ2.out) (fun b o e => ?_), fun hx => ?_⟩
              · have := Option.some.inj e
                injection this with e1 e2
                subst e1
                exact hfn
              · rcases List.mem_append.1 hx with hx | hx
                · rcases List.mem_append.1 hx with h | h
                  · rcases hgB _ h with h' | h'
                    · exact hfn h'
                    · simp at h'; omega
                  · have := HM.out.lt gz (List.mem_append.2 (.inr h)); omega
                · have := (HM.out.xs gz hx).1; omega
            obtain ⟨vs, hvr, hve⟩ := hm2.now
            obtain ⟨u, hu, -⟩ := hve si hs4
            have g1 : wB.cell? ⟨gn, si, none⟩ = some u := by rw [hvr.cellAt _ (by omega)]; exact hu
            have g2 := hvr.frozenAt si
            have hm3 := hm2.setnow hs4 hbyt rfl
            have HM3 := hid hm3
            have hel' : d'.eps.length ≤ d.eps.length + 1 := by
              have h7 : d'.eps.length = d'.ab.length := by simp [Dk.ab]
              have h8 : d.eps.length = d.ab.length := by simp [Dk.ab]
              rw [h7, h8, hab']
              exact writeE_len _ _ _ _
            have HAW := hid (fun base h0 h1 => HA.out.write HM1.out.ok hn' hdur' hwr' hab' hopn' hs4 (padded_len zs) base h0 h1)
            clear hm2 hvr hve hu hm3 hbyt hokB hn' hdur' hwr' hab' hopn' hUB hgB kw
            cases o
            · obtain ⟨us, hus, hue⟩ := HM3.out.row
              have HUS := hid hus
              clear hus hue
              have HNW : Hid (∀ (j : Nat) (u : Value), [Value.slice none 0 0][j]? = some u → ((wB.setCell ⟨gn, si, none⟩ (.slice (some ⟨gz, 0, none⟩) 128 cz)).alloc (.cells #[.slice none 0 0] 42)).cell? ((⟨wB.heap.size, 0, none⟩ : Addr).add j) = some u) := by
                intro j u hj
                have h9 := heap_alloc_new (wB.setCell ⟨gn, si, none⟩ (.slice (some ⟨gz, 0, none⟩) 128 cz)) (.cells #[.slice none 0 0] 42)
                rw [show (wB.setCell ⟨gn, si, none⟩ (.slice (some ⟨gz, 0, none⟩) 128 cz)).heap.size = wB.heap.size by simp] at h9
                rw [Addr.add_lit, Nat.zero_add]
                exact heap_cells h9 j u (by simpa using hj)
              go_wp2_with (at_builtin; go_must (refine wpList_append_where rfl _ _ 50 rfl 42 i0 _ 1 24 Try.underlying50 hi0 hz0 hz1 hz2 rfl (by decide) _ (L + 1) us rfl (HUS.out.alloc _) ⟨wB.heap.size, 0, none⟩ 1 1 [.slice none 0 0] rfl rfl HNW.out (by simp [Value.oneCell']) (by unfold maxLen; omega) (by omega) ?_))
              intro vst' wD hO hU hN hW
              have hU4 := (Upd.alloc (fun x => (Value.slice (some ⟨gs, 0, none⟩) (L + 1) cs).ownBlock = some x) (wB.setCell ⟨gn, si, none⟩ (.slice (some ⟨gz, 0, none⟩) 128 cz)) (.cells #[.slice none 0 0] 42)).trans hU (fun _ _ h => h)
              have hW4 : vst'.ownBlock = (Value.slice (some ⟨gs, 0, none⟩) (L + 1) cs).ownBlock ∨ ∀ x, vst'.ownBlock = some x → (wB.setCell ⟨gn, si, none⟩ (.slice (some ⟨gz, 0, none⟩) 128 cz)).heap.size ≤ x := by
                rcases hW.out with h | h
                · exact .inl h
                · exact .inr fun x hx => Nat.le_trans (by simp) (h x hx)
              have hm4 := HM3.out.grow hU4 hW4 (us' := [.slice none 0 0]) (fun us2 h2 => by rw [own_unique h2 HUS.out]; exact hO.out)
              obtain ⟨as', cs', hvs', hcs1', hcs2'⟩ := own_shape hO.out
              subst hvs'
              obtain ⟨gs', rfl⟩ : ∃ gs', as' = some ⟨gs', 0, none⟩ := by
                rcases hO.out.2 with ⟨_, h⟩ | ⟨g, c, cur, h, _⟩
                · omega
                · injection h with h1 h2 h3; exact ⟨g, h1⟩
              have kp := hid (pimage_any _ 4 _ _ _ wD hm4.now (by omega) (fun x hx => by rcases List.mem_append.1 hx with h | h; exact hm4.lt x h; exact (hm4.xs x h).1))
              have HM4 := hid hm4
              have hul : us.length = L + 1 := by have := HUS.out.1; omega
              clear hm4 hU4 hW4 hU hW hN
              go_wp2_with fail
              refine kp.out.mono ?_
              rintro r wE ⟨v6, rfl, hp6, hv6, hb6⟩
              obtain ⟨k6, c6, rfl⟩ : ∃ k6 c6, v6 = .slice (some ⟨k6, 0, none⟩) 4 c6 := by
                rcases hp6.choose_spec.1.2 with ⟨_, h⟩ | ⟨g, c, cur, h, _⟩
                · omega
                · exact ⟨g, c, h⟩
              have hk6 := hv6 k6 rfl
              have hk6l : k6 < wE.heap.size := (hp6.choose_spec.1.lt k6 rfl).2
              have hm5 := HM4.out.quiet hb6 [k6] (fun y hy => by simp at hy; subst hy; exact ⟨hk6, hk6l⟩)
              have hdk := hid (HM4.out.fresh hb6 k6 hk6)
              have k1 : wE.cell? ⟨gs', L + 1, none⟩ = some (.slice none 0 0) := by
                rw [(own_below hO.out hb6).cellAt _ (by omega), List.getElem?_append_right (by omega), hul]
                simp
              have k2 := (own_below hO.out hb6).frozenAt (L + 1)
              have hm6 := hm5.setst (gs := gs') (cs := cs') rfl (by rw [HLL.out]) (hp6.weaken (fun x hx => by simp only [List.mem_append, List.mem_singleton] at hx ⊢; rcases hx with h | h | h; exact .inr (.inl h); exact .inr (.inr h); exact .inl (by simp [vb, Value.ownBlock, h]))) (k' := k6) rfl (by simp) rfl hdk.out
              rw [HLL.out] at hm6
              have HM6 := hid hm6
              clear hm5 hm6 hp6 hv6 hk6 hk6l kp
              go_wp2_with fail
              go_roundw
              case rel =>
                refine ⟨i + 1, d', _, _, true, X ++ [k6], rfl, by go_num, by omega, ?_, HAW.out sts (fun _ => rfl) (fun h => by cases h), by omega⟩
                rw [List.length_append, HLL.out]
                exact HM6.out
              case measure => simp [intOf]; omega
            · have hm4 := HM3.out.forget (sts.length - 1)
              have htl : (sts.take (sts.length - 1)).length = L := by have := HLL.out; simp; omega
              have kp := hid (pimage_any _ 4 _ _ _ _ hm4.now (by omega) (fun x hx => by rcases List.mem_append.1 hx with h | h; exact hm4.lt x h; exact (hm4.xs x h).1))
              obtain ⟨us, hus, hue⟩ := hm4.row
              have HUS := hid hus
              have HM4 := hid hm4
              have hul : us.length = L + 1 := by have := hus.1; omega
              have HT := hid htl
              clear hm4 hus hue htl
              go_wp2_with fail
              refine kp.out.mono ?_
              rintro r wE ⟨v6, rfl, hp6, hv6, hb6⟩
              obtain ⟨k6, c6, rfl⟩ : ∃ k6 c6, v6 = .slice (some ⟨k6, 0, none⟩) 4 c6 := by
                rcases hp6.choose_spec.1.2 with ⟨_, h⟩ | ⟨g, c, cur, h, _⟩
                · omega
                · exact ⟨g, c, h⟩
              have hk6 := hv6 k6 rfl
              have hk6l : k6 < wE.heap.size := (hp6.choose_spec.1.lt k6 rfl).2
              have hm5 := HM4.out.quiet hb6 [k6] (fun y hy => by simp at hy; subst hy; exact ⟨hk6, hk6l⟩)
              have hdk := hid (HM4.out.fresh hb6 k6 hk6)
              obtain ⟨u8, hu8⟩ : ∃ u8, us[L]? = some u8 := ⟨_, List.getElem?_eq_getElem (by omega)⟩
              have k1 : wE.cell? ⟨gs, L, none⟩ = some u8 := by
                rw [(own_below HUS.out hb6).cellAt _ (by omega)]
                exact hu8
              have k2 := (own_below HUS.out hb6).frozenAt L
              have hm6 := hm5.setst (gs := gs) (cs := cs) rfl (by rw [HT.out]) (hp6.weaken (fun x hx => by simp only [List.mem_append, List.mem_singleton] at hx ⊢; rcases hx with h | h | h; exact .inr (.inl h); exact .inr (.inr h); exact .inl (by simp [vb, Value.ownBlock, h]))) (k' := k6) rfl (by simp) rfl hdk.out
              rw [HT.out] at hm6
              have HM6 := hid hm6
              clear hm5 hm6 hp6 hv6 hk6 hk6l kp hu8
              go_wp2_with fail
              go_roundw
              case rel =>
                refine ⟨i + 1, d', _, _, true, X ++ [k6], rfl, by go_num, by omega, ?_, HAW.out (sts.take (sts.length - 1)) (fun h => by cases h) (fun _ => rfl), by omega⟩
                rw [List.length_append, HT.out]
                exact HM6.out
              case measure => simp [intOf]; omega
    · obtain rfl : i = ll := by omega
      go_wp2_with fail
      go_ret2
      exact ⟨p, gn, d, _, fnow, sts, o, X, rfl, by rw [HLL.out]; exact HM.out, HA.out, hep⟩

end Go.Proofs.Ytnfkkhglooehfaa
