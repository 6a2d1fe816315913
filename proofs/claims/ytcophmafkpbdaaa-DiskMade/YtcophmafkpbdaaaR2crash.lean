/- What the document's Crash does. -/
import Derived.Test.YtcophmafkpbdaaaR2kf
import Derived.Test.YtcophmafkpbdaaaR2new
import Derived.Deep.RegionHeld3
namespace Go.Proofs.Ytcophmafkpbdaaa
open Go.RowKit
set_option linter.unusedVariables false

def Rcr (w : World) (x : Rk) (q : Nat) (M : List Nat) (k : Nat) (nx : List (Nat × List Int)) (zs : List Int) (t : Int) (e : Ending) (w' : World) : Prop :=
  (¬ Gd nx zs ∧ e = .returned (.int .i64 20) ∧ Below w.heap.size w w') ∨ (Gd nx zs ∧ t < 0 ∧ e = .returned (.int .i64 1) ∧ Below w.heap.size w w') ∨
  (Gd nx zs ∧ 0 ≤ t ∧ e = .returned (.int .i64 0) ∧ ∃ x' : Rk, x'.ok w' q M ∧ x'.n = x.n ∧ x'.gB = x.gB ∧ x'.f = kf nx (mxz zs) t (over x.f (x.E.take k)) zs ∧ x'.E = [] ∧ x'.sl = false ∧ Upd (fun b => b = q ∨ b = x.gB) w w' ∧ x'.aE = none)

theorem src_take {w : World} {a : Addr} {n m : Nat} {zs : List Int} (h : Src w (some a) n zs) (hm : m ≤ n) : Src w (some a) m (zs.take m) := by
  refine ⟨by simp [h.1]; omega, fun h0 => ?_⟩
  obtain ⟨b, o, e, hl, hc⟩ := h.2 (by omega)
  refine ⟨b, o, e, hl, fun j hj => ?_⟩
  rw [hc j (by omega)]
  have := h.1
  simp [List.getD, hj]

theorem src_drop_cells {w : World} {b o n m : Nat} {zs : List Int} (h : Src w (some ⟨b, o, none⟩) n zs) (hm : m < n) : ∀ j u, ((zs.drop m).map (Value.int .u8))[j]? = some u → w.cell? ((⟨b, o + m, none⟩ : Addr).add j) = some u := by
  intro j u hj
  obtain ⟨b', o', e, hl, hc⟩ := h.2 (by omega)
  injection e with e
  injection e with e1 e2
  subst e1
  subst e2
  have hl2 := h.1
  have hjl : j < ((zs.drop m).map (Value.int .u8)).length := (List.getElem?_eq_some_iff.1 hj).1
  simp at hjl
  rw [Addr.add_lit, Nat.add_assoc, hc (m + j) (by omega), ← hj]
  simp [List.getD, List.getElem?_drop, List.getElem?_eq_getElem (show m + j < zs.length by omega)]

theorem cutf_yes {t : Int} {bs old : List Int} {G S : Int} {T : Nat} (h1 : S = G) (h2 : t < 128) (hT : t = (T : Int)) : cutf t bs old G S = bs.take T ++ old.drop T := by
  subst hT
  rw [cutf, if_pos ⟨h1, h2⟩]
  rfl
theorem cutf_no {t : Int} {bs old : List Int} {G S : Int} (h : ¬ (S = G ∧ t < 128)) : cutf t bs old G S = bs := by rw [cutf, if_neg h]

set_option maxHeartbeats 8000000 in
set_option maxRecDepth 20000 in
theorem rcrash_any (x : Rk) (q k : Nat) (M : List Nat) (t : Int) (kk : Option Addr) (kn kc : Nat) (zs : List Int) (nx : List (Nat × List Int)) (w : World) (h : x.ok w q M) (hM : ∀ y ∈ M, y < w.heap.size) (hk : k ≤ x.E.length) (hnx : nx = (x.E[k]?).getD [])
    (hr : ∀ (a b : Nat) (hab : a < b) (h : b < nx.length), (nx[a]'(by omega)).1 < nx[b].1) (hz : IntsZ w kk zs) (hkn : zs.length = kn) (hkc : kn ≤ kc) (hkc2 : kc ≤ 9223372036854775807) (hkM : 0 < zs.length → ∀ b o, kk = some ⟨b, o, none⟩ → b ∉ M) (ht2 : t ≤ 9223372036854775807) :
    Calls Try.prog 34 #[.pointer (some ⟨q, 0, none⟩), .int .i64 k, .slice kk kn kc, .int .i64 t] w (Rcr w x q M k nx zs t) := by
  obtain ⟨i5, hi5, hy0, hy1, hy2⟩ := info_parts Try.pinfo5
  obtain ⟨c0, c1, c2⟩ := h.cell
  obtain ⟨m, gm⟩ : ∃ m, m = x.E.length := ⟨_, rfl⟩
  have hcE := h.er.2.1
  have hcE2 := h.er.2.2.1
  have hnd := h.nodup
  simp only [Rk.foot, List.nodup_cons, List.mem_cons, not_or] at hnd
  have hqB : q ≠ x.gB := hnd.1.1
  have hgBM : x.gB ∈ M := h.inM _ (by simp [Rk.foot])
  have hqM : q ∈ M := h.inM _ (by simp [Rk.foot])
  have hsecs : ∀ s ∈ nx, s.1 < x.n := fun s hs => by
    rw [hnx] at hs
    cases e : x.E[k]? with
    | none => rw [e] at hs; simp at hs
    | some es => rw [e] at hs; exact h.secs es (List.mem_of_getElem? e) s hs
  obtain ⟨aN, cN, hN1, hN2, hW, hcase⟩ : ∃ (aN : Option Addr) (cN : Nat), nx.length ≤ cN ∧ cN ≤ 9223372036854775807 ∧ Wrm w M aN nx ∧ ((k < x.E.length ∧ ∃ b o, x.aE = some ⟨b, o, none⟩ ∧ w.cell? ⟨b, o + k, none⟩ = some (.slice aN nx.length cN)) ∨ (k = x.E.length ∧ aN = none ∧ nx.length = 0 ∧ cN = 0)) := by
    by_cases hlt : k < x.E.length
    · obtain ⟨b, o, aa, ca, e1, hbl, x0, x1, x2, x3⟩ := h.at k hlt
      have e : nx = x.E[k] := by rw [hnx, List.getElem?_eq_getElem hlt]; rfl
      rw [← e] at x0 x1 x3
      exact ⟨aa, ca, x1, x2, x3, .inl ⟨hlt, b, o, e1, x0⟩⟩
    · have e : nx = [] := by rw [hnx, List.getElem?_eq_none (by omega)]; rfl
      exact ⟨none, 0, by simp [e], by omega, fun hp => by simp [e] at hp, .inr ⟨by omega, rfl, by simp [e], rfl⟩⟩
  obtain ⟨N, gN⟩ : ∃ N, N = nx.length := ⟨_, rfl⟩
  obtain ⟨aE, gaE⟩ : ∃ aE, aE = x.aE := ⟨_, rfl⟩
  obtain ⟨cE, gcE⟩ : ∃ cE, cE = x.cE := ⟨_, rfl⟩
  obtain ⟨n0, gn0⟩ : ∃ n, n = x.n := ⟨_, rfl⟩
  rw [← gm, ← gaE] at hcase
  rw [← gN] at hN1 hcase
  rw [← gm] at c1 hcE hk
  rw [← gaE, ← gcE] at c1
  rw [← gcE] at hcE hcE2
  have HX := hid h
  have HM := hid hM
  have HW := hid hW
  have HSC := hid hsecs
  have HZ := hid hz
  have HKM := hid hkM
  have HR := hid hr
  have GN := hid gN
  have GM := hid gm
  have GA := hid gaE
  have GE := hid gcE
  have HKN := hid hkn
  have HNX := hid hnx
  have HBM := hid hgBM
  have HQM := hid hqM
  have HQB := hid hqB
  have hql : q < w.heap.size := hM q hqM
  clear h hM hW hsecs hz hkM hr gN gm gaE gcE hkn hnd hgBM hqM hqB hnx gn0 c0 c2
  have k0 : ¬ (k : Int) < 0 := by omega
  have k1 : ¬ (m : Int) < (k : Int) := by omega
  rcases hcase with ⟨hkm, bE, oE, rfl, cq⟩ | ⟨hkm, rfl, hN0, rfl⟩
  · have hkm2 : (k : Int) < (m : Int) := by omega
    have ck0 : (0 : Int) ≤ (k : Int) := by omega
    have kd0 : Hid True := trivial
    go_enter Try.func34, Try.ntmps34
    go_wp2_with fail
    go_loopw [10, 45] (fun g u wr => ∃ i : Nat, u = .int .i64 i ∧ i ≤ kn ∧ g = .int .i64 (mxz (zs.take i)) ∧ Hid (Gd nx (zs.take i)) ∧ Hid (Below w.heap.size w wr)) (fun _ u _ => kn - (intOf u).toNat)
    case atStart => exact ⟨0, rfl, Nat.zero_le _, rfl, hid (Gd.nil nx), hid (Below.refl _ _)⟩
    case round =>
      obtain ⟨i, rfl, hi, rfl, HG, HB⟩ := hrel
      by_cases hlt : i < kn
      · have hil : i < zs.length := by rw [HKN.out]; exact hlt
        obtain ⟨b, o, e1, hbl, hc⟩ := HZ.out (by omega)
        subst e1
        have z0 := (HB.out.cell (p := ⟨b, o + i, none⟩) hbl).trans (hc i hil)
        have HC := hid hc
        have kp := hid (rplace nx N aN cN zs[i] wr GN.out.symm ((HW.out.wrs).below HB.out) hN1 hN2)
        obtain ⟨Z, gZ⟩ : ∃ Z, Z = zs[i] := ⟨_, rfl⟩
        rw [← gZ] at z0 kp
        have hms := mxz_snoc zs i hil
        rw [← gZ] at hms
        obtain ⟨G0, gG0⟩ : ∃ G0, G0 = mxz (zs.take i) := ⟨_, rfl⟩
        rw [← gG0] at hms ⊢
        have HMS := hid hms
        have GZ := hid gZ
        clear hc hms gZ gG0
        go_wp2_with fail
        refine kp.out.mono ?_
        rintro r w2 ⟨R, rfl, hpl, hb2⟩
        have HB2 := hid (HB.out.trans (hb2.mono HB.out.size))
        clear hb2 z0
        rcases hpl with ⟨rfl, hno⟩ | ⟨j, rfl, hj, hje⟩
        · have HNO := hid hno
          clear hno
          go_wp2_with fail
          go_ret
          exact .inl ⟨Gd.not_in hil (by rw [← GZ.out]; exact HNO.out), rfl, HB2.out⟩
        · have hin : ∃ s ∈ nx, (s.1 : Int) = zs[i] := ⟨nx[j], List.getElem_mem hj, by rw [← GZ.out]; exact hje⟩
          have HIN := hid hin
          have j0 : ¬ (j : Int) < 0 := by omega
          clear hin hje
          have hic : (i : Int) ≤ (kc : Int) := by omega
          go_wp2_with fail
          rename World => wo
          go_loopw [58] (fun u wr => ∃ y : Nat, u = .int .i64 y ∧ y ≤ i ∧ Hid (∀ j, ∀ hj : j < y, ∀ hl : j < zs.length, zs[j] ≠ Z) ∧ Hid (Below w.heap.size w wr)) (fun u _ => i - (intOf u).toNat)
          case atStart => exact ⟨0, rfl, Nat.zero_le _, hid (fun j hj => absurd hj (Nat.not_lt_zero j)), HB2⟩
          case round =>
            obtain ⟨y, rfl, hy, HNE, HB3⟩ := hrel
            by_cases hyl : y < i
            · have y0 := (HB3.out.cell (p := ⟨b, o + y, none⟩) hbl).trans (HC.out y (by omega))
              by_cases hyz : zs[y] = Z
              · have HYZ := hid hyz
                rw [hyz] at y0
                clear hyz
                go_wp2_with fail
                go_ret
                exact .inl ⟨Gd.not_twice hil hyl (by rw [HYZ.out, GZ.out]), rfl, HB3.out⟩
              · have hnx : ∀ j, ∀ hj : j < y + 1, ∀ hl : j < zs.length, zs[j] ≠ Z := fun j hj hl => by
                  rcases (show j < y ∨ j = y by omega) with h | rfl
                  · exact HNE.out j h hl
                  · exact hyz
                have HNX2 := hid hnx
                obtain ⟨Y, gY⟩ : ∃ Y, Y = zs[y] := ⟨_, rfl⟩
                rw [← gY] at y0 hyz
                clear hnx gY
                go_wp2_with fail
                go_roundw
                case rel => exact ⟨y + 1, by go_num, by omega, HNX2, HB3⟩
                case measure => simp [intOf]; omega
            · obtain rfl : y = i := by omega
              have hg' : Gd nx (zs.take (y + 1)) := HG.out.snoc hil HIN.out (fun j hj e => HNE.out j hj (by omega) (e.trans GZ.out.symm))
              have HG' := hid hg'
              clear hg'
              have hmx : (if G0 < Z then Z else G0) = mxz (zs.take (y + 1)) := by rw [HMS.out]; split <;> omega
              go_wp2_with fail
              go_roundw
              case rel => exact ⟨y + 1, by go_num, by omega, by first | rfl | rw [← hmx], HG', HB3⟩
              case measure => simp [intOf]; omega
      · obtain rfl : i = kn := by omega
        have htk : zs.take i = zs := List.take_of_length_le (by rw [HKN.out]; exact Nat.le_refl _)
        have hgd : Gd nx zs := by have := HG.out; rwa [htk] at this
        obtain ⟨G, gG⟩ : ∃ G, G = mxz (zs.take i) := ⟨_, rfl⟩
        rw [← gG]
        have GG : Hid (G = mxz zs) := hid (by rw [gG, htk])
        have HGD := hid hgd
        have hwz := HB.out.size
        clear gG hgd HG htk
        by_cases ht : t < 0
        · go_wp2_with fail
          go_ret
          exact .inr (.inl ⟨HGD.out, ht, rfl, HB.out⟩)
        · obtain ⟨T, rfl⟩ : ∃ T : Nat, t = (T : Int) := ⟨t.toNat, by omega⟩
          have kd := hid (rdone x q k M wr (HX.out.move (Upd.of_below (F := fun _ => False) ((HB.out.mono (Nat.le_refl _)))) (fun _ _ h => h.elim) (fun _ _ h => h)) (fun y hy => Nat.lt_of_lt_of_le (HM.out y hy) hwz) (by rw [← GM.out]; exact hk))
          clear ht
          go_wp2_with fail
          refine kd.out.mono ?_
          rintro r w3 ⟨rfl, x', hok', hn', hf', hE', hsl', hvs', hgB', hU', -⟩
          obtain ⟨gB, ggB⟩ : ∃ gB, gB = x'.gB := ⟨_, rfl⟩
          obtain ⟨cB, gcB⟩ : ∃ cB, cB = x'.cB := ⟨_, rfl⟩
          obtain ⟨n, gn⟩ : ∃ n, n = x'.n := ⟨_, rfl⟩
          obtain ⟨base, gbs⟩ : ∃ base, base = over x.f (x.E.take k) := ⟨_, rfl⟩
          have d0 := hok'.cell.1
          have hd0 : Dn w3 w3 M gB n cB (kf nx G T base (zs.take 0)) := by
            rw [ggB, gn, gcB, List.take_zero, kf_nil, gbs, ← hf']
            exact ⟨hok'.B, Upd.refl _ _⟩
          rw [← ggB, ← gn, ← gcB] at d0
          have hqg : q ≠ gB := by rw [ggB, hgB']; exact HQB.out
          have hgM : gB ∈ M := by rw [ggB, hgB']; exact HBM.out
          have hgl : gB < w3.heap.size := Nat.lt_of_lt_of_le (HM.out _ hgM) (Nat.le_trans hwz hU'.size)
          have hql3 : q < w3.heap.size := Nat.lt_of_lt_of_le hql (Nat.le_trans hwz hU'.size)
          have hU13 : Upd (· ∈ M) w w3 := (Upd.of_below (F := (· ∈ M)) HB.out).trans hU' (fun b _ hb => by rcases hb with rfl | rfl; exact HQM.out; exact HBM.out)
          have hW3 : Wrm w3 M aN nx := HW.out.upd hU13 (grew_refl _ _)
          have hM3 : ∀ y ∈ M, y < w3.heap.size := fun y hy => Nat.lt_of_lt_of_le (HM.out y hy) (Nat.le_trans hwz hU'.size)
          have hnn : n ≤ 2048 := by rw [gn]; exact hok'.n2
          have hsn : ∀ s ∈ nx, s.1 < n := fun s hs => by rw [gn, hn']; exact HSC.out s hs
          have HOK := hid hok'
          have HUB := hid hU'
          have HU13 := hid hU13
          have HW3 := hid hW3
          have HM3 := hid hM3
          have HSN := hid hsn
          have HD0 := hid hd0
          have GB := hid ggB
          have GC := hid gcB
          have GNn := hid gn
          have GS := hid gbs
          have HFX := hid (show x'.n = x.n ∧ x'.gB = x.gB from ⟨hn', hgB'⟩)
          have HGM := hid hgM
          clear hok' hn' hf' hE' hsl' hvs' hgB' hU' ggB gcB gn gbs hU13 hW3 hM3 hsn hd0 hgM kd
          go_wp2_with fail
          go_loopw [77] (fun u wr => ∃ j : Nat, u = .int .i64 j ∧ j ≤ i ∧ Hid (Dn w3 wr M gB n cB (kf nx G T base (zs.take j)))) (fun u _ => i - (intOf u).toNat)
          case atStart => exact ⟨0, rfl, Nat.zero_le _, HD0⟩
          case round =>
            obtain ⟨j, rfl, hj, HD⟩ := hrel
            by_cases hjl : j < i
            · have hjz : j < zs.length := by rw [HKN.out]; exact hjl
              obtain ⟨b, o, e1, hbl, hc⟩ := HZ.out (by omega)
              subst e1
              obtain ⟨s0, hs0, hse⟩ := HGD.out.2 zs[j] (List.getElem_mem hjz)
              obtain ⟨S, gS⟩ : ∃ S, S = s0.1 := ⟨_, rfl⟩
              rw [← gS] at hse
              have hS : S < n := by rw [gS]; exact HSN.out s0 hs0
              have hUM : Upd (· ∈ M) w3 wr := HD.out.upd.mono (fun y _ hy => by subst hy; exact HGM.out)
              have hbM := HKM.out (by omega) b o rfl
              have z1 : wr.cell? ⟨b, o + j, none⟩ = some (.int .i64 (S : Int)) := by
                rw [World.cell?_of_block (a := ⟨b, o + j, none⟩) (hUM.block b (Nat.lt_of_lt_of_le hbl HU13.out.size) hbM), World.cell?_of_block (a := ⟨b, o + j, none⟩) (HU13.out.block b hbl hbM), hc j hjz, hse]
              have hWr : Wrm wr M aN nx := HW3.out.upd hUM (grew_refl _ _)
              have kp := hid (rplace nx N aN cN (S : Int) wr GN.out.symm hWr.wrs hN1 hN2)
              have c0r : wr.cell? ⟨q, 0, none⟩ = some (.slice (some ⟨gB, 0, none⟩) n cB) := (World.cell?_of_block (a := ⟨q, 0, none⟩) (HD.out.upd.block q hql3 hqg)).trans d0
              obtain ⟨vs9, hr9, hj9⟩ := HD.out.pic
              obtain ⟨u9, hu9, a9, c9, rfl, hs9, hm9, hc9, hc9'⟩ := hj9 S hS
              have cs9 : wr.cell? ⟨gB, S, none⟩ = some (.slice (some a9) 128 c9) := by rw [hr9.cellAt _ (by omega)]; exact hu9
              have fs9 := hr9.frozenAt S
              have HWR := hid hWr
              have hwz3 := HD.out.upd.size
              have hsk : ∀ bs, look nx S = some bs → ∀ z, z < n → kf nx G T base (zs.take (j + 1)) z = if z = S then cutf T bs (kf nx G T base (zs.take j) S) G S else kf nx G T base (zs.take j) z := fun bs hb z _ => kf_snoc nx G T base zs j hjz S hse HGD.out.1 bs hb z
              have HSK := hid hsk
              have HS9 := hid hs9
              have HE := hid (show ∃ s ∈ nx, s.1 = S from ⟨s0, hs0, gS.symm⟩)
              obtain ⟨f0, gf0⟩ : ∃ f0, f0 = kf nx G T base (zs.take j) S := ⟨_, rfl⟩
              rw [← gf0] at HS9 HSK
              obtain ⟨b9, o9, e9, hb9, -⟩ := HS9.out.2 (by omega)
              injection e9 with e9
              subst e9
              clear hc hs9 hsk hWr hUM hj9 hr9 hu9 gS hse hs0 gf0 hm9
              have s0' : (0 : Int) ≤ (S : Int) := by omega
              have s1' : (S : Int) < (n : Int) := by omega
              go_wp2_with fail
              refine kp.out.mono ?_
              rintro r w4 ⟨R, rfl, hpl, hb4⟩
              obtain ⟨J, rfl, hJ, hJe⟩ : ∃ J : Nat, R = (J : Int) ∧ ∃ h : J < nx.length, nx[J].1 = S := by
                rcases hpl with ⟨rfl, hno⟩ | ⟨J, rfl, hJ, hJe⟩
                · obtain ⟨s, hs, e⟩ := HE.out
                  exact absurd (by rw [e]) (hno s hs)
                · exact ⟨J, rfl, hJ, by omega⟩
              have hJN : J < N := by rw [GN.out]; exact hJ
              obtain ⟨bN, oN, eN, hlN, hnm, hcN⟩ := HWR.out (by omega)
              subst eN
              obtain ⟨r0, u, r1, ab, cb, rfl, hsb, hab, hcb, hcb'⟩ := hcN J hJ
              have hlk := look_at HR.out J hJ
              rw [hJe] at hlk
              have hsk := HSK.out _ hlk
              obtain ⟨bs, gbs⟩ : ∃ bs, bs = nx[J].2 := ⟨_, rfl⟩
              rw [← gbs] at hsb hsk
              have t1 : w4.cell? ⟨bN, oN + J * 2 + 1, none⟩ = some (.slice (some ab) 128 cb) := (hb4.cell (p := ⟨bN, oN + J * 2 + 1, none⟩) hlN).trans r1
              have p0 : w4.cell? ⟨q, 0, none⟩ = some (.slice (some ⟨gB, 0, none⟩) n cB) := (hb4.cell (p := ⟨q, 0, none⟩) (by show q < _; omega)).trans c0r
              have hgr : gB < wr.heap.size := by omega
              have p1 : w4.cell? ⟨gB, S, none⟩ = some (.slice (some ⟨b9, o9, none⟩) 128 c9) := (hb4.cell (p := ⟨gB, S, none⟩) hgr).trans cs9
              have p2 : w4.frozen? ⟨gB, S, none⟩ = false := (hb4.frozen (p := ⟨gB, S, none⟩) hgr).trans fs9
              have j1 : (J : Int) < (N : Int) := by omega
              have j0 : (0 : Int) ≤ (J : Int) := by omega
              have HSB := hid (hsb.below hb4)
              have HS94 := hid (HS9.out.below hb4)
              have HB4 := hid hb4
              have HSK2 := hid hsk
              have hgr4 : gB < w4.heap.size := Nat.lt_of_lt_of_le hgr hb4.size
              have hq4 : q < w4.heap.size := Nat.lt_of_lt_of_le (show q < wr.heap.size by omega) hb4.size
              clear hcN r0 r1 hlk hsb hsk gbs hpl HE kp c0r cs9 fs9 z1 hab
              by_cases hGS : (S : Int) = G
              · subst hGS
                by_cases hT : (T : Int) < 128
                · have HCUT : Hid (cutf T bs f0 S S = bs.take T ++ f0.drop T) := hid (cutf_yes rfl hT rfl)
                  have tcb : (T : Int) ≤ (cb : Int) := by omega
                  have t0 : (0 : Int) ≤ (T : Int) := by omega
                  have tc9 : (T : Int) ≤ (c9 : Int) := by omega
                  have tc9' : ¬ (c9 : Int) = (T : Int) := by omega
                  have tc9n : ¬ c9 = T := by omega
                  have t128 : (T : Int) ≤ 128 := by omega
                  have ko := hid (own_any ab T cb (bs.take T) w4.drew ((src_take HSB.out (by omega)).below ((Below.refl _ w4).drew)) (by omega))
                  go_wp2_with fail
                  go_region_held3 (fun wx => wx.cell? ⟨q, 0, none⟩ = some (.slice (some ⟨gB, 0, none⟩) n cB) ∧ wx.cell? ⟨gB, S, none⟩ = some (.slice (some ⟨b9, o9, none⟩) 128 c9)) (go_keep) (first | (go_at_call 27; refine ko.out.mono ?_; rintro r w6 ⟨g6, c6, rfl, hown6, hb6⟩; have u0 : w6.cell? ⟨q, 0, none⟩ = some (.slice (some ⟨gB, 0, none⟩) n cB) := (hb6.cell (p := ⟨q, 0, none⟩) hq4).trans p0; have u1 : w6.cell? ⟨gB, S, none⟩ = some (.slice (some ⟨b9, o9, none⟩) 128 c9) := (hb6.cell (p := ⟨gB, S, none⟩) hgr4).trans p1; have u2 : w6.frozen? ⟨gB, S, none⟩ = false := (hb6.frozen (p := ⟨gB, S, none⟩) hgr4).trans p2; have hs6 : Src w6 (some ⟨b9, o9, none⟩) 128 f0 := HS94.out.below (show Below w4.heap.size w4 w6 from ⟨hb6.os, hb6.tape, hb6.output, hb6.size, hb6.block⟩); obtain ⟨v7, w7, hr7, ho7, hg7, _, hw7⟩ := run_append_where (P := Try.prog) w6 35 35 5 i5 _ 1 1 Try.underlying35 hi5 hy0 hy1 hy2 rfl (by decide) (.slice (some ⟨g6, 0, none⟩) T c6) T _ (own_base hown6 (Nat.zero_le _)) ⟨b9, o9 + T, none⟩ (128 - T) (c9 - T) ((f0.drop T).map (Value.int .u8)) (by have := HS9.out.1; simp; omega) (src_drop_cells hs6 (by omega)) (u8_one _) (by unfold maxLen; omega) (by omega); have hl6 := hown6.lt g6 rfl; have hug := Upd.of_grown hg7; have hb67 : Below w4.heap.size w6 w7 := hug.below hb6.size (fun y hy => by simp [Value.ownBlock] at hy; subst hy; exact hl6.1); have v0 : w7.cell? ⟨q, 0, none⟩ = some (.slice (some ⟨gB, 0, none⟩) n cB) := (hb67.cell (p := ⟨q, 0, none⟩) hq4).trans u0; have v1 : w7.cell? ⟨gB, S, none⟩ = some (.slice (some ⟨b9, o9, none⟩) 128 c9) := (hb67.cell (p := ⟨gB, S, none⟩) hgr4).trans u1; have v2 : w7.frozen? ⟨gB, S, none⟩ = false := (hb67.frozen (p := ⟨gB, S, none⟩) hgr4).trans u2; have HB7 : Hid (Below w4.heap.size w4 w7) := hid ((show Below w4.heap.size w4 w6 from ⟨hb6.os, hb6.tape, hb6.output, hb6.size, hb6.block⟩).trans hb67); have HO7 := hid ho7; have HR7 := hid hr7; clear hb67 hug ho7 hg7 hw7 hs6 hown6 hb6 hl6) | (refine step_append_is (by rfl) _ _ 35 35 (by rfl) _ _ (by simp [Act.eval]) (by simp [Act.eval]) hr7 ?_))
                  have ho7 := HO7.out
                  rw [show T + (128 - T) = 128 by omega, ← List.map_append] at ho7
                  obtain ⟨a7, c7, e7, hc7, hc7'⟩ := own_shape ho7
                  subst e7
                  obtain ⟨g7, rfl⟩ : ∃ g7, a7 = some ⟨g7, 0, none⟩ := by
                    rcases ho7.2 with ⟨_, h⟩ | ⟨g, c, cur, h, _⟩
                    · omega
                    · injection h with h1 h2 h3; exact ⟨g, h1⟩
                  have HS7 := hid (Src.own ho7)
                  have HBW : Hid (Below wr.heap.size wr w7) := hid (HB4.out.trans (HB7.out.mono HB4.out.size))
                  have hq7 : q < w7.heap.size := Nat.lt_of_lt_of_le hq4 HB7.out.size
                  have hgr7 : gB < w7.heap.size := Nat.lt_of_lt_of_le hgr4 HB7.out.size
                  clear hr7 HR7 u0 u1 u2 ho7 hc7 hc7'
                  have kb := hid (own_any ⟨g7, 0, none⟩ 128 c7 (bs.take T ++ f0.drop T) w7.drew (HS7.out.below ((Below.refl _ w7).drew)) (by omega))
                  go_wp2_with fail
                  go_region_held3 (fun wx => wx.cell? ⟨q, 0, none⟩ = some (.slice (some ⟨gB, 0, none⟩) n cB)) (first | go_keep | (refine (cell_setCell_block _ _ _ _ _ hqg).trans ?_; go_keep)) (first | (go_at_call 27; refine kb.out.mono ?_; rintro r w5 ⟨gb, cb5, rfl, hown5, hb5⟩; have HO5 := hid hown5; have s0 : w5.cell? ⟨q, 0, none⟩ = some (.slice (some ⟨gB, 0, none⟩) n cB) := (hb5.cell (p := ⟨q, 0, none⟩) (by show q < w7.heap.size; omega)).trans v0; have s3 : w5.cell? ⟨gB, S, none⟩ = some (.slice (some ⟨b9, o9, none⟩) 128 c9) := (hb5.cell (p := ⟨gB, S, none⟩) (by show gB < w7.heap.size; omega)).trans v1; have s4 : w5.frozen? ⟨gB, S, none⟩ = false := (hb5.frozen (p := ⟨gB, S, none⟩) (by show gB < w7.heap.size; omega)).trans v2; have HB5 := hid hb5; clear hown5 hb5))
                  go_wp2_with fail
                  go_roundw
                  case rel =>
                    have hb45 : Below wr.heap.size wr w5 := HBW.out.trans ((show Below w7.heap.size w7 w5 from ⟨HB5.out.os, HB5.out.tape, HB5.out.output, HB5.out.size, HB5.out.block⟩).mono HBW.out.size)
                    have hgbl := HO5.out.lt gb rfl
                    refine ⟨j + 1, by go_num, by omega, hid (HD.out.step HGM.out hb45 hS ⟨⟨gb, 0, none⟩, cb5, rfl, Src.own HO5.out, fun hx => ?_, own_cap HO5.out⟩ (by intro z hz; have h := HSK2.out z hz; rw [HCUT.out] at h; exact h))⟩
                    have h6 := hgbl.1
                    have h7 := HM3.out gb hx
                    have h8 := HBW.out.size
                    simp at h6
                    omega
                  case measure => simp [intOf]; omega
                · have HCUT : Hid (cutf T bs f0 S S = bs) := hid (cutf_no (fun h => hT h.2))
                  have kb := hid (own_any ab 128 cb bs w4.drew (HSB.out.below ((Below.refl _ w4).drew)) (by omega))
                  go_wp2_with fail
                  go_region_held3 (fun wx => wx.cell? ⟨q, 0, none⟩ = some (.slice (some ⟨gB, 0, none⟩) n cB)) (first | go_keep | (refine (cell_setCell_block _ _ _ _ _ hqg).trans ?_; go_keep)) (first | (go_at_call 27; refine kb.out.mono ?_; rintro r w5 ⟨gb, cb5, rfl, hown5, hb5⟩; have HO5 := hid hown5; have s0 : w5.cell? ⟨q, 0, none⟩ = some (.slice (some ⟨gB, 0, none⟩) n cB) := (hb5.cell (p := ⟨q, 0, none⟩) (by show q < w4.heap.size; omega)).trans p0; have s3 : w5.cell? ⟨gB, S, none⟩ = some (.slice (some ⟨b9, o9, none⟩) 128 c9) := (hb5.cell (p := ⟨gB, S, none⟩) (by show gB < w4.heap.size; omega)).trans p1; have s4 : w5.frozen? ⟨gB, S, none⟩ = false := (hb5.frozen (p := ⟨gB, S, none⟩) (by show gB < w4.heap.size; omega)).trans p2; have HB5 := hid hb5; clear hown5 hb5))
                  go_wp2_with fail
                  go_roundw
                  case rel =>
                    have hb45 : Below wr.heap.size wr w5 := HB4.out.trans ((show Below w4.heap.size w4 w5 from ⟨HB5.out.os, HB5.out.tape, HB5.out.output, HB5.out.size, HB5.out.block⟩).mono HB4.out.size)
                    have hgbl := HO5.out.lt gb rfl
                    refine ⟨j + 1, by go_num, by omega, hid (HD.out.step HGM.out hb45 hS ⟨⟨gb, 0, none⟩, cb5, rfl, Src.own HO5.out, fun hx => ?_, own_cap HO5.out⟩ (by intro z hz; have h := HSK2.out z hz; rw [HCUT.out] at h; exact h))⟩
                    have h6 := hgbl.1
                    have h7 := HM3.out gb hx
                    have h8 := HB4.out.size
                    simp at h6
                    omega
                  case measure => simp [intOf]; omega
              · have HCUT : Hid (cutf T bs f0 G S = bs) := hid (cutf_no (fun h => hGS h.1))
                have kb := hid (own_any ab 128 cb bs w4.drew (HSB.out.below ((Below.refl _ w4).drew)) (by omega))
                go_wp2_with fail
                go_region_held3 (fun wx => wx.cell? ⟨q, 0, none⟩ = some (.slice (some ⟨gB, 0, none⟩) n cB)) (first | go_keep | (refine (cell_setCell_block _ _ _ _ _ hqg).trans ?_; go_keep)) (first | (go_at_call 27; refine kb.out.mono ?_; rintro r w5 ⟨gb, cb5, rfl, hown5, hb5⟩; have HO5 := hid hown5; have s0 : w5.cell? ⟨q, 0, none⟩ = some (.slice (some ⟨gB, 0, none⟩) n cB) := (hb5.cell (p := ⟨q, 0, none⟩) (by show q < w4.heap.size; omega)).trans p0; have s3 : w5.cell? ⟨gB, S, none⟩ = some (.slice (some ⟨b9, o9, none⟩) 128 c9) := (hb5.cell (p := ⟨gB, S, none⟩) (by show gB < w4.heap.size; omega)).trans p1; have s4 : w5.frozen? ⟨gB, S, none⟩ = false := (hb5.frozen (p := ⟨gB, S, none⟩) (by show gB < w4.heap.size; omega)).trans p2; have HB5 := hid hb5; clear hown5 hb5))
                go_wp2_with fail
                go_roundw
                case rel =>
                  have hb45 : Below wr.heap.size wr w5 := HB4.out.trans ((show Below w4.heap.size w4 w5 from ⟨HB5.out.os, HB5.out.tape, HB5.out.output, HB5.out.size, HB5.out.block⟩).mono HB4.out.size)
                  have hgbl := HO5.out.lt gb rfl
                  refine ⟨j + 1, by go_num, by omega, hid (HD.out.step HGM.out hb45 hS ⟨⟨gb, 0, none⟩, cb5, rfl, Src.own HO5.out, fun hx => ?_, own_cap HO5.out⟩ (by intro z hz; have h := HSK2.out z hz; rw [HCUT.out] at h; exact h))⟩
                  have h6 := hgbl.1
                  have h7 := HM3.out gb hx
                  have h8 := HB4.out.size
                  simp at h6
                  omega
                case measure => simp [intOf]; omega
            · obtain rfl : j = i := by omega
              have htk : zs.take j = zs := List.take_of_length_le (by rw [HKN.out]; exact Nat.le_refl _)
              have c1r : wr.cell? ⟨q, 1, none⟩ = w3.cell? ⟨q, 1, none⟩ := World.cell?_of_block (a := ⟨q, 1, none⟩) (HD.out.upd.block q hql3 hqg)
              have c2r : wr.cell? ⟨q, 2, none⟩ = w3.cell? ⟨q, 2, none⟩ := World.cell?_of_block (a := ⟨q, 2, none⟩) (HD.out.upd.block q hql3 hqg)
              have f1r : wr.frozen? ⟨q, 1, none⟩ = false := by rw [World.frozen?_of_block (a := ⟨q, 1, none⟩) (HD.out.upd.block q hql3 hqg)]; exact HOK.out.frozen 1
              have f2r : wr.frozen? ⟨q, 2, none⟩ = false := by rw [World.frozen?_of_block (a := ⟨q, 2, none⟩) (HD.out.upd.block q hql3 hqg)]; exact HOK.out.frozen 2
              have hd : Dn w3 wr M x'.gB x'.n x'.cB (kf nx G T base zs) := by have := HD.out; rw [htk, GB.out, GNn.out, GC.out] at this; exact this
              have hS' := HOK.out.sect hd
              have d1 := hS'.cell.2.1
              have d2 := hS'.cell.2.2
              simp only at d1 d2
              obtain ⟨v1, gv1⟩ : ∃ v1, v1 = Value.slice x'.aE x'.E.length x'.cE := ⟨_, rfl⟩
              rw [← gv1] at d1
              obtain ⟨sb, gsb⟩ : ∃ sb, sb = x'.sl := ⟨_, rfl⟩
              rw [← gsb] at d2
              have HS' := hid hS'
              have HDU := hid hd.upd
              clear hd hS' c1r c2r htk gv1 gsb
              go_wp2_with fail
              go_ret
              have e1 := heap_setCell_same wr q 1 _ _ (.slice none 0 0) HS'.out.cells
              have e2 := heap_setCell_same _ q 2 _ _ (.bool false) e1
              have hT1 := HS'.out.turn ((Upd.setCell (F := fun k => k = q) wr ⟨q, 1, none⟩ (.slice none 0 0) rfl).trans (Upd.setCell (F := fun k => k = q) _ ⟨q, 2, none⟩ (.bool false) rfl) (fun _ _ h => h)) none 0 [] [] false (e2.trans rfl) ⟨rfl, Nat.le_refl _, show 0 ≤ 9223372036854775807 by omega, fun h => absurd h (Nat.lt_irrefl 0)⟩ (.inr rfl) (fun j hj => absurd hj (Nat.not_lt_zero j)) (fun e he => absurd he (by simp))
              refine .inr (.inr ⟨HGD.out, by omega, rfl, _, hT1, HFX.out.1, HFX.out.2, by rw [← GG.out, ← GS.out], rfl, rfl, ?_, rfl⟩)
              have hgx : gB = x.gB := GB.out.trans HFX.out.2
              exact (((Upd.of_below (F := fun b => b = q ∨ b = x.gB) HB.out).trans HUB.out (fun _ _ h => h)).trans HDU.out (fun b _ hb => .inr (hb.trans HFX.out.2))).trans ((Upd.setCell (F := fun k => k = q) wr ⟨q, 1, none⟩ (.slice none 0 0) rfl).trans (Upd.setCell (F := fun k => k = q) _ ⟨q, 2, none⟩ (.bool false) rfl) (fun _ _ h => h)) (fun _ _ h => .inl h)
  · have hkm2 : ¬ (k : Int) < (m : Int) := by omega
    have HN0 := hid hN0
    clear hkm hN0
    have kd0 : Hid True := trivial
    go_enter Try.func34, Try.ntmps34
    go_wp2_with fail
    go_loopw [10, 45] (fun g u wr => ∃ i : Nat, u = .int .i64 i ∧ i ≤ kn ∧ g = .int .i64 (mxz (zs.take i)) ∧ Hid (Gd nx (zs.take i)) ∧ Hid (Below w.heap.size w wr)) (fun _ u _ => kn - (intOf u).toNat)
    case atStart => exact ⟨0, rfl, Nat.zero_le _, rfl, hid (Gd.nil nx), hid (Below.refl _ _)⟩
    case round =>
      obtain ⟨i, rfl, hi, rfl, HG, HB⟩ := hrel
      by_cases hlt : i < kn
      · have hil : i < zs.length := by rw [HKN.out]; exact hlt
        obtain ⟨b, o, e1, hbl, hc⟩ := HZ.out (by omega)
        subst e1
        have z0 := (HB.out.cell (p := ⟨b, o + i, none⟩) hbl).trans (hc i hil)
        have HC := hid hc
        have kp := hid (rplace nx 0 none 0 zs[i] wr (by rw [← GN.out, HN0.out]) ((HW.out.wrs).below HB.out) (Nat.le_refl _) (by omega))
        obtain ⟨Z, gZ⟩ : ∃ Z, Z = zs[i] := ⟨_, rfl⟩
        rw [← gZ] at z0 kp
        have hms := mxz_snoc zs i hil
        rw [← gZ] at hms
        obtain ⟨G0, gG0⟩ : ∃ G0, G0 = mxz (zs.take i) := ⟨_, rfl⟩
        rw [← gG0] at hms ⊢
        have HMS := hid hms
        have GZ := hid gZ
        clear hc hms gZ gG0
        go_wp2_with fail
        refine kp.out.mono ?_
        rintro r w2 ⟨R, rfl, hpl, hb2⟩
        have HB2 := hid (HB.out.trans (hb2.mono HB.out.size))
        clear hb2 z0
        rcases hpl with ⟨rfl, hno⟩ | ⟨j, rfl, hj, hje⟩
        · have HNO := hid hno
          clear hno
          go_wp2_with fail
          go_ret
          exact .inl ⟨Gd.not_in hil (by rw [← GZ.out]; exact HNO.out), rfl, HB2.out⟩
        · exact absurd hj (by rw [← GN.out, HN0.out]; omega)
      · obtain rfl : i = kn := by omega
        have htk : zs.take i = zs := List.take_of_length_le (by rw [HKN.out]; exact Nat.le_refl _)
        have hgd : Gd nx zs := by have := HG.out; rwa [htk] at this
        obtain ⟨G, gG⟩ : ∃ G, G = mxz (zs.take i) := ⟨_, rfl⟩
        rw [← gG]
        have GG : Hid (G = mxz zs) := hid (by rw [gG, htk])
        have HGD := hid hgd
        have hwz := HB.out.size
        clear gG hgd HG htk
        by_cases ht : t < 0
        · go_wp2_with fail
          go_ret
          exact .inr (.inl ⟨HGD.out, ht, rfl, HB.out⟩)
        · obtain ⟨T, rfl⟩ : ∃ T : Nat, t = (T : Int) := ⟨t.toNat, by omega⟩
          have kd := hid (rdone x q k M wr (HX.out.move (Upd.of_below (F := fun _ => False) ((HB.out.mono (Nat.le_refl _)))) (fun _ _ h => h.elim) (fun _ _ h => h)) (fun y hy => Nat.lt_of_lt_of_le (HM.out y hy) hwz) (by rw [← GM.out]; exact hk))
          clear ht
          go_wp2_with fail
          refine kd.out.mono ?_
          rintro r w3 ⟨rfl, x', hok', hn', hf', hE', hsl', hvs', hgB', hU', -⟩
          obtain ⟨gB, ggB⟩ : ∃ gB, gB = x'.gB := ⟨_, rfl⟩
          obtain ⟨cB, gcB⟩ : ∃ cB, cB = x'.cB := ⟨_, rfl⟩
          obtain ⟨n, gn⟩ : ∃ n, n = x'.n := ⟨_, rfl⟩
          obtain ⟨base, gbs⟩ : ∃ base, base = over x.f (x.E.take k) := ⟨_, rfl⟩
          have d0 := hok'.cell.1
          have hd0 : Dn w3 w3 M gB n cB (kf nx G T base (zs.take 0)) := by
            rw [ggB, gn, gcB, List.take_zero, kf_nil, gbs, ← hf']
            exact ⟨hok'.B, Upd.refl _ _⟩
          rw [← ggB, ← gn, ← gcB] at d0
          have hqg : q ≠ gB := by rw [ggB, hgB']; exact HQB.out
          have hgM : gB ∈ M := by rw [ggB, hgB']; exact HBM.out
          have hgl : gB < w3.heap.size := Nat.lt_of_lt_of_le (HM.out _ hgM) (Nat.le_trans hwz hU'.size)
          have hql3 : q < w3.heap.size := Nat.lt_of_lt_of_le hql (Nat.le_trans hwz hU'.size)
          have hU13 : Upd (· ∈ M) w w3 := (Upd.of_below (F := (· ∈ M)) HB.out).trans hU' (fun b _ hb => by rcases hb with rfl | rfl; exact HQM.out; exact HBM.out)
          have hW3 : Wrm w3 M none nx := HW.out.upd hU13 (grew_refl _ _)
          have hM3 : ∀ y ∈ M, y < w3.heap.size := fun y hy => Nat.lt_of_lt_of_le (HM.out y hy) (Nat.le_trans hwz hU'.size)
          have hnn : n ≤ 2048 := by rw [gn]; exact hok'.n2
          have hsn : ∀ s ∈ nx, s.1 < n := fun s hs => by rw [gn, hn']; exact HSC.out s hs
          have HOK := hid hok'
          have HUB := hid hU'
          have HU13 := hid hU13
          have HW3 := hid hW3
          have HM3 := hid hM3
          have HSN := hid hsn
          have HD0 := hid hd0
          have GB := hid ggB
          have GC := hid gcB
          have GNn := hid gn
          have GS := hid gbs
          have HFX := hid (show x'.n = x.n ∧ x'.gB = x.gB from ⟨hn', hgB'⟩)
          have HGM := hid hgM
          clear hok' hn' hf' hE' hsl' hvs' hgB' hU' ggB gcB gn gbs hU13 hW3 hM3 hsn hd0 hgM kd
          go_wp2_with fail
          go_loopw [77] (fun u wr => ∃ j : Nat, u = .int .i64 j ∧ j ≤ i ∧ Hid (Dn w3 wr M gB n cB (kf nx G T base (zs.take j)))) (fun u _ => i - (intOf u).toNat)
          case atStart => exact ⟨0, rfl, Nat.zero_le _, HD0⟩
          case round =>
            obtain ⟨j, rfl, hj, HD⟩ := hrel
            by_cases hjl : j < i
            · have hjz : j < zs.length := by rw [HKN.out]; exact hjl
              obtain ⟨b, o, e1, hbl, hc⟩ := HZ.out (by omega)
              subst e1
              obtain ⟨s0, hs0, hse⟩ := HGD.out.2 zs[j] (List.getElem_mem hjz)
              obtain ⟨S, gS⟩ : ∃ S, S = s0.1 := ⟨_, rfl⟩
              rw [← gS] at hse
              have hS : S < n := by rw [gS]; exact HSN.out s0 hs0
              have hUM : Upd (· ∈ M) w3 wr := HD.out.upd.mono (fun y _ hy => by subst hy; exact HGM.out)
              have hbM := HKM.out (by omega) b o rfl
              have z1 : wr.cell? ⟨b, o + j, none⟩ = some (.int .i64 (S : Int)) := by
                rw [World.cell?_of_block (a := ⟨b, o + j, none⟩) (hUM.block b (Nat.lt_of_lt_of_le hbl HU13.out.size) hbM), World.cell?_of_block (a := ⟨b, o + j, none⟩) (HU13.out.block b hbl hbM), hc j hjz, hse]
              have hWr : Wrm wr M none nx := HW3.out.upd hUM (grew_refl _ _)
              have kp := hid (rplace nx 0 none 0 (S : Int) wr (by rw [← GN.out, HN0.out]) hWr.wrs (Nat.le_refl _) (by omega))
              have c0r : wr.cell? ⟨q, 0, none⟩ = some (.slice (some ⟨gB, 0, none⟩) n cB) := (World.cell?_of_block (a := ⟨q, 0, none⟩) (HD.out.upd.block q hql3 hqg)).trans d0
              obtain ⟨vs9, hr9, hj9⟩ := HD.out.pic
              obtain ⟨u9, hu9, a9, c9, rfl, hs9, hm9, hc9, hc9'⟩ := hj9 S hS
              have cs9 : wr.cell? ⟨gB, S, none⟩ = some (.slice (some a9) 128 c9) := by rw [hr9.cellAt _ (by omega)]; exact hu9
              have fs9 := hr9.frozenAt S
              have HWR := hid hWr
              have hwz3 := HD.out.upd.size
              have hsk : ∀ bs, look nx S = some bs → ∀ z, z < n → kf nx G T base (zs.take (j + 1)) z = if z = S then cutf T bs (kf nx G T base (zs.take j) S) G S else kf nx G T base (zs.take j) z := fun bs hb z _ => kf_snoc nx G T base zs j hjz S hse HGD.out.1 bs hb z
              have HSK := hid hsk
              have HS9 := hid hs9
              have HE := hid (show ∃ s ∈ nx, s.1 = S from ⟨s0, hs0, gS.symm⟩)
              obtain ⟨f0, gf0⟩ : ∃ f0, f0 = kf nx G T base (zs.take j) S := ⟨_, rfl⟩
              rw [← gf0] at HS9 HSK
              obtain ⟨b9, o9, e9, hb9, -⟩ := HS9.out.2 (by omega)
              injection e9 with e9
              subst e9
              clear hc hs9 hsk hWr hUM hj9 hr9 hu9 gS hse hs0 gf0 hm9
              have s0' : (0 : Int) ≤ (S : Int) := by omega
              have s1' : (S : Int) < (n : Int) := by omega
              exact absurd HE.out (by rintro ⟨s, hs, _⟩; have := List.length_pos_of_mem hs; rw [← GN.out, HN0.out] at this; omega)
            · obtain rfl : j = i := by omega
              have htk : zs.take j = zs := List.take_of_length_le (by rw [HKN.out]; exact Nat.le_refl _)
              have c1r : wr.cell? ⟨q, 1, none⟩ = w3.cell? ⟨q, 1, none⟩ := World.cell?_of_block (a := ⟨q, 1, none⟩) (HD.out.upd.block q hql3 hqg)
              have c2r : wr.cell? ⟨q, 2, none⟩ = w3.cell? ⟨q, 2, none⟩ := World.cell?_of_block (a := ⟨q, 2, none⟩) (HD.out.upd.block q hql3 hqg)
              have f1r : wr.frozen? ⟨q, 1, none⟩ = false := by rw [World.frozen?_of_block (a := ⟨q, 1, none⟩) (HD.out.upd.block q hql3 hqg)]; exact HOK.out.frozen 1
              have f2r : wr.frozen? ⟨q, 2, none⟩ = false := by rw [World.frozen?_of_block (a := ⟨q, 2, none⟩) (HD.out.upd.block q hql3 hqg)]; exact HOK.out.frozen 2
              have hd : Dn w3 wr M x'.gB x'.n x'.cB (kf nx G T base zs) := by have := HD.out; rw [htk, GB.out, GNn.out, GC.out] at this; exact this
              have hS' := HOK.out.sect hd
              have d1 := hS'.cell.2.1
              have d2 := hS'.cell.2.2
              simp only at d1 d2
              obtain ⟨v1, gv1⟩ : ∃ v1, v1 = Value.slice x'.aE x'.E.length x'.cE := ⟨_, rfl⟩
              rw [← gv1] at d1
              obtain ⟨sb, gsb⟩ : ∃ sb, sb = x'.sl := ⟨_, rfl⟩
              rw [← gsb] at d2
              have HS' := hid hS'
              have HDU := hid hd.upd
              clear hd hS' c1r c2r htk gv1 gsb
              go_wp2_with fail
              go_ret
              have e1 := heap_setCell_same wr q 1 _ _ (.slice none 0 0) HS'.out.cells
              have e2 := heap_setCell_same _ q 2 _ _ (.bool false) e1
              have hT1 := HS'.out.turn ((Upd.setCell (F := fun k => k = q) wr ⟨q, 1, none⟩ (.slice none 0 0) rfl).trans (Upd.setCell (F := fun k => k = q) _ ⟨q, 2, none⟩ (.bool false) rfl) (fun _ _ h => h)) none 0 [] [] false (e2.trans rfl) ⟨rfl, Nat.le_refl _, show 0 ≤ 9223372036854775807 by omega, fun h => absurd h (Nat.lt_irrefl 0)⟩ (.inr rfl) (fun j hj => absurd hj (Nat.not_lt_zero j)) (fun e he => absurd he (by simp))
              refine .inr (.inr ⟨HGD.out, by omega, rfl, _, hT1, HFX.out.1, HFX.out.2, by rw [← GG.out, ← GS.out], rfl, rfl, ?_, rfl⟩)
              have hgx : gB = x.gB := GB.out.trans HFX.out.2
              exact (((Upd.of_below (F := fun b => b = q ∨ b = x.gB) HB.out).trans HUB.out (fun _ _ h => h)).trans HDU.out (fun b _ hb => .inr (hb.trans HFX.out.2))).trans ((Upd.setCell (F := fun k => k = q) wr ⟨q, 1, none⟩ (.slice none 0 0) rfl).trans (Upd.setCell (F := fun k => k = q) _ ⟨q, 2, none⟩ (.bool false) rfl) (fun _ _ h => h)) (fun _ _ h => .inl h)

end Go.Proofs.Ytcophmafkpbdaaa
