/- What the document's done and Flush do. -/
import Derived.Test.YtcophmafkpbdaaaR2disk
import Derived.Deep.RegionHeld3
namespace Go.Proofs.Ytcophmafkpbdaaa
open Go.RowKit
set_option linter.unusedVariables false

/-- The disk's sectors as they turn. -/
structure Dn (w wr : World) (M : List Nat) (gB n cB : Nat) (f : Nat → List Int) : Prop where
  pic : Pic wr M (.slice (some ⟨gB, 0, none⟩) n cB) n f
  upd : Upd (fun b => b = gB) w wr

theorem Dn.step {w wr w5 : World} {M : List Nat} {gB n cB S gb cb : Nat} {f f' : Nat → List Int} {bs : List Int} (h : Dn w wr M gB n cB f) (hM : gB ∈ M) (hb : Below wr.heap.size wr w5) (hS : S < n) (hby : Byt w5 M (.slice (some ⟨gb, 0, none⟩) 128 cb) bs) (hf : ∀ i, i < n → f' i = if i = S then bs else f i) : Dn w (w5.setCell ⟨gB, S, none⟩ (.slice (some ⟨gb, 0, none⟩) 128 cb)) M gB n cB f' :=
  ⟨pic_put (pic_move (F := fun _ => False) h.pic (Upd.of_below hb) (fun _ _ h => h.elim) (fun _ _ h => h)) hM hS hby hf, (h.upd.trans (Upd.of_below (F := fun b => b = gB) hb) (fun _ _ h => h)).trans (Upd.setCell (F := fun b => b = gB) w5 ⟨gB, S, none⟩ _ rfl) (fun _ _ h => h)⟩

theorem Pic.len {w : World} {M : List Nat} {v : Value} {n i : Nat} {f : Nat → List Int} (h : Pic w M v n f) (hi : i < n) : (f i).length = 128 := by
  obtain ⟨vs, _, hj⟩ := h
  obtain ⟨u, _, a, c, _, hs, _⟩ := hj i hi
  exact hs.1

theorem Rk.ok.sect {x : Rk} {w wr : World} {q : Nat} {M : List Nat} {f' : Nat → List Int} (h : x.ok w q M) (hd : Dn w wr M x.gB x.n x.cB f') : ({ x with f := f' } : Rk).ok wr q M := by
  have hnd := h.nodup
  simp only [Rk.foot, List.nodup_cons, List.mem_cons, not_or] at hnd
  have hUM : Upd (· ∈ M) w wr := hd.upd.mono (fun z _ hz => by subst hz; exact h.inM _ (by simp [Rk.foot]))
  have hq : q < w.heap.size := (Array.getElem?_eq_some_iff.1 h.cells).1
  refine ⟨(hd.upd.block q hq hnd.1.1).trans h.cells, hd.pic, h.n1, h.n2, ?_, fun j hj => ?_, h.inM, h.nodup, h.secs⟩
  · exact h.er.move hd.upd.size (fun b hb hl => hd.upd.block b hl (fun e => hnd.2.1 (by rw [← e]; exact hb)))
  · obtain ⟨a, c, e1, e2, e3, e4⟩ := h.eps j hj
    exact ⟨a, c, e1, e2, e3, e4.upd hUM (grew_refl _ _)⟩

/-- Some epochs go, the first ones. -/
theorem eb_add (a : Option Addr) (i : Nat) : eb (a.map fun a => a.add i) = eb a := by
  cases a with
  | none => rfl
  | some a => obtain ⟨b, o, sp⟩ := a; simp only [eb, Addr.add, Option.map_some, Option.toList_some]; split <;> rfl

theorem Rk.ok.drop {x : Rk} {w : World} {q : Nat} {M : List Nat} (h : x.ok w q M) (i : Nat) (hi : i ≤ x.E.length) (aE : Option Addr) (c : Nat) (he : (x.cE = i ∧ aE = x.aE ∧ c = 0) ∨ (aE = x.aE.map (fun a => a.add i) ∧ c = x.cE - i)) :
    ({ x with aE := aE, cE := c, vs := x.vs.drop i, E := x.E.drop i } : Rk).ok (w.setCell ⟨q, 1, none⟩ (.slice aE (x.E.length - i) c)) q M := by
  have hc := heap_setCell_same w q 1 _ _ (.slice aE (x.E.length - i) c) h.cells
  obtain ⟨h1, h2, h3, h4⟩ := h.er
  have hlen : (x.E.drop i).length = x.E.length - i := by simp
  refine h.turn (Upd.setCell _ _ _ rfl) aE c (x.vs.drop i) (x.E.drop i) x.sl ?_ ?_ ?_ (fun j hj => ?_) (fun e hm => h.secs e (List.mem_of_mem_drop hm))
  · rw [hc, hlen]; rfl
  · rw [hlen]
    refine ⟨by simp [h1], by rcases he with ⟨e1, e2, e3⟩ | ⟨e1, e2⟩ <;> omega, by rcases he with ⟨e1, e2, e3⟩ | ⟨e1, e2⟩ <;> omega, ?_⟩
    intro hc0
    rcases he with ⟨e1, e2, e3⟩ | ⟨e1, e2⟩
    · omega
    · obtain ⟨b, o, e, hl, h5, h6⟩ := h4 (by omega)
      refine ⟨b, o + i, by rw [e1, e]; simp [Addr.add_mid], hl, fun j hj => ?_, fun j hj => ?_⟩
      · rw [Nat.add_assoc, h5 (i + j) (by omega), List.getElem?_drop]
      · rw [Nat.add_assoc]; exact h6 (i + j) (by omega)
  · rcases he with ⟨e1, e2, e3⟩ | ⟨e1, e2⟩
    · exact .inl (by rw [e2])
    · left
      rw [e1]
      cases x.aE with
      | none => rfl
      | some a => obtain ⟨b, o, l⟩ := a; simp [eb, Addr.add]; split <;> rfl
  · have hj' : i + j < x.E.length := by omega
    obtain ⟨a, c, e1, e2, e3, e4⟩ := h.eps (i + j) hj'
    have hg : (x.E.drop i)[j] = x.E[i + j] := by simp
    rw [hg]
    exact ⟨a, c, by rw [List.getElem?_drop]; exact e1, e2, e3, e4⟩

set_option maxHeartbeats 4000000 in
set_option maxRecDepth 20000 in
theorem rdone (x : Rk) (q k : Nat) (M : List Nat) (w : World) (h : x.ok w q M) (hM : ∀ y ∈ M, y < w.heap.size) (hk : k ≤ x.E.length) :
    Calls Try.prog 51 #[.pointer (some ⟨q, 0, none⟩), .int .i64 k] w fun e w' => e = .returned (.tuple #[]) ∧
      ∃ x' : Rk, x'.ok w' q M ∧ x'.n = x.n ∧ x'.f = over x.f (x.E.take k) ∧ x'.E = x.E.drop k ∧ x'.sl = x.sl ∧ x'.vs = x.vs.drop k ∧ x'.gB = x.gB ∧ Upd (fun b => b = q ∨ b = x.gB) w w' ∧ ∀ k ∈ eb x'.aE, k ∈ eb x.aE := by
  obtain ⟨c0, c1, c2⟩ := h.cell
  have f1 := h.frozen 1
  obtain ⟨m, gm⟩ : ∃ m, m = x.E.length := ⟨_, rfl⟩
  have hcE := h.er.2.1
  have hcE2 := h.er.2.2.1
  have hnd := h.nodup
  simp only [Rk.foot, List.nodup_cons, List.mem_cons, not_or] at hnd
  have hqB : q ≠ x.gB := hnd.1.1
  have hgBM : x.gB ∈ M := h.inM _ (by simp [Rk.foot])
  have hqM : q ∈ M := h.inM _ (by simp [Rk.foot])
  have hEaB : ∀ b o, x.aE = some ⟨b, o, none⟩ → b ≠ x.gB ∧ b ≠ q := fun b o e => ⟨fun e2 => hnd.2.1 (by rw [e, ← e2]; simp [eb]), fun e2 => hnd.1.2 (by rw [e, ← e2]; simp [eb])⟩
  obtain ⟨gB, ggB⟩ : ∃ gB, gB = x.gB := ⟨_, rfl⟩
  obtain ⟨cB, gcB⟩ : ∃ cB, cB = x.cB := ⟨_, rfl⟩
  obtain ⟨n, gn⟩ : ∃ n, n = x.n := ⟨_, rfl⟩
  obtain ⟨aE, gaE⟩ : ∃ aE, aE = x.aE := ⟨_, rfl⟩
  obtain ⟨cE, gcE⟩ : ∃ cE, cE = x.cE := ⟨_, rfl⟩
  have HX := hid h
  have HEA := hid hEaB
  have hql : q < w.heap.size := hM q hqM
  have hBl : x.gB < w.heap.size := hM _ hgBM
  have HEP := hid h.eps
  have HM := hid hM
  have HBM := hid hgBM
  have hnB := h.n2
  rw [← gm] at c1 hcE hk
  rw [← gn, ← ggB, ← gcB] at c0
  rw [← gaE, ← gcE] at c1
  rw [← gcE] at hcE hcE2
  rw [← ggB] at hqB HBM hBl
  rw [← gn] at hnB
  have hd0 : Dn w w M gB n cB (over x.f (x.E.take 0)) := by rw [ggB, gn, gcB]; exact ⟨by simpa [over] using h.B, Upd.refl _ _⟩
  have HD0 := hid hd0
  have GM := hid gm
  have GN := hid gn
  have GB := hid ggB
  have GC := hid gcB
  have GA := hid gaE
  have GE := hid gcE
  clear h gm gn ggB gcB gaE gcE hnd hgBM hqM hEaB hM hd0 c2
  have hk0 : (0 : Int) ≤ (k : Int) := by omega
  have hkc : (k : Int) ≤ (cE : Int) := by omega
  go_enter Try.func51, Try.ntmps51
  go_wp2_with fail
  go_loopw [15] (fun t wr => ∃ i : Nat, t = .int .i64 i ∧ i ≤ k ∧ Hid (Dn w wr M gB n cB (over x.f (x.E.take i)))) (fun t _ => k - (intOf t).toNat)
  case atStart => exact ⟨0, rfl, Nat.zero_le _, HD0⟩
  case round =>
    obtain ⟨i, rfl, hi, HD⟩ := hrel
    by_cases hlt : i < k
    · have hil : i < x.E.length := by rw [← GM.out]; omega
      obtain ⟨b, o, aa, ca, e1, hbl, x0, x1, x2, x3⟩ := HX.out.at i hil
      have hne := (HEA.out b o e1).1
      have hov := over_snoc x.f x.E i hil
      have hsec : ∀ s ∈ x.E[i], s.1 < x.n := HX.out.secs _ (List.getElem_mem hil)
      rw [← GN.out] at hsec
      rw [← GB.out] at hne
      rw [← GA.out] at e1
      subst e1
      have q0 : wr.cell? ⟨b, o + i, none⟩ = some (.slice aa x.E[i].length ca) := (World.cell?_of_block (a := ⟨b, o + i, none⟩) (HD.out.upd.block b hbl hne)).trans x0
      obtain ⟨es, ges⟩ : ∃ es, es = x.E[i] := ⟨_, rfl⟩
      rw [← ges] at q0 x1 x3 hov hsec
      obtain ⟨k2, gk2⟩ : ∃ k2, k2 = es.length := ⟨_, rfl⟩
      rw [← gk2] at q0 x1
      have HX3 := hid x3
      have HOV := hid hov
      have GK := hid gk2
      have HSC := hid hsec
      clear x0 x3 hov ges gk2 hsec hne
      go_wp2_with fail
      go_loopw [21] (fun t wr => ∃ y : Nat, t = .int .i64 y ∧ y ≤ k2 ∧ Hid (Dn w wr M gB n cB (overE (over x.f (x.E.take i)) (es.take y)))) (fun t _ => k2 - (intOf t).toNat)
      case atStart => exact ⟨0, rfl, Nat.zero_le _, hid (by simpa [overE] using HD.out)⟩
      case round =>
        obtain ⟨y, rfl, hy, HD2⟩ := hrel
        by_cases hyl : y < k2
        · have hye : y < es.length := by rw [← GK.out]; exact hyl
          have hUM : Upd (· ∈ M) w wr := HD2.out.upd.mono (fun z _ hz => by subst hz; exact HBM.out)
          obtain ⟨b2, o2, e2, hl2, hnm, hc2'⟩ := (HX3.out.upd hUM (grew_refl _ _)) (Nat.lt_of_le_of_lt (Nat.zero_le _) hye)
          subst e2
          obtain ⟨r0, u, r1, ab, cb, rfl, hsb, hab⟩ := hc2' y hye
          have hS := HSC.out es[y] (List.getElem_mem hye)
          have hsn := fun z => overE_snoc (over x.f (x.E.take i)) es y z hye
          have hb128 : es[y].2.length = 128 := hsb.1
          have hfn : ∀ z, z < n → overE (over x.f (x.E.take i)) (es.take (y + 1)) z = if z = es[y].1 then es[y].2 else overE (over x.f (x.E.take i)) (es.take y) z := by
            intro z hz
            rw [hsn z]
            by_cases e : z = es[y].1
            · rw [if_pos e, if_pos e, hb128, List.drop_of_length_le (by have := HD2.out.pic.len hz; omega), List.append_nil]
            · rw [if_neg e, if_neg e]
          have c0r : wr.cell? ⟨q, 0, none⟩ = some (.slice (some ⟨gB, 0, none⟩) n cB) := (World.cell?_of_block (a := ⟨q, 0, none⟩) (HD2.out.upd.block q hql hqB)).trans c0
          obtain ⟨vs9, hr9, hj9⟩ := HD2.out.pic
          obtain ⟨u9, hu9, _⟩ := hj9 _ hS
          have cs9 : wr.cell? ⟨gB, es[y].1, none⟩ = some u9 := by rw [hr9.cellAt _ (by omega)]; exact hu9
          have fs9 := hr9.frozenAt es[y].1
          have hsz := HD2.out.upd.size
          obtain ⟨S, gS⟩ : ∃ S : Nat, S = es[y].1 := ⟨_, rfl⟩
          obtain ⟨bs, gbs⟩ : ∃ bs, bs = es[y].2 := ⟨_, rfl⟩
          rw [← gS] at r0 hS cs9 fs9
          rw [← gbs] at hsb
          have HFN : Hid (∀ z, z < n → overE (over x.f (x.E.take i)) (es.take (y + 1)) z = if z = S then bs else overE (over x.f (x.E.take i)) (es.take y) z) := by rw [gS, gbs]; exact hid hfn
          have HSB := hid hsb
          clear hsn hfn hsb hc2' hUM hb128 hj9 hr9 hu9 gS gbs
          go_wp2_with fail
          obtain ⟨W4, gW4⟩ : ∃ W4, W4 = wr.alloc (.cells #[.int .i64 (S : Int), .slice (some ab) 128 cb] 57) := ⟨_, rfl⟩
          rw [← gW4]
          have hb4 : Below wr.heap.size wr W4 := by rw [gW4]; exact (Below.refl _ _).alloc (Nat.le_refl _) _
          have p0 : W4.cell? ⟨q, 0, none⟩ = some (.slice (some ⟨gB, 0, none⟩) n cB) := (hb4.cell (p := ⟨q, 0, none⟩) (by show q < _; omega)).trans c0r
          have p1 : W4.cell? ⟨wr.heap.size, 0, none⟩ = some (.int .i64 (S : Int)) := by rw [gW4]; simp [go_sem]
          have p2 : W4.cell? ⟨wr.heap.size, 1, none⟩ = some (.slice (some ab) 128 cb) := by rw [gW4]; simp [go_sem]
          have hs4 : W4.heap.size = wr.heap.size + 1 := by rw [gW4]; simp
          have kb := hid (own_any ab 128 cb bs W4.drew (HSB.out.below hb4.drew) (by omega))
          have hne1 : q ≠ gB := hqB
          have hne2 : wr.heap.size ≠ gB := by omega
          have b3 : (0 : Int) ≤ (S : Int) := by omega
          have b4 : (S : Int) < (n : Int) := by omega
          have hgBr : gB < wr.heap.size := by omega
          have hqr : q < wr.heap.size := by omega
          clear gW4 r0 r1 c0r
          go_region_held3 (fun wx => wx.cell? ⟨q, 0, none⟩ = some (.slice (some ⟨gB, 0, none⟩) n cB) ∧ wx.cell? ⟨wr.heap.size, 0, none⟩ = some (.int .i64 (S : Int)) ∧ wx.cell? ⟨wr.heap.size, 1, none⟩ = some (.slice (some ab) 128 cb)) (first | go_keep | (refine ⟨(cell_setCell_block _ _ _ _ _ hne1).trans ?_, (cell_setCell_block _ _ _ _ _ hne2).trans ?_, (cell_setCell_block _ _ _ _ _ hne2).trans ?_⟩ <;> go_keep)) (first | (go_at_call 27; refine kb.out.mono ?_; rintro r w5 ⟨gb, cb', rfl, hown5, hb5⟩; have HO5 := hid hown5; have s0 : w5.cell? ⟨q, 0, none⟩ = some (.slice (some ⟨gB, 0, none⟩) n cB) := (hb5.cell (p := ⟨q, 0, none⟩) (by show q < W4.heap.size; omega)).trans p0; have s1 : w5.cell? ⟨wr.heap.size, 0, none⟩ = some (.int .i64 (S : Int)) := (hb5.cell (p := ⟨wr.heap.size, 0, none⟩) (by show wr.heap.size < W4.heap.size; omega)).trans p1; have s2 : w5.cell? ⟨wr.heap.size, 1, none⟩ = some (.slice (some ab) 128 cb) := (hb5.cell (p := ⟨wr.heap.size, 1, none⟩) (by show wr.heap.size < W4.heap.size; omega)).trans p2; have s3 : w5.cell? ⟨gB, S, none⟩ = some u9 := (hb5.cell (p := ⟨gB, S, none⟩) (by show gB < W4.heap.size; omega)).trans ((hb4.cell (p := ⟨gB, S, none⟩) hgBr).trans cs9); have s4 : w5.frozen? ⟨gB, S, none⟩ = false := (hb5.frozen (p := ⟨gB, S, none⟩) (by show gB < W4.heap.size; omega)).trans ((hb4.frozen (p := ⟨gB, S, none⟩) hgBr).trans fs9); have HB5 := hid hb5; clear hown5 hb5))
          go_wp2_with fail
          go_roundw
          case rel =>
            have hb45 : Below wr.heap.size wr w5 := hb4.trans ((show Below W4.heap.size W4 w5 from ⟨HB5.out.os, HB5.out.tape, HB5.out.output, HB5.out.size, HB5.out.block⟩).mono (by omega))
            have hgbl := HO5.out.lt gb rfl
            refine ⟨y + 1, by go_num, by omega, hid (HD2.out.step HBM.out hb45 hS ⟨⟨gb, 0, none⟩, cb', rfl, Src.own HO5.out, fun hx => ?_, own_cap HO5.out⟩ HFN.out)⟩
            have h6 := hgbl.1
            have h7 := HM.out gb hx
            simp at h6
            omega
          case measure => simp [intOf]; omega
        · obtain rfl : y = k2 := by omega
          have HNX : Hid (Dn w wr M gB n cB (over x.f (x.E.take (i + 1)))) := by
            rw [HOV.out]
            have h := HD2.out
            rw [List.take_of_length_le (l := es) (by rw [GK.out]; exact Nat.le_refl _)] at h
            exact hid h
          go_wp2_with fail
          go_roundw
          case rel => exact ⟨i + 1, by go_num, by omega, HNX⟩
          case measure => simp [intOf]; omega
    · obtain rfl : i = k := by omega
      have c1r : wr.cell? ⟨q, 1, none⟩ = some (.slice aE m cE) := (World.cell?_of_block (a := ⟨q, 1, none⟩) (HD.out.upd.block q hql hqB)).trans c1
      have f1r : wr.frozen? ⟨q, 1, none⟩ = false := by rw [← f1]; exact World.frozen?_of_block (a := ⟨q, 1, none⟩) (HD.out.upd.block q hql hqB)
      have hd : Dn w wr M x.gB x.n x.cB (over x.f (x.E.take i)) := by rw [← GB.out, ← GN.out, ← GC.out]; exact HD.out
      have HS := hid (HX.out.sect hd)
      have hiE : i ≤ x.E.length := by rw [← GM.out]; exact hk
      have HDU := hid hd.upd
      have HIE := hid hiE
      clear hd hiE
      go_wp2_with fail
      · go_end0
        have h1 := HS.out.drop i HIE.out aE 0 (.inl ⟨by rw [← GE.out]; assumption, GA.out, rfl⟩)
        rw [← GM.out] at h1
        exact ⟨rfl, _, h1, rfl, rfl, rfl, rfl, rfl, rfl, (HDU.out.mono (fun _ _ h => .inr h)).trans (Upd.setCell (F := fun b => b = q) wr ⟨q, 1, none⟩ _ rfl) (fun _ _ h => .inl h), fun k hk => by rw [← GA.out]; exact hk⟩
      · go_end0
        have h1 := HS.out.drop i HIE.out (aE.map fun a => a.add i) (cE - i) (.inr ⟨by rw [GA.out], by rw [GE.out]⟩)
        rw [← GM.out] at h1
        exact ⟨rfl, _, h1, rfl, rfl, rfl, rfl, rfl, rfl, (HDU.out.mono (fun _ _ h => .inr h)).trans (Upd.setCell (F := fun b => b = q) wr ⟨q, 1, none⟩ _ rfl) (fun _ _ h => .inl h), fun k hk => by rw [← GA.out, ← eb_add aE i]; exact hk⟩

theorem rflush (x : Rk) (q : Nat) (M : List Nat) (w : World) (h : x.ok w q M) (hM : ∀ y ∈ M, y < w.heap.size) :
    Calls Try.prog 33 #[.pointer (some ⟨q, 0, none⟩)] w fun e w' => e = .returned (.int .i64 0) ∧
      ∃ x' : Rk, x'.ok w' q M ∧ x'.n = x.n ∧ x'.f = over x.f x.E ∧ x'.E = [] ∧ x'.sl = false ∧ x'.gB = x.gB ∧ Upd (fun b => b = q ∨ b = x.gB) w w' ∧ ∀ k ∈ eb x'.aE, k ∈ eb x.aE := by
  obtain ⟨c0, c1, c2⟩ := h.cell
  have k1 := hid (rdone x q x.E.length M w h hM (Nat.le_refl _))
  rw [List.take_length, List.drop_length] at k1
  obtain ⟨m, gm⟩ : ∃ m, m = x.E.length := ⟨_, rfl⟩
  rw [← gm] at c1 k1
  clear h gm c0 c2
  go_enter Try.func33, Try.ntmps33
  go_wp2_with fail
  refine k1.out.mono ?_
  rintro r w1 ⟨rfl, x', hok, h1, h2, h3, h4, h5, h6, hU, hae⟩
  obtain ⟨d0, d1, d2⟩ := hok.cell
  have f2 := hok.frozen 2
  have HK := hid hok
  have HR := hid (And.intro h1 (And.intro h2 (And.intro h3 h6)))
  have HU := hid hU
  have HAE := hid hae
  clear hok h1 h2 h3 h4 h5 h6 hU hae d0 d1
  go_wp2_with fail
  go_ret
  have hc := heap_setCell_same w1 q 2 _ _ (.bool false) HK.out.cells
  obtain ⟨h1, h2, h3, h6⟩ := HR.out
  exact ⟨rfl, _, HK.out.turn (Upd.setCell _ _ _ rfl) x'.aE x'.cE x'.vs x'.E false (hc.trans rfl) HK.out.er (.inl rfl) HK.out.eps HK.out.secs, h1, h2, h3, rfl, h6, HU.out.trans (Upd.setCell (F := fun b => b = q) w1 ⟨q, 2, none⟩ _ rfl) (fun _ _ h => .inl h), HAE.out⟩

end Go.Proofs.Ytcophmafkpbdaaa
