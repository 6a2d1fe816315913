/- What disk.land does: it lays writes (whole ones, or torn ones) over what is durable. -/
import Derived.Test.YtkmnhpnlkmiiiaaGreatDoorDWrite
namespace Go.Proofs.YtkmnhpnlkmiiiaaGreatDoor
open Go.RowKit
set_option linter.unusedVariables false

/-- A write, whole or torn, as it is read. -/
structure Cut where
  sec : Nat
  a : Addr
  len : Nat
  cap : Nat
  bs : List Int

/-- A row of writes that is read: none of it lies in block gd. -/
structure Cuts (w : World) (gd N : Nat) (ae : Option Addr) (c : Nat) (es : List Cut) : Prop where
  c1 : es.length ≤ c
  c2 : c ≤ 9223372036854775807
  row : 0 < es.length → ∃ b o, ae = some ⟨b, o, none⟩ ∧ b ≠ gd ∧ b < w.heap.size ∧ ∀ j (h : j < es.length), w.cell? ⟨b, o + j * 2, none⟩ = some (.int .i64 es[j].sec) ∧ w.cell? ⟨b, o + j * 2 + 1, none⟩ = some (.slice (some es[j].a) es[j].len es[j].cap)
  es : ∀ s ∈ es, s.sec < N ∧ s.len ≤ 128 ∧ Src w (some s.a) s.len s.bs ∧ s.a.block ≠ gd

theorem Cuts.upd {w w' : World} {gd N : Nat} {ae : Option Addr} {c : Nat} {es : List Cut} (h : Cuts w gd N ae c es) (u : Upd (· = gd) w w') : Cuts w' gd N ae c es := by
  refine ⟨h.c1, h.c2, fun h0 => ?_, fun s hs => ?_⟩
  · obtain ⟨b, o, e, hb, hl, hc⟩ := h.row h0
    refine ⟨b, o, e, hb, Nat.lt_of_lt_of_le hl u.size, fun j hj => ?_⟩
    have := u.block b hl hb
    exact ⟨(World.cell?_of_block (a := ⟨b, o + j * 2, none⟩) this).trans (hc j hj).1, (World.cell?_of_block (a := ⟨b, o + j * 2 + 1, none⟩) this).trans (hc j hj).2⟩
  · obtain ⟨h1, h2, h3, h4⟩ := h.es s hs
    refine ⟨h1, h2, u.src h3 (fun b o e => ?_), h4⟩
    have := Option.some.inj e
    rw [this] at h4
    exact h4

def landL (L : List Int) (es : List (Nat × List Int)) : List Int := es.foldl (fun L s => splice L (s.1 * 128) s.2) L

def Cut.ab (s : Cut) : Nat × List Int := (s.sec, s.bs)

theorem landL_len (N : Nat) (es : List (Nat × List Int)) : ∀ L : List Int, L.length = N * 128 → (∀ s ∈ es, s.1 < N ∧ s.2.length ≤ 128) → (landL L es).length = N * 128 := by
  induction es with
  | nil => intro L h _; exact h
  | cons s es ih =>
    intro L h hs
    have h1 := hs s (by simp)
    have : (s.1 + 1) * 128 ≤ N * 128 := Nat.mul_le_mul_right _ h1.1
    exact ih _ (by rw [length_splice _ _ _ (by omega)]; exact h) (fun t ht => hs t (by simp [ht]))

theorem landL_snoc (L : List Int) (es : List (Nat × List Int)) (s : Nat × List Int) : landL L (es ++ [s]) = splice (landL L es) (s.1 * 128) s.2 := by simp [landL]

/-- Behind writes each sector is what they make of it. -/
theorem sec_landL (N : Nat) (es : List (Nat × List Int)) : ∀ L : List Int, L.length = N * 128 → (∀ s ∈ es, s.1 < N ∧ s.2.length ≤ 128) → ∀ j, sec (landL L es) j = overE (sec L) es j := by
  induction es with
  | nil => intro L _ _ j; rfl
  | cons s es ih =>
    intro L h hs j
    have h1 := hs s (by simp)
    have : (s.1 + 1) * 128 ≤ N * 128 := Nat.mul_le_mul_right _ h1.1
    have e1 : landL L (s :: es) = landL (splice L (s.1 * 128) s.2) es := rfl
    rw [e1, ih _ (by rw [length_splice _ _ _ (by omega)]; exact h) (fun t ht => hs t (by simp [ht])) j, overE_cons]
    refine overE_cong _ _ _ _ ?_
    rw [sec_splice L s.2 N s.1 j h h1.2 h1.1]
    by_cases hj : j = s.1
    · subst hj; simp
    · rw [if_neg hj, if_neg hj]

/-- What a row of bytes is. -/
def Dur (w : World) (gd N cd : Nat) (L : List Int) : Prop := w.ownsRow 0 5 1 (.slice (some ⟨gd, 0, none⟩) (N * 128) cd) (N * 128) (L.map (Value.int .u8))

theorem Dur.put {w w' : World} {gd N cd i : Nat} {L bs : List Int} {cur : List Value} (h : Dur w gd N cd L) (hg : w.heap[gd]? = some (.cells cur.toArray 5 (0, 0))) (hi : i < N) (hb : bs.length ≤ 128) (hw' : w'.heap[gd]? = some (.cells (splice cur (i * 128) (bs.map (Value.int .u8))).toArray 5 (0, 0))) : Dur w' gd N cd (splice L (i * 128) bs) := by
  obtain ⟨cur', hg', h1, h2, h3, h4⟩ := own_heap h
  have : cur' = cur := by
    rw [hg] at hg'
    injection hg' with e
    injection e with e
    simpa using e.symm
  subst this
  have hin : (i + 1) * 128 ≤ N * 128 := Nat.mul_le_mul_right _ hi
  have hl := h.1
  refine ⟨?_, .inr ⟨gd, cd, _, rfl, Nat.zero_le _, hw', h1, h2, ?_, ?_⟩⟩
  · rw [splice_map, length_splice _ _ _ (by rw [hl]; simp; omega), hl]
  · rw [List.size_toArray, length_splice _ _ _ (by simp; omega), h3]
  · rw [splice_map, ← h4, List.toList_toArray, take_splice _ _ _ _ (by simp; omega) (by omega)]

theorem cell_setRow_block (w : World) (g : Nat) (cs : Array Value) (a : Addr) (h : a.block ≠ g) : (w.setRow g cs).cell? a = w.cell? a :=
  World.cell?_of_block (setRow_other w g a.block cs h)

set_option maxHeartbeats 1000000 in
set_option maxRecDepth 20000 in
theorem land_any (p gd N cd : Nat) (L : List Int) (ae : Option Addr) (c : Nat) (es : List Cut) (w : World) (hp : w.cell? ⟨p, 0, none⟩ = some (.slice (some ⟨gd, 0, none⟩) (N * 128) cd)) (hpg : p ≠ gd) (hN : N ≤ 2048) (hd : Dur w gd N cd L) (hc : Cuts w gd N ae c es) (hel : es.length ≤ 4096) :
    Calls Tryz.prog 59 #[.pointer (some ⟨p, 0, none⟩), .slice ae es.length c] w fun e w' => e = .returned (.tuple #[]) ∧ Dur w' gd N cd (landL L (es.map Cut.ab)) ∧ Upd (· = gd) w w' := by
  have HD := hid hd
  have HC := hid hc
  have hc1 := hc.c1
  have hc2 := hc.c2
  obtain ⟨_, _, hcd1, hcd2, _, _⟩ := own_heap hd
  have hcd3 : cd ≤ 9223372036854775807 := by unfold maxLen at hcd2; omega
  have hplt : p < w.heap.size := World.block_lt_of_cell? _ _ hp
  have hglt : gd < w.heap.size := (hd.lt gd rfl).2
  have HP := hid hp
  clear hd hc hp
  go_enter Tryz.func59, Tryz.ntmps59
  go_wp2_with fail
  go_loopw [8] (fun k wr => ∃ i : Nat, k = .int .i64 i ∧ i ≤ es.length ∧ Hid (Dur wr gd N cd (landL L ((es.take i).map Cut.ab))) ∧ Upd (· = gd) w wr) (fun k _ => es.length - (intOf k).toNat)
  case atStart => exact ⟨0, rfl, Nat.zero_le _, HD.out, Upd.refl _ _⟩
  case round =>
    obtain ⟨i, rfl, hi, HR, hur⟩ := hrel
    by_cases hlt : i < es.length
    · have hcr := HC.out.upd hur
      obtain ⟨b, o, rfl, hb, hbl, hcell⟩ := hcr.row (by omega)
      obtain ⟨c0, c1⟩ := hcell i hlt
      obtain ⟨hs1, hs2, hs3, hs4⟩ := hcr.es es[i] (List.getElem_mem hlt)
      have hpr : wr.cell? ⟨p, 0, none⟩ = some (.slice (some ⟨gd, 0, none⟩) (N * 128) cd) := (World.cell?_of_block (w := w) (a := ⟨p, 0, none⟩) (hur.block p hplt hpg)).trans HP.out
      have HS3 := hid hs3
      clear hcell hs3 hcr
      go_wp2_with fail
      obtain ⟨W2, gW2⟩ : ∃ W2, W2 = wr.alloc (.cells #[.int .i64 es[i].sec, .slice (some es[i].a) es[i].len es[i].cap] 108) := ⟨_, rfl⟩
      have hb2 : Below wr.heap.size wr W2 := by rw [gW2]; exact (Below.refl _ _).alloc (Nat.le_refl _) _
      have hsz := hur.size
      have q0 : W2.cell? ⟨p, 0, none⟩ = some (.slice (some ⟨gd, 0, none⟩) (N * 128) cd) := (hb2.cell (p := ⟨p, 0, none⟩) (by show p < _; omega)).trans hpr
      have q1 : W2.cell? ⟨wr.heap.size, 0, none⟩ = some (.int .i64 es[i].sec) := by rw [gW2]; simp [go_sem]
      have q2 : W2.cell? ⟨wr.heap.size, 1, none⟩ = some (.slice (some es[i].a) es[i].len es[i].cap) := by rw [gW2]; simp [go_sem]
      obtain ⟨cur, hcur, hk1, hk2, hk3, hk4⟩ := own_heap (own_below HR.out hb2)
      have hl := HS3.out.1
      have hin : (es[i].sec + 1) * 128 ≤ N * 128 := Nat.mul_le_mul_right _ hs1
      have crun := run_copy_row2 (P := Tryz.prog) W2.drew 29 29 3 5 1 gd (es[i].sec * 128) 128 128 es[i].a es[i].len es[i].cap es[i].len cur.toArray 5 (es[i].bs.map (Value.int .u8)) Tryz.underlying29 Tryz.psz5 hcur (by simp only [Nat.min_def]; split <;> omega) (by simp [hl]) (src_cells ((HS3.out.below hb2.drew))) (by simp [hl]; omega) (u8_one _)
      obtain ⟨R, hR⟩ : ∃ R, R = splice cur (es[i].sec * 128) (es[i].bs.map (Value.int .u8)) := ⟨_, rfl⟩
      rw [show (cur.toArray.toList.take (es[i].sec * 128) ++ es[i].bs.map (Value.int .u8) ++ cur.toArray.toList.drop (es[i].sec * 128 + (es[i].bs.map (Value.int .u8)).length)) = R by rw [hR]; simp [splice]] at crun
      have hdn : Dur (W2.drew.setRow gd R.toArray) gd N cd (landL L ((es.take (i + 1)).map Cut.ab)) := by
        have h0 : Dur W2 gd N cd (landL L ((es.take i).map Cut.ab)) := own_below HR.out hb2
        have h1 := h0.put (w' := W2.drew.setRow gd R.toArray) (i := es[i].sec) (bs := es[i].bs) hcur hs1 (by omega) (by rw [← hR]; exact setRow_heap W2.drew gd _ _ _ _ hcur)
        have h2 : (es.take (i + 1)).map Cut.ab = (es.take i).map Cut.ab ++ [(es[i].sec, es[i].bs)] := by
          rw [List.take_succ_eq_append_getElem hlt, List.map_append]
          rfl
        rw [h2, landL_snoc]
        exact h1
      have hup : Upd (· = gd) w (W2.drew.setRow gd R.toArray) := by
        refine (hur.trans (Upd.of_below (F := (· = gd)) hb2) (fun _ _ h => h)).trans (G := (· = gd)) ?_ (fun _ _ h => h)
        exact ⟨rfl, rfl, rfl, by simp, fun k _ hk => setRow_other W2.drew gd k _ hk⟩
      have HDN := hid hdn
      have HUP := hid hup
      have hne : wr.heap.size ≠ gd := by omega
      rw [← gW2]
      have ks := hid (sector_any gd N es[i].sec cd W2.drew hs1 hN hcd1 hcd3)
      clear gW2 hcur hk4 hR hdn hup hpr c0 c1 hb2
      go_region_held3 (fun wx => wx.cell? ⟨p, 0, none⟩ = some (.slice (some ⟨gd, 0, none⟩) (N * 128) cd) ∧ wx.cell? ⟨wr.heap.size, 0, none⟩ = some (.int .i64 es[i].sec) ∧ wx.cell? ⟨wr.heap.size, 1, none⟩ = some (.slice (some es[i].a) es[i].len es[i].cap)) (first | go_keep | (refine ⟨(cell_setRow_block _ _ _ _ hpg).trans ?_, (cell_setRow_block _ _ _ _ hne).trans ?_, (cell_setRow_block _ _ _ _ hne).trans ?_⟩ <;> go_keep)) (first | (go_at_call 43; refine ks.out.mono ?_; rintro r w4 ⟨rfl, h⟩; subst w4))
      go_wp2_with fail
      go_roundw
      case rel => exact ⟨i + 1, by go_num, by omega, HDN.out, HUP.out⟩
      case measure => simp [intOf]; omega
    · obtain rfl : i = es.length := by omega
      have hfin := HR.out
      rw [List.take_length] at hfin
      go_wp2_with fail
      go_end0
      exact ⟨rfl, hfin, hur⟩

end Go.Proofs.YtkmnhpnlkmiiiaaGreatDoor
