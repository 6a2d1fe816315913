/- Images: rows of sectors, as they lie; and what disk.Image, dredgerplain.Image and SameImage do with them. -/
import Derived.Test.YtkmnhpnlkmiiiaaGreatDoorDSec
import Derived.Test.YtkmnhpnlkmiiiaaGreatDoorEqual
import Derived.Test.YtkmnhpnlkmiiiaaGreatDoorClone
namespace Go.Proofs.YtkmnhpnlkmiiiaaGreatDoor
open Go.RowKit
set_option linter.unusedVariables false

/-- Bytes of a sector, in a block that is none of M. -/
def Byt (w : World) (M : List Nat) (u : Value) (bs : List Int) : Prop := ∃ a c, u = .slice (some a) 128 c ∧ Src w (some a) 128 bs ∧ a.block ∉ M ∧ 128 ≤ c ∧ c ≤ 9223372036854775807

/-- A row of sectors. -/
def Pic (w : World) (M : List Nat) (v : Value) (n : Nat) (f : Nat → List Int) : Prop := ∃ vs, w.ownsRow 0 29 1 v n vs ∧ ∀ j, j < n → ∃ u, vs[j]? = some u ∧ Byt w M u (f j)

def Grew' (w : World) (F F' : List Nat) : Prop := ∀ x ∈ F', x ∈ F ∨ w.heap.size ≤ x

theorem src_lt {w : World} {a : Addr} {n : Nat} {zs : List Int} (h : Src w (some a) n zs) (hn : 0 < n) : a.block < w.heap.size := by
  obtain ⟨b, o, e0, hlt, _⟩ := h.2 hn
  rw [Option.some.inj e0]; exact hlt

theorem own_cap {w : World} {B e size n c : Nat} {a : Option Addr} {xs : List Value} (h : w.ownsRow B e size (.slice a n c) n xs) : n ≤ c ∧ c ≤ 9223372036854775807 := by
  obtain ⟨ae, c', e, h1, h2⟩ := own_shape h
  injection e with _ _ e3
  subst e3
  exact ⟨h1, h2⟩

theorem Byt.weaken {w : World} {M M' : List Nat} {u : Value} {bs : List Int} (h : Byt w M u bs) (hs : ∀ x ∈ M', x ∈ M) : Byt w M' u bs := by
  obtain ⟨a, c, h1, h2, h3, h4⟩ := h
  exact ⟨a, c, h1, h2, fun hx => h3 (hs _ hx), h4⟩

theorem Byt.upd {w w' : World} {M M' : List Nat} {u : Value} {bs : List Int} (h : Byt w M u bs) (hu : Upd (· ∈ M) w w') (hg : Grew' w M M') : Byt w' M' u bs := by
  obtain ⟨a, c, rfl, hs, hm, hc⟩ := h
  refine ⟨a, c, rfl, hu.src hs (fun b o e => ?_), fun hx => ?_, hc⟩
  · have := Option.some.inj e
    subst this
    exact hm
  · rcases hg _ hx with h | h
    · exact hm h
    · have := src_lt hs (by omega); omega

theorem Pic.weaken {w : World} {M M' : List Nat} {v : Value} {n : Nat} {f : Nat → List Int} (h : Pic w M v n f) (hs : ∀ x ∈ M', x ∈ M) : Pic w M' v n f := by
  obtain ⟨vs, hr, hj⟩ := h
  refine ⟨vs, hr, fun j hl => ?_⟩
  obtain ⟨u, h1, h2⟩ := hj j hl
  exact ⟨u, h1, h2.weaken hs⟩

theorem Pic.upd {w w' : World} {M M' : List Nat} {v : Value} {n : Nat} {f : Nat → List Int} (h : Pic w M v n f) (hu : Upd (· ∈ M) w w') (hg : Grew' w M M') (hv : ∀ k, v.ownBlock = some k → k ∉ M) : Pic w' M' v n f := by
  obtain ⟨vs, hr, hj⟩ := h
  refine ⟨vs, hu.own hr hv, fun j hl => ?_⟩
  obtain ⟨u, h1, h2⟩ := hj j hl
  exact ⟨u, h1, h2.upd hu hg⟩

theorem Tryz.infoTB : (Tryz.prog.info? 29).map (fun i => (i.zero, i.size, i.bytes)) = some (some (.slice none 0 0), 1, 24) := by kernel_rfl

/-- What a sector of a row of bytes is. -/
theorem src_sec {w : World} {g len c n i : Nat} {zs : List Int} (h : w.ownsRow 0 5 1 (.slice (some ⟨g, 0, none⟩) len c) len (zs.map (Value.int .u8))) (hl : len = n * 128) (hi : i < n) : Src w (some ⟨g, i * 128, none⟩) 128 (sec zs i) := by
  have hz : zs.length = len := by have := h.1; simpa using this
  have hin : (i + 1) * 128 ≤ n * 128 := Nat.mul_le_mul_right _ hi
  refine ⟨length_sec zs n i (by omega) hi, fun _ => ⟨g, i * 128, rfl, (h.lt g rfl).2, fun j hj => ?_⟩⟩
  rw [h.cellAt _ (by omega)]
  have := getElem?_sec zs i j hj
  rw [List.getElem?_map, ← this]
  simp [List.getD, List.getElem?_eq_getElem (show j < (sec zs i).length by rw [length_sec zs n i (by omega) hi]; exact hj)]

def vsAt (gb i n : Nat) : List Value := (List.range n).map fun j => if j < i then .slice (some ⟨gb, j * 128, none⟩) 128 128 else .slice none 0 0

theorem vsAt_zero (gb n : Nat) : vsAt gb 0 n = List.replicate n (.slice none 0 0) := by
  apply List.ext_getElem?
  intro j
  simp only [vsAt, List.getElem?_map, List.getElem?_replicate]
  by_cases h : j < n <;> simp [h]

theorem vsAt_set (gb i n : Nat) (h : i < n) : (vsAt gb i n).set i (.slice (some ⟨gb, i * 128, none⟩) 128 128) = vsAt gb (i + 1) n := by
  apply List.ext_getElem?
  intro j
  simp only [vsAt, List.getElem?_set, List.length_map, List.length_range, List.getElem?_map]
  by_cases hj : i = j
  · subst hj; simp [h]
  · rw [if_neg hj]
    by_cases hn : j < n
    · simp [hn]
      by_cases h1 : j < i
      · rw [if_pos h1, if_pos (by omega)]
      · rw [if_neg h1, if_neg (by omega)]
    · simp [hn]

set_option maxHeartbeats 1000000 in
set_option maxRecDepth 20000 in
theorem image_any (d : Dk) (p : Nat) (w : World) (hok : d.ok w p) (M : List Nat) (hM : ∀ x ∈ M, x < w.heap.size) :
    Calls Tryz.prog 15 #[.pointer (some ⟨p, 0, none⟩)] w fun e w' => ∃ g, e = .returned (.slice (some ⟨g, 0, none⟩) d.n d.n) ∧ Pic w' (g :: M) (.slice (some ⟨g, 0, none⟩) d.n d.n) d.n (sec d.dur) ∧ w.heap.size ≤ g ∧ Below w.heap.size w w' := by
  obtain ⟨i0, hi0, hz0, hz1, hz2⟩ := info_parts Tryz.infoTB
  have k1 := hid (dusable d p w hok)
  have k2 := hid (sclone_any ⟨d.gd, 0, none⟩ (d.n * 128) d.cd d.dur w (Src.own hok.dur) (by have := hok.n2; omega))
  have k3 : Hid (∀ w', Below w.heap.size w w' → Calls Tryz.prog 42 #[.pointer (some ⟨p, 0, none⟩)] w' fun e w'' => e = .returned (.int .i64 (d.n : Int)) ∧ w'' = w') := fun w' hb => dsectors d p w' (hok.frame fun k hk => hb.block k (hok.lt k hk))
  obtain ⟨c0, -, -, -⟩ := hok.cell
  have hn1 := hok.n1
  have hn2 := hok.n2
  clear hok
  go_enter Tryz.func15, Tryz.ntmps15
  go_wp2_with fail
  refine k1.out.mono ?_
  rintro r w1 ⟨rfl, h⟩
  subst w1
  go_wp2_with fail
  refine k2.out.mono ?_
  rintro r w1 ⟨gb, cb, rfl, hown, hb⟩
  have HO := hid hown
  clear hown c0
  go_wp2_with fail
  refine (k3.out _ hb).mono ?_
  rintro r w2 ⟨rfl, h⟩
  subst w2
  have hmx : d.n ≤ maxLen := by unfold maxLen; omega
  have hby : i0.bytes * d.n ≤ 281474976710656 := by rw [hz2]; omega
  go_wp2_with (at_make; go_must (refine wpList_make_lc _ rfl _ _ 22 rfl 29 i0 (.slice none 0 0) 1 Tryz.underlying22 hi0 hz0 hz1 _ _ _ _ d.n d.n rfl rfl rfl rfl (Nat.le_refl _) hby hmx ?_))
  have hw0 : (w1.alloc (.cells (madeCells #[Value.slice none 0 0] d.n) 29)).ownsRow 0 29 1 (.slice (some ⟨w1.heap.size, 0, none⟩) d.n d.n) d.n (vsAt gb 0 d.n) := by
    refine ⟨by simp [vsAt], .inr ⟨w1.heap.size, d.n, _, rfl, Nat.zero_le _, heap_alloc_new w1 _, Nat.le_refl _, hmx, by simp [size_madeCells], ?_⟩⟩
    rw [toList_madeCells_one, vsAt_zero]
    simp
  have hb0 : Below w1.heap.size w1 (w1.alloc (.cells (madeCells #[Value.slice none 0 0] d.n) 29)) := (Below.refl _ _).alloc (Nat.le_refl _) _
  have HW := hid hw0
  have HB := hid hb0
  clear hw0 hb0
  go_loopw [19] (fun k wr => ∃ i : Nat, k = .int .i64 i ∧ i ≤ d.n ∧ Hid (wr.ownsRow 0 29 1 (.slice (some ⟨w1.heap.size, 0, none⟩) d.n d.n) d.n (vsAt gb i d.n)) ∧ Below w1.heap.size w1 wr) (fun k _ => d.n - (intOf k).toNat)
  case atStart => exact ⟨0, rfl, Nat.zero_le _, HW.out, HB.out⟩
  case round =>
    obtain ⟨i, rfl, hi, HR, hbr⟩ := hrel
    by_cases hlt : i < d.n
    · have hc : wr.cell? ⟨w1.heap.size, i, none⟩ = some (.slice none 0 0) := by
        rw [HR.out.cellAt _ (by omega)]
        simp [vsAt, hlt]
      have hf := HR.out.frozenAt i
      have hst := HR.out.stored i (.slice (some ⟨gb, i * 128, none⟩) 128 128)
      rw [vsAt_set gb i d.n hlt] at hst
      have HS := hid hst
      clear hst
      have ks := hid (sector_any gb d.n i cb wr hlt hn2 (by rcases HO.out.2 with ⟨h, _⟩ | ⟨g', c', cur, h, _, _, h1, _⟩; cases h; injection h with _ _ h3; subst h3; exact h1) (by rcases HO.out.2 with ⟨h, _⟩ | ⟨g', c', cur, h, _, _, _, h1, _⟩; cases h; injection h with _ _ h3; subst h3; unfold maxLen at h1; omega))
      go_wp2_with fail
      refine ks.out.mono ?_
      rintro r w2 ⟨rfl, h⟩
      subst w2
      go_wp2_with fail
      go_roundw
      case rel => exact ⟨i + 1, by go_num, by omega, HS.out.1, hbr.grown HS.out.2 hbr.size (by intro q hq; simp at hq; omega)⟩
      case measure => simp [intOf]; omega
    · obtain rfl : i = d.n := by omega
      go_wp2_with fail
      go_ret
      refine ⟨w1.heap.size, rfl, ⟨_, HR.out, fun j hj => ⟨.slice (some ⟨gb, j * 128, none⟩) 128 128, by simp [vsAt, hj], _, _, rfl, ?_, ?_, by omega, by omega⟩⟩, hb.size, hb.trans (hbr.mono hb.size)⟩
      · exact (src_sec (own_base HO.out (Nat.zero_le _)) rfl hj).below hbr
      · have := HO.out.lt gb rfl
        intro hx
        rcases List.mem_cons.1 hx with h | h
        · simp at h; omega
        · have := hM _ h; simp at this; omega

end Go.Proofs.YtkmnhpnlkmiiiaaGreatDoor
