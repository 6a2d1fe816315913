/- What wire.withRoom does, for every slice of bytes and every room within reach: a new row with the same bytes; nothing old turns. -/
import Derived.Test.YtkmnhpnlkmiiiaaGreatDoorChecked
import Derived.Test.YtkmnhpnlkmiiiaaGreatDoorLaw
namespace Go.Proofs.YtkmnhpnlkmiiiaaGreatDoor
open Go.RowKit
set_option maxRecDepth 20000

theorem Tryz.info5 : (Tryz.prog.info? 5).map (fun i => (i.zero, i.size, i.bytes)) = some (some (.int .u8 0), 1, 1) := by kernel_rfl

theorem own_splice {w : World} {B g n c : Nat} {zs : List Int} (hz : zs.length = n) (hB : B ≤ g) (hc : c ≤ maxLen) (hn : n ≤ c)
    (h : w.heap[g]? = some (.cells (splice (madeCells #[Value.int .u8 0] c).toList 0 (zs.map (Value.int .u8))).toArray 5 (0, 0))) :
    w.ownsRow B 5 1 (.slice (some ⟨g, 0, none⟩) n c) n (zs.map (Value.int .u8)) := by
  have hm : (madeCells #[Value.int .u8 0] c).size = c := by simp [size_madeCells]
  refine ⟨by simp [hz], .inr ⟨g, c, _, rfl, hB, h, hn, hc, ?_, ?_⟩⟩
  · rw [List.size_toArray, length_splice _ _ _ (by simp [hz, hm] at *; omega), Array.length_toList, hm, Nat.mul_one]
  · simp [splice, hz]

set_option maxHeartbeats 400000 in
theorem room_any (a0 : Option Addr) (len cap r : Nat) (zs : List Int) (w : World) (hs : Src w a0 len zs) (hr : len + r ≤ 281474976710656) :
    Calls Tryz.prog 85 #[.slice a0 len cap, .int .i64 r] w fun e w' => e = .returned (.slice (some ⟨w.heap.size, 0, none⟩) len (len + r)) ∧
      w'.ownsRow w.heap.size 5 1 (.slice (some ⟨w.heap.size, 0, none⟩) len (len + r)) len (zs.map (Value.int .u8)) ∧ Below w.heap.size w w' := by
  obtain ⟨i0, hi, hz0, hz1, hz2⟩ := info_parts Tryz.info5
  have hb0 : Below w.heap.size w (w.alloc (.cells (madeCells #[Value.int .u8 0] (len + r)) 5)) := (Below.refl _ _).alloc (Nat.le_refl _) _
  have hsz : (Tryz.prog.info? 5).map (·.size) = some 1 := by rw [hi]; simp [hz1]
  have hmx : len + r ≤ maxLen := by unfold maxLen; omega
  have hby : i0.bytes * (len + r) ≤ 281474976710656 := by rw [hz2]; omega
  obtain ⟨cs, hcs⟩ : ∃ cs, cs = zs.map (Value.int .u8) := ⟨_, rfl⟩
  have HC : Hid (cs = zs.map (Value.int .u8)) := hcs
  have hcl : cs.length = len := by rw [hcs]; simp [hs.1]
  have HL : Hid (cs.length = len) := hcl
  have hone : ∀ v ∈ cs, v.oneCell' = true := by rw [hcs]; exact ints_oneCell _ _
  have HP : Hid (0 < cs.length → (some (⟨w.heap.size, 0, none⟩ : Addr)) = some ⟨w.heap.size, 0, none⟩ ∧ ∃ ad, a0 = some ad ∧ ∀ j v, cs[j]? = some v → (w.alloc (.cells (madeCells #[Value.int .u8 0] (len + r)) 5)).cell? (ad.add j) = some v) := by
    intro h
    refine ⟨rfl, ?_⟩
    obtain ⟨b, o, e, hlt, hc⟩ := hs.2 (by omega)
    refine ⟨_, e, fun j v hj => ?_⟩
    have hjl : j < len := by
      have := (List.getElem?_eq_some_iff.1 hj).1
      omega
    rw [Addr.add_lit, hb0.cell (p := ⟨b, o + j, none⟩) hlt, hc j hjl, ← hj, hcs]
    simp [List.getD, List.getElem?_eq_getElem (show j < zs.length by have := hs.1; omega)]
  have HS := hid hs
  clear hs hcs hcl
  have hsm : (madeCells #[Value.int .u8 0] (len + r)).size = len + r := by simp [size_madeCells]
  obtain ⟨cur, hcur⟩ : ∃ cur, cur = (madeCells #[Value.int .u8 0] (len + r)).toList := ⟨_, rfl⟩
  have HG : Hid ((w.alloc (.cells (madeCells #[Value.int .u8 0] (len + r)) 5)).heap[w.heap.size]? = some (.cells cur.toArray 5 (0, 0))) := by
    rw [hcur]; exact heap_alloc_new w _
  have HF : Hid (0 + cs.length ≤ cur.length) := by
    show 0 + cs.length ≤ cur.length
    have h1 : cur.length = len + r := by rw [hcur, Array.length_toList, hsm]
    have h2 := HL.out
    omega
  have HM : Hid (cs.length = Nat.min len len) := by show _ = Nat.min len len; rw [HL.out]; exact (Nat.min_self len).symm
  have HU := hid hcur
  have HO := hid hone
  have HB := hid hb0
  have HZ := hid hsz
  clear hsm hcur hone hb0 hsz
  go_enter Tryz.func85, Tryz.ntmps85
  go_wp2_with (first | (at_make; refine wpList_make_lc _ rfl _ _ 29 rfl 5 i0 (.int .u8 0) 1 Tryz.underlying29 hi hz0 hz1 _ _ _ _ len (len + r) rfl rfl rfl (by omega) (by omega) hby hmx ?_) | (refine wpList_copy_splice rfl (.tmp 13) (.tmp 14) 29 29 rfl 5 Tryz.underlying29 HZ.out _ _ _ _ _ _ rfl rfl w.heap.size 0 cur 5 HG.out cs HM.out HP.out HF.out HO.out w.heap.size w HB.out (Nat.le_refl _) ?_))
  intro w2 HG2 hb2
  go_wp2_with fail
  go_ret
  refine ⟨rfl, ?_, hb2⟩
  refine own_splice (zs := zs) HS.out.1 (Nat.le_refl _) hmx (by omega) ?_
  rw [← HU.out, ← HC.out]
  exact HG2.out

end Go.Proofs.YtkmnhpnlkmiiiaaGreatDoor
