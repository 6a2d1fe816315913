/- A list of a space's calls as it lies, and 'copy' of bytes as a run. -/
import Derived.Test.YtnmgapnblmikeaaSpc2
import Derived.Test.YtnmgapnblmikeaaEqual
namespace Go.Proofs.Ytnmgapnblmikeaa
open Go.RowKit Lend
set_option linter.unusedVariables false

/-- A call of the list: its cells, and the bytes that it names. -/
structure Doat (w : World) (b o i : Nat) (x0 x1 x2 : Int) (ab : Option Addr) (lb cb : Nat) (zs : List Int) : Prop where
  c0 : w.cell? ⟨b, o + i * 4, none⟩ = some (.int .i64 x0)
  c1 : w.cell? ⟨b, o + i * 4 + 1, none⟩ = some (.int .i64 x1)
  c2 : w.cell? ⟨b, o + i * 4 + 2, none⟩ = some (.int .i64 x2)
  c3 : w.cell? ⟨b, o + i * 4 + 3, none⟩ = some (.slice ab lb cb)
  b0 : -9223372036854775808 ≤ x0 ∧ x0 ≤ 9223372036854775807
  b1 : -9223372036854775808 ≤ x1 ∧ x1 ≤ 9223372036854775807
  b2 : -9223372036854775808 ≤ x2 ∧ x2 ≤ 9223372036854775807
  src : Src w ab lb zs
  bytes : Bytes zs
  le : lb ≤ cb
  lt : b < w.heap.size
  reach : lb ≤ 140737488355328
  nil : ab = none → lb = 0 ∧ cb = 0

/-- A list of calls, somewhere in memory. -/
def Dos (w : World) (al : Option Addr) (ll : Nat) : Prop :=
  0 < ll → ∃ b o, al = some ⟨b, o, none⟩ ∧ ∀ i, i < ll → ∃ x0 x1 x2 ab lb cb zs, Doat w b o i x0 x1 x2 ab lb cb zs

theorem Doat.below {w w' : World} {b o i : Nat} {x0 x1 x2 : Int} {ab : Option Addr} {lb cb : Nat} {zs : List Int} (h : Doat w b o i x0 x1 x2 ab lb cb zs) (u : Below w.heap.size w w') : Doat w' b o i x0 x1 x2 ab lb cb zs :=
  ⟨(u.cell (p := ⟨b, _, none⟩) h.lt).trans h.c0, (u.cell (p := ⟨b, _, none⟩) h.lt).trans h.c1, (u.cell (p := ⟨b, _, none⟩) h.lt).trans h.c2, (u.cell (p := ⟨b, _, none⟩) h.lt).trans h.c3, h.b0, h.b1, h.b2, h.src.below u, h.bytes, h.le, Nat.lt_of_lt_of_le h.lt u.size, h.reach, h.nil⟩

/-- 'copy' of elements of one cell into a block that is known whole, nil and empty sources too. -/
theorem run_copy_all {P : Program} (w : World) (dT sT ty elem : TypeId) (dp sp : Option Addr) (dLen dCap sLen sCap g off : Nat) (cur : List Value) (t : TypeId) (cs : List Value)
    (hu : P.underlying dT = some (.slice elem)) (hsz : (P.info? elem).map (·.size) = some 1) (hg : w.heap[g]? = some (.cells cur.toArray t (0, 0))) (hn : cs.length = Nat.min sLen dLen)
    (hpos : 0 < cs.length → dp = some ⟨g, off, none⟩ ∧ ∃ ad, sp = some ad ∧ ∀ j v, cs[j]? = some v → w.cell? (ad.add j) = some v)
    (hfit : off + cs.length ≤ cur.length) (h1 : ∀ v ∈ cs, v.oneCell' = true) :
    (Builtin.copy_ #[dT, sT] ty #[.slice dp dLen dCap, .slice sp sLen sCap]).run P w = .ok (goInt cs.length) (w.setRow g (splice cur off cs).toArray) := by
  by_cases h0 : cs.length = 0
  · obtain rfl : cs = [] := List.eq_nil_of_length_eq_zero h0
    have hs : w.setRow g (splice cur off []).toArray = w := by
      have : (splice cur off []).toArray = cur.toArray := by simp [splice]
      rw [this]; exact setRow_self w g _ t (0, 0) hg
    rw [hs]
    have hm : Nat.min sLen dLen = 0 := by simpa using hn.symm
    cases hq : P.info? elem with
    | none => simp [hq] at hsz
    | some i =>
      have hi : i.size = 1 := by simpa [hq] using hsz
      cases dp <;> cases sp <;> simp [Builtin.copy_, run_underlying hu, Builtin.lenOf, Builtin.firstCells, sizeOf, typeInfo, hq, hm, loadCells, loadCellsFrom, storeCells]
  · obtain ⟨rfl, ad, rfl, hsrc⟩ := hpos (by omega)
    have := run_copy_row (P := P) w dT sT ty elem g off dLen dCap ad sLen sCap cur.toArray t cs hu hsz hg hn hsrc (by simpa using hfit) h1
    simpa [splice] using this

theorem src_cells {w : World} {b o n : Nat} {zs : List Int} (h : Src w (some ⟨b, o, none⟩) n zs) : ∀ j v, (zs.map (Value.int .u8))[j]? = some v → w.cell? ((⟨b, o, none⟩ : Addr).add j) = some v := by
  intro j v hv
  rw [List.getElem?_map] at hv
  obtain ⟨z, hz, rfl⟩ := Option.map_eq_some_iff.1 hv
  have hj : j < n := by have := (List.getElem?_eq_some_iff.1 hz).1; rw [h.1] at this; exact this
  obtain ⟨b', o', e, _, hc⟩ := h.2 (by omega)
  injection e with e; injection e with e1 e2; subst e1; subst e2
  rw [Addr.add_lit, hc j hj]
  simp [List.getD, hz]

/-- Bytes, copied over a row of 2048 bytes. -/
theorem copy_over (w : World) (ty : TypeId) (dp sp : Option Addr) (sLen sCap g k : Nat) (zs bs : List Int) (hg : w.heap[g]? = some (.cells (zs.map (Value.int .u8)).toArray 5 (0, 0))) (hz : zs.length = 2048) (hs : Src w sp sLen bs)
    (hk : k + sLen ≤ 2048) (hdp : k < 2048 → dp = some ⟨g, k, none⟩) :
    (Builtin.copy_ #[27, 27] ty #[.slice dp (2048 - k) (2048 - k), .slice sp sLen sCap]).run Try.prog w = .ok (goInt sLen) (w.setRow g ((splice zs k bs).map (Value.int .u8)).toArray) := by
  have h := run_copy_all (P := Try.prog) w 27 27 ty 5 dp sp (2048 - k) (2048 - k) sLen sCap g k (zs.map (Value.int .u8)) 5 (bs.map (Value.int .u8)) Try.underlying27 csize5 hg
    (by rw [List.length_map, hs.1]; exact (Nat.min_eq_left (by omega)).symm)
    (fun hl => by
      rw [List.length_map, hs.1] at hl
      obtain ⟨b, o, rfl, _⟩ := hs.2 hl
      exact ⟨hdp (by omega), _, rfl, src_cells hs⟩)
    (by rw [List.length_map, List.length_map, hs.1, hz]; exact hk) (ints_oneCell _ _)
  rw [List.length_map, hs.1] at h
  rw [h]
  congr 3
  simp [splice, List.map_append, List.map_take, List.map_drop]

end Go.Proofs.Ytnmgapnblmikeaa
