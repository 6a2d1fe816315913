/- A list of calls of a file system, as it lies. -/
import Derived.Test.YtdnblbahecpmkaaUpd
namespace Go.Proofs.Ytdnblbahecpmkaa
open Go.RowKit
set_option linter.unusedVariables false

structure Doat (w : World) (b o i : Nat) (x0 x1 x2 x3 : Int) (t4 t5 : ByteArray) (ab : Option Addr) (lb cb : Nat) (zs : List Int) : Prop where
  c0 : w.cell? ⟨b, o + i * 7, none⟩ = some (.int .i64 x0)
  c1 : w.cell? ⟨b, o + i * 7 + 1, none⟩ = some (.int .i64 x1)
  c2 : w.cell? ⟨b, o + i * 7 + 2, none⟩ = some (.int .i64 x2)
  c3 : w.cell? ⟨b, o + i * 7 + 3, none⟩ = some (.int .i64 x3)
  c4 : w.cell? ⟨b, o + i * 7 + 4, none⟩ = some (.string t4)
  c5 : w.cell? ⟨b, o + i * 7 + 5, none⟩ = some (.string t5)
  c6 : w.cell? ⟨b, o + i * 7 + 6, none⟩ = some (.slice ab lb cb)
  b0 : -9223372036854775808 ≤ x0 ∧ x0 ≤ 9223372036854775807
  b2 : -9223372036854775808 ≤ x2 ∧ x2 ≤ 9223372036854775807
  b3 : -9223372036854775808 ≤ x3 ∧ x3 ≤ 9223372036854775807
  src : Src w ab lb zs
  le : lb ≤ cb
  lt : b < w.heap.size
  reach : lb ≤ 140737488355328
  nil : ab = none → lb = 0 ∧ cb = 0

def Dos (w : World) (al : Option Addr) (ll : Nat) : Prop :=
  0 < ll → ∃ b o, al = some ⟨b, o, none⟩ ∧ ∀ i, i < ll → ∃ x0 x1 x2 x3 t4 t5 ab lb cb zs, Doat w b o i x0 x1 x2 x3 t4 t5 ab lb cb zs

theorem Doat.below {w w' : World} {b o i : Nat} {x0 x1 x2 x3 : Int} {t4 t5 : ByteArray} {ab : Option Addr} {lb cb : Nat} {zs : List Int} (h : Doat w b o i x0 x1 x2 x3 t4 t5 ab lb cb zs) (u : Below w.heap.size w w') : Doat w' b o i x0 x1 x2 x3 t4 t5 ab lb cb zs :=
  ⟨(u.cell (p := ⟨b, _, none⟩) h.lt).trans h.c0, (u.cell (p := ⟨b, _, none⟩) h.lt).trans h.c1, (u.cell (p := ⟨b, _, none⟩) h.lt).trans h.c2, (u.cell (p := ⟨b, _, none⟩) h.lt).trans h.c3, (u.cell (p := ⟨b, _, none⟩) h.lt).trans h.c4, (u.cell (p := ⟨b, _, none⟩) h.lt).trans h.c5, (u.cell (p := ⟨b, _, none⟩) h.lt).trans h.c6, h.b0, h.b2, h.b3, h.src.below u, h.le, Nat.lt_of_lt_of_le h.lt u.size, h.reach, h.nil⟩

end Go.Proofs.Ytdnblbahecpmkaa
