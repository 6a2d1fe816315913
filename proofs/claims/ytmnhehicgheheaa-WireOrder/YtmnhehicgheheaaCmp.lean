/- What bytes.Compare does, for every two slices of bytes: it tells how they stand in the order of texts; nothing turns. -/
import Derived.Test.YtmnhehicgheheaaChecked
import Derived.Test.YtmnhehicgheheaaLaw
import Derived.Lib.Bytealg
import Derived.Lib.BytesEntry
namespace Go.Proofs.Ytmnhehicgheheaa
open Go.RowKit

theorem Src.load {P : Program} {w : World} {a0 : Option Addr} {len cap : Nat} {zs : List Int} (h : Src w a0 len zs) :
    (Extern.Bytes.bytesOf (.slice a0 len cap)).run P w = .ok ⟨(Lib.bytesOf zs).toArray⟩ w := by
  rcases Nat.eq_zero_or_pos len with h0 | h0
  · subst h0
    obtain rfl : zs = [] := List.eq_nil_of_length_eq_zero h.1
    cases a0 <;> rfl
  · obtain ⟨b, o, rfl, hlt, hc⟩ := h.2 h0
    have := Lib.run_loadBytesX (P := P) w zs ⟨b, o, none⟩ .empty (fun j x hj => by
      have hjl : j < zs.length := (List.getElem?_eq_some_iff.1 hj).1
      rw [Addr.add_lit, hc j (by have := h.1; omega)]
      simp [List.getD, hj])
    rw [h.1] at this
    have he : (⟨ByteArray.empty.data ++ (Lib.bytesOf zs).toArray⟩ : ByteArray) = ⟨(Lib.bytesOf zs).toArray⟩ := by
      apply ByteArray.ext
      show (#[] : Array UInt8) ++ (Lib.bytesOf zs).toArray = (Lib.bytesOf zs).toArray
      simp
    rw [Extern.Bytes.bytesOf, this, he]

theorem run_compare {P : Program} (w : World) (a0 a1 : Option Addr) (n c m d : Nat) (xs ys : List Int) (h0 : Src w a0 n xs) (h1 : Src w a1 m ys) :
    (Extern.BytealgCompare.compare #[.slice a0 n c, .slice a1 m d]).run P w = .ok (.int .i64 (Lib.compareBytes (Lib.bytesOf xs) (Lib.bytesOf ys))) w := by
  change Sem.run P (do pure (goInt (Extern.BytealgCompare.cmp (← Extern.Bytes.bytesOf (.slice a0 n c)) (← Extern.Bytes.bytesOf (.slice a1 m d))))) w = _
  simp only [Sem.run_bind, Sem.run_pure, h0.load, h1.load, Result.andThen]
  rw [Lib.cmp_eq]
  rfl

set_option maxHeartbeats 400000 in
theorem cmp_any (a0 a1 : Option Addr) (n c m d : Nat) (xs ys : List Int) (w : World) (h0 : Src w a0 n xs) (h1 : Src w a1 m ys) :
    Calls Try.prog 24 #[.slice a0 n c, .slice a1 m d] w fun e w' => e = .returned (.int .i64 (Lib.compareBytes (Lib.bytesOf xs) (Lib.bytesOf ys))) ∧ w' = w := by
  obtain ⟨v, hv⟩ : ∃ v, v = Lib.compareBytes (Lib.bytesOf xs) (Lib.bytesOf ys) := ⟨_, rfl⟩
  have hrun := run_compare (P := Try.prog) w a0 a1 n c m d xs ys h0 h1
  rw [← hv] at hrun ⊢
  clear hv h0 h1
  go_enter Try.func24, Try.ntmps24
  go_wp2
  rw [run_callFunc_extern Try.func33 (by kernel_rfl) (by kernel_rfl) (by kernel_rfl) (e := Extern.BytealgCompare.compare) (by kernel_rfl), hrun]
  simp only [Result.andThen]
  rw [Oper.upon_value]
  go_wp2
  go_ret
  exact ⟨rfl, rfl⟩

end Go.Proofs.Ytmnhehicgheheaa
