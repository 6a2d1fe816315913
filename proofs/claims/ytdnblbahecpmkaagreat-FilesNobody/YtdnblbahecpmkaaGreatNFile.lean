/- What node, file, Hold, Stat and needed do at a node that is there. -/
import Derived.Test.YtdnblbahecpmkaaGreatNMake2
namespace Go.Proofs.YtdnblbahecpmkaaGreat
open Go.RowKit Go.ChangeMaps Go.MapKept
set_option linter.unusedVariables false
set_option maxRecDepth 20000

set_option maxHeartbeats 1000000 in
theorem node_yes (p : Nat) (S : Sg) (w : World) (H : Sy w p S) (i : Nat) (h1 : 1 ≤ i) (h2 : i < 17) (hk : (S.P i).k ≠ 0) :
    Calls Tryz.prog 43 #[.pointer (some ⟨p, 0, none⟩), .int .i64 (i : Int)] w fun e w' => e = .returned (.tuple #[.pointer (some ⟨p, 1 + i * 107, none⟩), .int .i64 0]) ∧ w' = w := by
  have k0 := hid H.usable
  have k1 := hid (isthere_any p (1 + i * 107) _ w (H.k i h2))
  rw [show decide ((S.P i).k ≠ 0) = true by simp [hk]] at k1
  have c1 : ¬ (i : Int) < 1 := by omega
  have c2 : ¬ (16 : Int) < (i : Int) := by omega
  have c3 : (0 : Int) ≤ (i : Int) := by omega
  have c4 : (i : Int) < 17 := by omega
  clear H hk
  go_enter Tryz.func43, Tryz.ntmps43
  go_wp2_with fail
  refine k0.out.mono ?_
  rintro e w1 ⟨rfl, rfl⟩
  clear k0
  go_wp2_with fail
  refine k1.out.mono ?_
  rintro e w1 ⟨rfl, rfl⟩
  clear k1
  go_wp2_with fail
  go_ret2
  exact ⟨rfl, rfl⟩

set_option maxHeartbeats 1000000 in
theorem file_yes (p : Nat) (S : Sg) (w : World) (H : Sy w p S) (i : Nat) (h1 : 1 ≤ i) (h2 : i < 17) (hk : (S.P i).k = 1) :
    Calls Tryz.prog 57 #[.pointer (some ⟨p, 0, none⟩), .int .i64 (i : Int)] w fun e w' => e = .returned (.tuple #[.pointer (some ⟨p, 1 + i * 107, none⟩), .int .i64 0]) ∧ w' = w := by
  have k0 := hid (node_yes p S w H i h1 h2 (by omega))
  have k1 := hid (isdir_any p (1 + i * 107) _ w (H.k i h2))
  rw [show decide ((S.P i).k = 2) = false by simp [hk]] at k1
  clear H hk
  go_enter Tryz.func57, Tryz.ntmps57
  go_wp2_with fail
  refine k0.out.mono ?_
  rintro e w1 ⟨rfl, rfl⟩
  clear k0
  go_wp2_with fail
  refine k1.out.mono ?_
  rintro e w1 ⟨rfl, rfl⟩
  clear k1
  go_wp2_with fail
  go_ret2
  exact ⟨rfl, rfl⟩

/-- A node that differs in one of its first cells. -/
theorem ndC_set0 (x : Nd) (k : Nat) (h : k < 4) (v : Value) (y : Nd) (hy : ndC y = (ndC x).set k v) (j : Nat) (hj : j ≠ k) : (ndC y)[j]? = (ndC x)[j]? := by
  rw [hy, List.getElem?_set_ne (fun e => hj e.symm)]

def Nd.size (x : Nd) (s : Nat) : Nd := { x with s := s }
def Nd.hold (x : Nd) (h : Int) : Nd := { x with h := h }
theorem ndC_size (x : Nd) (s : Nat) : ndC (x.size s) = (ndC x).set 3 (.int .i64 (s : Int)) := by simp [ndC, Nd.size]
theorem ndC_hold (x : Nd) (h : Int) : ndC (x.hold h) = (ndC x).set 2 (.int .i64 h) := by simp [ndC, Nd.hold]

/-- A node with another one in its place. -/
def Sg.at_ (S : Sg) (i : Nat) (x : Nd) : Sg := { S with P := updN S.P i x }
theorem Sg.at_same (S : Sg) (i : Nat) (x : Nd) : (S.at_ i x).P i = x := updN_same _ _ _
theorem Sg.at_at (S : Sg) (i : Nat) (x y : Nd) : (S.at_ i x).at_ i y = S.at_ i y := by
  unfold Sg.at_ updN
  congr 1
  funext j
  by_cases e : j = i <;> simp [e]
theorem Sg.at_self (S : Sg) (i : Nat) : S.at_ i (S.P i) = S := by
  unfold Sg.at_ updN
  have : (fun j => if j = i then S.P i else S.P j) = S.P := by
    funext j
    by_cases e : j = i <;> simp [e]
  rw [this]

theorem Sy.sizeTo {w : World} {p : Nat} {S : Sg} (h : Sy w p S) (i : Nat) (hi : i < 17) (s : Nat) : Sy (w.setCell ⟨p, 1 + i * 107 + 3, none⟩ (.int .i64 (s : Int))) p (S.at_ i ((S.P i).size s)) :=
  h.set i hi ((S.P i).size s) ⟨(h.ok i hi).b, (h.ok i hi).B⟩ rfl rfl 3 (by omega) _ rfl (fun j hj e => ndC_set0 _ 3 (by omega) _ _ (ndC_size _ _) j e)
theorem Sy.holdTo {w : World} {p : Nat} {S : Sg} (h : Sy w p S) (i : Nat) (hi : i < 17) (s : Int) : Sy (w.setCell ⟨p, 1 + i * 107 + 2, none⟩ (.int .i64 s)) p (S.at_ i ((S.P i).hold s)) :=
  h.set i hi ((S.P i).hold s) ⟨(h.ok i hi).b, (h.ok i hi).B⟩ rfl rfl 2 (by omega) _ rfl (fun j hj e => ndC_set0 _ 2 (by omega) _ _ (ndC_hold _ _) j e)

set_option maxHeartbeats 1000000 in
theorem hold_yes (p : Nat) (S : Sg) (w : World) (H : Sy w p S) (i : Nat) (h1 : 1 ≤ i) (h2 : i < 17) (hk : (S.P i).k ≠ 0) (n : Nat) (hh : (S.P i).h = (n : Int)) (hn : n < 1000) :
    Calls Tryz.prog 27 #[.pointer (some ⟨p, 0, none⟩), .int .i64 (i : Int)] w fun e w' => e = .returned (.int .i64 0) ∧ Sy w' p (S.at_ i ((S.P i).hold ((n + 1 : Nat) : Int))) ∧ Upd (· = p) w w' := by
  have k0 := hid (node_yes p S w H i h1 h2 hk)
  have c := H.h i h2
  rw [hh] at c
  have f := H.fz (1 + i * 107 + 2)
  have c1 : ¬ (n : Int) = 1000 := by omega
  have HS := hid (H.holdTo i h2 ((n + 1 : Nat) : Int))
  have c5 : wrap64 ((n : Int) + 1) = (n : Int) + 1 := by unfold wrap64; omega
  clear H hk hh
  go_enter Tryz.func27, Tryz.ntmps27
  go_wp2_with fail
  refine k0.out.mono ?_
  rintro e w1 ⟨rfl, rfl⟩
  clear k0
  go_wp2_with fail
  go_ret
  exact ⟨rfl, HS.out, Upd.setCell (F := (· = p)) _ ⟨p, _, none⟩ _ rfl⟩

theorem needed_any (s : Nat) (hs : s ≤ 4000) (w : World) : Calls Tryz.prog 76 #[.int .i64 (s : Int)] w fun e w' => e = .returned (.int .i64 (((s + 15) / 16 : Nat) : Int)) ∧ w' = w := by
  have c1 : IntKind.i64.wrap ((s : Int) + 16) = (s : Int) + 16 := by rw [IntKind.wrap_i64]; omega
  have c2 : IntKind.i64.wrap ((s : Int) + 16 - 1) = (s : Int) + 15 := by rw [IntKind.wrap_i64]; omega
  go_enter Tryz.func76, Tryz.ntmps76
  go_wp2_with fail
  go_ret
  refine ⟨?_, rfl⟩
  show Ending.returned (Value.int .i64 (((s : Int) + 15) / 16)) = _
  congr 2

end Go.Proofs.YtdnblbahecpmkaaGreat
