/- Texts of this seat, merged. -/
import Derived.Test.YtbglhmcahnkbfaaGreatHMg40

/- The program's processes: New. -/
namespace Go.Proofs.YtbglhmcahnkbfaaGreat
open Go.RowKit Go.ChangeMaps Go.MapKept
set_option linter.unusedVariables false
set_option maxRecDepth 20000

def tabG (f : Nat) (d : Int) : List Value := .pointer (some ⟨f, 0, none⟩) :: .int .i64 d :: List.replicate 45 (.int .i64 0)
theorem builtTabG (f : Nat) (d : Int) : Tryz.prog.built 82 [(0, .pointer (some ⟨f, 0, none⟩)), (1, .int .i64 d)] = some (tabG f d).toArray :=
  congrFun (congrFun (show (fun (f : Nat) (d : Int) => Tryz.prog.built 82 [(0, .pointer (some ⟨f, 0, none⟩)), (1, .int .i64 d)]) = (fun f d => some (tabG f d).toArray) by kernel_rfl) f) d
theorem tabG_hls (f : Nat) (d : Int) : Hls (tabG f d) f d (fun _ => noGp) := by
  refine ⟨rfl, rfl, rfl, fun i hi j hj => ?_⟩
  have h : (gpC noGp)[j]? = some (.int .i64 0) := by
    rcases nine hj with rfl | rfl | rfl | ⟨m, hm, rfl⟩
    · rfl
    · rfl
    · rfl
    · rw [gpC_fd _ m hm]; rfl
  rw [h]
  unfold tabG
  rw [show 2 + i * 9 + j = (i * 9 + j) + 1 + 1 by omega, List.getElem?_cons_succ, List.getElem?_cons_succ, List.getElem?_replicate, if_pos (by omega)]
theorem newG_Q (d : Int) : (newG d).Q = updG (fun _ => noGp) 1 { noGp with st := 1 } := by
  funext i
  show (if i = 1 then (⟨1, 0, 0, fun _ => 0⟩ : Gp) else noGp) = if i = 1 then { noGp with st := 1 } else noGp
  rfl
theorem hold0 {T : Ft} (hT : TOk T) : T.hold 0 = (T, 9) := by
  unfold Ft.hold
  rw [if_pos]
  unfold Ft.there
  rw [decide_eq_false_iff_not]
  omega

set_option maxHeartbeats 2000000 in
theorem gnew_any (w : World) (f : Nat) (T : Ft) (G : Nat → Prop) (HP : Tp w f T G) (hT : TOk T) (d : Int) :
    Calls Tryz.prog 24 #[.pointer (some ⟨f, 0, none⟩), .int .i64 d] w fun e w' => ∃ p, e = .returned (.pointer (some ⟨p, 0, none⟩)) ∧ (T.F.d = d → Zp w' p f ⟨(newG d).Q, T⟩ (fun b => G b ∨ w.heap.size ≤ b)) ∧ Upd G w w' := by
  have k1 := hid (tphold w f T G HP hT 0)
  rw [hold0 hT] at k1
  obtain ⟨Z, gZ⟩ : ∃ Z, Z = tabG f d := ⟨_, rfl⟩
  have HT : Hid (Tryz.prog.built 82 [(0, .pointer (some ⟨f, 0, none⟩)), (1, .int .i64 d)] = some Z.toArray) := by rw [gZ]; exact hid (builtTabG _ _)
  have HZ : Hid (Hls Z f d (fun _ => noGp)) := by rw [gZ]; exact hid (tabG_hls _ _)
  have z11 : Z[11]? = some (.int .i64 0) := by rw [gZ]; rfl
  have zl : Z.length = 47 := HZ.out.len
  clear gZ HP hT
  go_enter Tryz.func24, Tryz.ntmps24
  go_wp2_with fail
  refine k1.out.mono ?_
  rintro e w1 ⟨rfl, h1⟩
  have H1 := hid h1
  clear h1 k1
  go_wp2_with (refine wpList_build_is rfl 82 #[(0, .tmp 9), (1, .tmp 10)] rfl Z.toArray (by simpa [Act.eval] using HT.out) ?_)
  go_ret
  obtain ⟨hp, hu⟩ := H1.out
  have hb := one_new w1 (Obj.cells (Z.set 11 (Value.int .i64 1)).toArray 82)
  have hth : Th (w1.alloc (Obj.cells (Z.set 11 (Value.int .i64 1)).toArray 82)) w1.heap.size f d (newG d).Q := by
    refine ⟨Z.set 11 (Value.int .i64 1), heap_alloc_new _ _, ?_⟩
    rw [newG_Q]
    refine HZ.out.put 1 (by omega) _ (by simp [zl]) (fun j hj => by rw [List.getElem?_set_ne (by omega)]) (fun j hj => ?_)
    by_cases e : j = 0
    · subst e; rw [List.getElem?_set_self (by omega)]; rfl
    · rw [List.getElem?_set_ne (by omega), HZ.out.at_ 1 (by omega) j hj]
      rcases nine hj with rfl | rfl | rfl | ⟨m, hm, rfl⟩
      · exact absurd rfl e
      · rfl
      · rfl
      · rw [gpC_fd _ m hm, gpC_fd _ m hm]
  refine ⟨w1.heap.size, rfl, fun ed => ⟨fun b => (G b ∨ w.heap.size ≤ b) ∧ b < w1.heap.size, ⟨?_, (hp.mono (fun b hb hG => ⟨hG, hb⟩)).grow hb, fun e => Nat.lt_irrefl _ e.2⟩, .inr hu.size, fun b hb => hb.1⟩, hu.trans (Upd.of_below (F := fun _ => False) hb) (fun _ _ h => h.elim)⟩
  show Th _ _ _ T.F.d _
  rw [ed]
  exact hth

end Go.Proofs.YtbglhmcahnkbfaaGreat
