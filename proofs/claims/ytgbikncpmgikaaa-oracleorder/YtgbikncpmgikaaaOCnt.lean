/- How often numbers stand in a list; records of numbers as they lie; what opened does. -/
import Derived.Test.YtgbikncpmgikaaaOMap
import Derived.Carry
namespace Go.Proofs.Ytgbikncpmgikaaa
open Go.RowKit
set_option linter.unusedVariables false
set_option maxRecDepth 20000

/-- How often a number stands in a list. -/
def cn (L : List Int) : Int → Nat := fun k => L.count k
theorem cn_snoc (L : List Int) (x : Int) : cn (L ++ [x]) = inc (cn L) x := by
  funext k
  by_cases h : k = x
  · subst h; simp [cn, inc]
  · simp [cn, inc, h, List.count_append, Ne.symm h]
theorem cn_le (L : List Int) (k : Int) : cn L k ≤ L.length := List.count_le_length
theorem cn_perm {L L' : List Int} (h : L.Perm L') : cn L = cn L' := funext fun k => h.count_eq k

/-- A record of numbers. -/
abbrev Rec := Nat → Int
def rec0 : Rec := fun _ => 0
/-- Records of so many cells, as they lie. -/
structure Recs (w : World) (sz : Nat) (a : Option Addr) (l : List Rec) : Prop where
  wf : ∀ x ∈ l, ∀ i, W64 (x i)
  ex : 0 < l.length → ∃ b o, a = some ⟨b, o, none⟩ ∧ b < w.heap.size ∧ ∀ j, j < l.length → ∀ i, i < sz → w.cell? ⟨b, o + j * sz + i, none⟩ = some (.int .i64 (l.getD j rec0 i))
theorem Recs.upd {G : Nat → Prop} {w w' : World} {sz : Nat} {a : Option Addr} {l : List Rec} (h : Recs w sz a l) (u : Upd G w w') (hG : ∀ b o, a = some ⟨b, o, none⟩ → b < w.heap.size → 0 < l.length → ¬ G b) : Recs w' sz a l :=
  ⟨h.wf, fun hn => by
    obtain ⟨b, o, e, hb, hc⟩ := h.ex hn
    exact ⟨b, o, e, Nat.lt_of_lt_of_le hb u.size, fun j hj i hi => (World.cell?_of_block (a := ⟨b, o + j * sz + i, none⟩) (u.block b hb (hG b o e hb hn))).trans (hc j hj i hi)⟩⟩
theorem take_snoc {α : Type} (l : List α) (i : Nat) (d : α) (h : i < l.length) : l.take (i + 1) = l.take i ++ [l.getD i d] := by
  rw [List.take_add_one]
  simp [List.getD, h]
theorem getD_mem {α : Type} (l : List α) (i : Nat) (d : α) (h : i < l.length) : l.getD i d ∈ l := by
  simp [List.getD, h]

/-- Of which the open files of a kind are. -/
def opn (kind : Int) (l : List Rec) : List Int := l.filterMap fun f => if f 1 = kind then some (f 2) else none
theorem opn_len (kind : Int) (l : List Rec) : (opn kind l).length ≤ l.length := List.length_filterMap_le _ _

theorem opn_snoc (kind : Int) (l : List Rec) (x : Rec) : opn kind (l ++ [x]) = opn kind l ++ (if x 1 = kind then [x 2] else []) := by
  unfold opn
  rw [List.filterMap_append]
  by_cases q : x 1 = kind
  · simp [q]
  · simp [q]

set_option maxHeartbeats 2000000 in
theorem opened_any (w : World) (a : Option Addr) (l : List Rec) (c : Nat) (kind : Int) (hR : Recs w 6 a l) (hl : l.length ≤ 35184372088832) :
    Calls Try.prog 18 #[.slice a l.length c, .int .i64 kind] w fun e w' => ∃ N, e = .returned (.map (some w.heap.size)) ∧ Oc w' w.heap.size l.length N (cn (opn kind l)) ∧ Upd (fun _ => False) w w' := by
  have HR := hid hR
  obtain ⟨n, gn⟩ : ∃ n, n = l.length := ⟨_, rfl⟩
  have GN := hid gn
  rw [← gn] at hl ⊢
  clear hR gn
  have hmm := @run_makeMap Try.prog
  go_enter Try.func18, Try.ntmps18
  go_wp2_with fail
  clear hmm
  go_loopw [11] (fun k wr => ∃ (i : Nat), i ≤ n ∧ k = .int .i64 i ∧ Hid (∃ N, Oc wr w.heap.size i N (cn (opn kind (l.take i)))) ∧ Hid (Upd (fun _ => False) w wr)) (fun k _ => n - (intOf k).toNat)
  case atStart => exact ⟨0, by omega, rfl, hid ⟨0, Oc.none w⟩, hid (Upd.alloc _ _ _)⟩
  case round =>
    obtain ⟨i, hi, rfl, HM, HU⟩ := hrel
    rename World => wr
    by_cases hlt : i < n
    · have hln : i < l.length := by rw [← GN.out]; exact hlt
      obtain ⟨b, o, rfl, hbl, hc⟩ := (HR.out.upd HU.out (fun _ _ _ _ _ h => h)).ex (by omega)
      have hw := HR.out.wf _ (getD_mem l i rec0 hln)
      have HT : Hid (opn kind (l.take (i + 1)) = opn kind (l.take i) ++ (if l.getD i rec0 1 = kind then [l.getD i rec0 2] else [])) := by
        refine hid ?_
        rw [take_snoc l i rec0 hln, opn_snoc]
      have c0 := hc i hln 0 (by omega)
      have c1 := hc i hln 1 (by omega)
      have c2 := hc i hln 2 (by omega)
      have c3 := hc i hln 3 (by omega)
      have c4 := hc i hln 4 (by omega)
      have c5 := hc i hln 5 (by omega)
      rw [Nat.add_zero] at c0
      have w2 := hid (hw 2)
      generalize l.getD i rec0 0 = x0 at *
      generalize l.getD i rec0 1 = x1 at *
      generalize l.getD i rec0 2 = x2 at *
      generalize l.getD i rec0 3 = x3 at *
      generalize l.getD i rec0 4 = x4 at *
      generalize l.getD i rec0 5 = x5 at *
      clear hc hw
      obtain ⟨N, hO⟩ := HM.out
      have HO := hid hO
      clear hO HM
      have hLe := hid (Nat.le_trans (cn_le (opn kind (l.take i)) x2) (Nat.le_trans (opn_len _ _) (List.length_take_le i l)))
      generalize opn kind (l.take i) = L at *
      have hms := HO.out.lt
      by_cases hq : x1 = kind
      · have HTn : Hid (cn (opn kind (l.take (i + 1))) = inc (cn L) x2) := hid (by rw [HT.out, if_pos hq, cn_snoc])
        have hX : Upd (fun _ => False) wr (wr.alloc (.cells #[.int .i64 x0, .int .i64 x1, .int .i64 x2, .int .i64 x3, .int .i64 x4, .int .i64 x5] 30)) := Upd.alloc _ _ _
        have hOX := HO.out.upd hX (fun h => h)
        have hlk := oc_look hOX w2.out
        have hle := hLe.out
        obtain ⟨w3, hup, hO3, hU3⟩ := oc_inc hOX w2.out (by show i < maxLen; unfold maxLen; omega) (by omega)
        have hwr : IntKind.i64.wrap ((cn L x2 : Int) + 1) = (cn L x2 : Int) + 1 := by rw [IntKind.wrap_i64]; omega
        have HO3 : Hid (∃ N, Oc w3 w.heap.size (i + 1) N (cn (opn kind (l.take (i + 1))))) := hid ⟨_, by rw [HTn.out]; exact hO3⟩
        have HU3 : Hid (Upd (fun _ => False) w w3) := hid ((HU.out.trans hX (fun _ _ h => h)).trans hU3 (fun x h1 h2 => by omega))
        generalize (cn L x2 : Int) = fi at hlk hup hwr
        clear hOX hX hO3 hU3 hle
        subst hq
        go_wp2_with fail
        go_roundw
        case rel => exact ⟨i + 1, by omega, by go_num, HO3, HU3⟩
        case measure => simp [intOf]; omega
      · have hq' : (x1 == kind) = false := by simpa using hq
        have hX : Upd (fun _ => False) wr (wr.alloc (.cells #[.int .i64 x0, .int .i64 x1, .int .i64 x2, .int .i64 x3, .int .i64 x4, .int .i64 x5] 30)) := Upd.alloc _ _ _
        have HO3 : Hid (∃ N, Oc (wr.alloc (.cells #[.int .i64 x0, .int .i64 x1, .int .i64 x2, .int .i64 x3, .int .i64 x4, .int .i64 x5] 30)) w.heap.size (i + 1) N (cn (opn kind (l.take (i + 1))))) := hid ⟨N, by rw [HT.out, if_neg hq, List.append_nil]; exact (HO.out.upd hX (fun h => h)).mono (by omega)⟩
        have HU3 : Hid (Upd (fun _ => False) w (wr.alloc (.cells #[.int .i64 x0, .int .i64 x1, .int .i64 x2, .int .i64 x3, .int .i64 x4, .int .i64 x5] 30))) := hid (HU.out.trans hX (fun _ _ h => h))
        clear hX hq
        go_wp2_with fail
        go_roundw
        case rel => exact ⟨i + 1, by omega, by go_num, HO3, HU3⟩
        case measure => simp [intOf]; omega
    · have hin : i = n := by omega
      subst hin
      have HE : Hid (∃ N, Oc wr w.heap.size i N (cn (opn kind l))) := by
        have := HM.out
        rw [List.take_of_length_le (by rw [← GN.out]; exact Nat.le_refl _)] at this
        exact hid this
      clear HM
      go_wp2_with fail
      go_ret
      obtain ⟨N, hN⟩ := HE.out
      exact ⟨N, rfl, hN, HU.out⟩

end Go.Proofs.Ytgbikncpmgikaaa
