/- The references of arguments; a visitor that keeps a list of them. -/
import Derived.Test.YtkgejeamcgodhaaGU1
import Derived.Test.YtkgejeamcgodhaaGUInt
import Derived.Deep.AppendLies
import Derived.Deep.RegionLaw
namespace Go.Proofs.Ytkgejeamcgodhaa
open Go.RowKit
set_option linter.unusedVariables false
set_option maxRecDepth 20000

/-- The references within an argument, from outside in. -/
def refsA : Nat → Ar → List Int
  | 0, _ => []
  | d + 1, A => (if A.h.k = 2 then [A.h.v] else []) ++ A.ks.flatMap (refsA d)
/-- How many arguments it is, with all within. -/
def cntA : Nat → Ar → Nat
  | 0, _ => 0
  | d + 1, A => 1 + (A.ks.map (cntA d)).sum
def refsL (d : Nat) (qs : List Ar) : List Int := qs.flatMap (refsA d)
def cntL (d : Nat) (qs : List Ar) : Nat := (qs.map (cntA d)).sum

theorem flat_le (f : Ar → List Int) (g : Ar → Nat) : ∀ (qs : List Ar), (∀ A, (f A).length ≤ g A) → (qs.flatMap f).length ≤ (qs.map g).sum
  | [], _ => by simp
  | A :: qs, h => by
    have := flat_le f g qs h
    have := h A
    simp only [List.flatMap_cons, List.length_append, List.map_cons, List.sum_cons]
    omega
theorem refs_le : ∀ (d : Nat) (A : Ar), (refsA d A).length ≤ cntA d A
  | 0, _ => by simp [refsA]
  | d + 1, A => by
    have := flat_le (refsA d) (cntA d) A.ks (refs_le d)
    simp only [refsA, cntA, List.length_append]
    have h1 : (if A.h.k = 2 then [A.h.v] else []).length ≤ 1 := by split <;> simp
    omega
theorem refsL_le (d : Nat) (qs : List Ar) : (refsL d qs).length ≤ cntL d qs := flat_le _ _ qs (refs_le d)
theorem refsL_more (d : Nat) (qs : List Ar) (i : Nat) (h : i < qs.length) : refsL d (qs.take (i + 1)) = refsL d (qs.take i) ++ refsA d qs[i] := by
  unfold refsL
  rw [List.take_add_one, List.getElem?_eq_getElem h, List.flatMap_append]
  simp
theorem cntL_more (d : Nat) (qs : List Ar) (i : Nat) (h : i < qs.length) : cntL d (qs.take (i + 1)) = cntL d (qs.take i) + cntA d qs[i] := by
  unfold cntL
  rw [List.take_add_one, List.getElem?_eq_getElem h, List.map_append, List.sum_append]
  simp
theorem sum_take (l : List Nat) (i : Nat) : (l.take i).sum ≤ l.sum := by
  have : l.sum = (l.take i).sum + (l.drop i).sum := by rw [← List.sum_append, List.take_append_drop]
  omega
theorem cntL_le (d : Nat) (qs : List Ar) (i : Nat) : cntL d (qs.take i) ≤ cntL d qs := by
  unfold cntL
  rw [List.map_take]
  exact sum_take _ _

/-- A list that a visitor keeps: a cell alone in its block names it, and it lies in a block of its own. -/
structure Acc (W : World) (p : Nat) (kv : Value) (zs : List Int) : Prop where
  blk : W.heap[p]? = some (.cells #[kv] 44 (0, 0))
  own : W.ownsRow (p + 1) 3 1 kv zs.length (zs.map (Value.int .i64))
/-- What of memory it changes. -/
def Ch (p : Nat) (kv : Value) : Nat → Prop := fun x => x = p ∨ some x = kv.ownBlock
def Later (W : World) (kv kv' : Value) : Prop := ∀ g, kv'.ownBlock = some g → kv.ownBlock = some g ∨ W.heap.size ≤ g
theorem Later.refl (W : World) (kv : Value) : Later W kv kv := fun _ h => .inl h
theorem Later.trans {W W1 : World} {kv kv1 kv2 : Value} (h : Later W kv kv1) (h1 : Later W1 kv1 kv2) (hs : W.heap.size ≤ W1.heap.size) : Later W kv kv2 := fun g hg => by
  rcases h1 g hg with e | e
  · exact h g e
  · exact .inr (by omega)
theorem Ch.trans {p : Nat} {W W1 W2 : World} {kv kv1 : Value} (u : Upd (Ch p kv) W W1) (h : Later W kv kv1) (v : Upd (Ch p kv1) W1 W2) : Upd (Ch p kv) W W2 :=
  u.trans v (fun x hx hG => by
    rcases hG with e | e
    · exact .inl e
    · rcases h x e.symm with e' | e'
      · exact .inr e'.symm
      · omega)
theorem own_at {W : World} {B n : Nat} {kv : Value} {xs : List Value} (h : W.ownsRow B 3 1 kv n xs) {g : Nat} (e : kv.ownBlock = some g) : B ≤ g ∧ g < W.heap.size := h.lt g e
theorem own_move {w w' : World} {base n : Nat} {kv : Value} {xs : List Value} (h : w.ownsRow base 3 1 kv n xs) (hb : ∀ x, x < w.heap.size → some x = kv.ownBlock → w'.heap[x]? = w.heap[x]?) : w'.ownsRow base 3 1 kv n xs := by
  refine ⟨h.1, ?_⟩
  rcases h.2 with h | ⟨g, cap, cur, e, h1, h2, r⟩
  · exact .inl h
  · exact .inr ⟨g, cap, cur, e, h1, (hb g (Array.getElem?_eq_some_iff.1 h2).1 (by rw [e]; simp [Value.ownBlock])).trans h2, r⟩
theorem Acc.below {W W' : World} {p : Nat} {kv : Value} {zs : List Int} (h : Acc W p kv zs) (hb : Below W.heap.size W W') : Acc W' p kv zs :=
  ⟨(hb.block p (Array.getElem?_eq_some_iff.1 h.blk).1).trans h.blk, own_move h.own (fun x hx _ => hb.block x hx)⟩

theorem acc_put {W X Z w3 : World} {p g cap : Nat} {kv : Value} {zs : List Int} {v : Int} (hB : Below W.heap.size W X) (hA : Acc X p kv zs) (hs : X.heap.size = W.heap.size + 1) (bp : w3.heap[p]? = some (.cells #[kv] 44 (0, 0)))
    (ho : w3.ownsRow (p + 1) 3 1 (.slice (some ⟨g, 0, none⟩) (zs.length + 1) cap) (zs.length + 1) (zs.map (Value.int .i64) ++ [Value.int .i64 v])) (hZ : Below X.heap.size X Z) (hg : Z.grownBy w3 kv.ownBlock) (hat : kv.ownBlock = some g ∨ g = X.heap.size + 1) (hlt : g < w3.heap.size) :
    Acc (w3.setCell ⟨p, 0, none⟩ (.slice (some ⟨g, 0, none⟩) (zs.length + 1) cap)) p (.slice (some ⟨g, 0, none⟩) (zs.length + 1) cap) (zs ++ [v]) ∧ Upd (Ch p kv) W (w3.setCell ⟨p, 0, none⟩ (.slice (some ⟨g, 0, none⟩) (zs.length + 1) cap)) ∧ Later W kv (.slice (some ⟨g, 0, none⟩) (zs.length + 1) cap) := by
  have hpX : p < X.heap.size := (Array.getElem?_eq_some_iff.1 hA.blk).1
  have hgp : p + 1 ≤ g := by
    rcases hat with e | e
    · exact (own_at hA.own e).1
    · omega
  refine ⟨⟨?_, ?_⟩, ?_, fun g' hg' => ?_⟩
  · rw [heap_setCell_same _ _ _ _ _ _ bp]
    simp
  · have := own_move (w' := w3.setCell ⟨p, 0, none⟩ (.slice (some ⟨g, 0, none⟩) (zs.length + 1) cap)) ho (fun x hx e => heap_setCell_other w3 ⟨p, 0, none⟩ x _ (by
      simp [Value.ownBlock] at e
      show x ≠ p
      omega))
    simpa using this
  · have u1 : Upd (Ch p kv) W X := Upd.of_below hB
    have u2 : Upd (Ch p kv) X Z := Upd.of_below hZ
    have u3 : Upd (Ch p kv) Z w3 := (Upd.of_grown hg).mono (fun x _ hx => .inr hx)
    have u4 : Upd (Ch p kv) w3 (w3.setCell ⟨p, 0, none⟩ (.slice (some ⟨g, 0, none⟩) (zs.length + 1) cap)) := Upd.setCell w3 _ _ (.inl rfl)
    exact ((u1.trans u2 (fun _ _ h => h)).trans u3 (fun _ _ h => h)).trans u4 (fun _ _ h => h)
  · obtain rfl : g = g' := by simpa [Value.ownBlock] using hg'
    rcases hat with e | e
    · exact .inl e
    · exact .inr (by omega)

set_option maxHeartbeats 8000000 in
theorem uses1_any (W : World) (p : Nat) (kv : Value) (zs : List Int) (b o : Nat) (h : Hd) (ra : Option Addr) (rn rc : Nat) (hA : Acc W p kv zs) (hb : b < W.heap.size) (hbp : b ≠ p) (hbk : some b ≠ kv.ownBlock) (hat : HdAt W b o h) (hsz : zs.length + 1 ≤ 17592186044416) :
    Calls Try.prog 51 #[.agg (spZ b o ra rn rc).toArray, .pointer (some ⟨p, 0, none⟩)] W fun e W' => e = .returned (.bool true) ∧ ∃ kv', Acc W' p kv' (zs ++ if h.k = 2 then [h.v] else []) ∧ Upd (Ch p kv) W W' ∧ Later W kv kv' := by
  have hpW : p < W.heap.size := (Array.getElem?_eq_some_iff.1 hA.blk).1
  obtain ⟨X, gX⟩ : ∃ X, W.alloc (.cells (spZ b o ra rn rc).toArray 81) = X := ⟨_, rfl⟩
  have hBX : Below W.heap.size W X := by rw [← gX]; exact below_box W _
  have x0 : X.heap[W.heap.size]? = some (.cells (spZ b o ra rn rc).toArray 81 (0, 0)) := by rw [← gX]; exact heap_alloc_new _ _
  have s0 : X.cell? ⟨W.heap.size, 0, none⟩ = some (.pointer (some ⟨b, o, none⟩)) := by rw [cell_of_row _ _ 0 _ _ _ x0]; rfl
  have hsX : X.heap.size = W.heap.size + 1 := by rw [← gX]; simp
  have q0 : X.cell? ⟨b, o, none⟩ = some (.int .i64 h.k) := (hBX.cell (p := ⟨b, o, none⟩) hb).trans hat.c0
  have q1 : X.cell? ⟨b, o + 1, none⟩ = some (.int .i64 h.v) := (hBX.cell (p := ⟨b, o + 1, none⟩) hb).trans hat.c1
  have hAX := hA.below hBX
  have c0 : X.cell? ⟨p, 0, none⟩ = some kv := by rw [cell_of_row _ _ 0 _ _ _ hAX.blk]; rfl
  have HA := hid hAX
  have HB := hid hBX
  have HX0 : Hid (W.alloc (.cells #[.pointer (some ⟨b, o, none⟩), .int .i64 (-1), .int .i64 0, .int .i64 0, .int .i64 0, .int .i64 0, .int .i64 0, .string .empty, .slice none 0 0, .slice none 0 0, .slice none 0 0, .slice none 0 0, .slice ra rn rc, .slice none 0 0, .slice none 0 0] 81) = X) := hid gX
  have HKX : Hid (∀ x, x < X.heap.size → some x = kv.ownBlock → x < W.heap.size) := hid (fun x _ e => (own_at hA.own e.symm).2)
  clear hA hat gX x0 hAX hBX
  unfold spZ
  by_cases hk : h.k = 2
  · rw [hk] at q0
    rw [if_pos hk]
    rw [← HX0.out] at q0 q1 s0 c0
    go_enter Try.func51, Try.ntmps51
    go_wp2_with fail
    rw [HX0.out]
    rw [HX0.out] at q0 q1 s0 c0
    obtain ⟨i0, hi0, hz0, hz1, hz2⟩ := info_parts infoInt
    have HO2 : Hid (∀ w' : World, w'.heap = X.heap → ∀ o, (w'.alloc o).ownsRow (p + 1) 3 1 kv zs.length (zs.map (Value.int .i64))) := hid (fun w' e o => own_move HA.out.own (fun x hx _ => by
      have h1 : x < w'.heap.size := by rw [e]; exact hx
      rw [(below_box w' o).block x h1, e]))
    have hpX : p < X.heap.size := by omega
    have hpk : some p ≠ kv.ownBlock := fun e => by have := (own_at HA.out.own e.symm).1; omega
    have HSX := hid hsX
    have hbX : b < X.heap.size := by omega
    have hwX : W.heap.size < X.heap.size := by omega
    clear hsX
    go_region_law (first
      | (refine step_append_lies _ (by rfl) _ _ 44 (by rfl) (p + 1) 3 i0 _ 1 8 Try.underlying44 hi0 hz0 hz1 hz2 rfl (by decide) kv zs.length (zs.map (Value.int .i64)) (by rfl) (HO2.out _ (by rfl) _) ⟨X.heap.size, 0, none⟩ 1 1 [.int .i64 h.v] (by rfl) rfl (World.news_of_block (heap_alloc_new _ _)) (by simp [Value.oneCell']) (by decide) (by unfold maxLen; omega) (by omega) (by simp; omega) (X.heap.size + 1) (by simp) ?_; intro g cap w3 hown3 hgrow hat3 hlt3; have bp : w3.heap[p]? = some (.cells #[kv] 44 (0, 0)) := (hgrow.block p (by show p < (X.alloc _).heap.size; simp; omega) hpk).trans (((below_box X _).block p hpX).trans HA.out.blk); have c3 : w3.cell? ⟨p, 0, none⟩ = some kv := (by rw [cell_of_row _ _ 0 _ _ _ bp]; rfl); have fz3 : w3.frozen? ⟨p, 0, none⟩ = false := (by simp [World.frozen?, bp]); have HBP := hid bp; have HO3 := hid hown3; have HG3 := hid hgrow; have HAT := hid hat3; have HLT := hid hlt3; clear bp hown3 hgrow hat3 hlt3))
    all_goals
      have HN := hid (acc_put (v := h.v) HB.out HA.out HSX.out HBP.out HO3.out (below_hp (below_box X _) (by rfl) (by rfl) (by rfl) (by rfl)) HG3.out HAT.out HLT.out)
      clear fz3 c3
      go_wp2_with fail
      go_ret
      exact ⟨rfl, _, HN.out.1, HN.out.2.1, HN.out.2.2⟩
  · rw [if_neg hk]
    rw [← HX0.out] at q0 q1 s0 c0
    go_enter Try.func51, Try.ntmps51
    go_wp2_with fail
    rw [HX0.out]
    go_ret
    exact ⟨rfl, kv, by rw [List.append_nil]; exact HA.out, Upd.of_below HB.out, Later.refl _ _⟩

end Go.Proofs.Ytkgejeamcgodhaa
