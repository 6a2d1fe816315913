/- A table that came in: its lists of parts are no longer than a machine's memory. -/
import Derived.Test.YtkgejeamcgodhaaGOpen
namespace Go.Proofs.Ytkgejeamcgodhaa
open Go.ChangeShapes Go.WideShapes Go.ChangeAt Go.RowKit
set_option linter.unusedVariables false
set_option maxRecDepth 20000

theorem bytes3 : Try.prog.bytesOf 3 = 8 := by kernel_rfl
theorem weightsAll_mem {H : Type} {P : Program} {e : TypeId} : ∀ {l : List (DataW H)} {d : DataW H} {n : Nat}, d ∈ l → n ∈ d.weights P e → n ∈ DataW.weightsAll P e l
  | d0 :: l, d, n, hd, hn => by
    rw [DataW.weightsAll, List.mem_append]
    rcases List.mem_cons.1 hd with rfl | hd
    · exact .inl hn
    · exact .inr (weightsAll_mem hd hn)

theorem li_w {H : Type} {enc : TypeId × Value → H} {W : World} {fuel : Nat} {a : Option Addr} {n c : Nat} {y : DataW H × List MemPlace} (h : DataW.trod enc Try.prog W 0 (fun _ => true) true fuel 44 [.slice a n c] = some y) (hw : ∀ k ∈ y.1.weights Try.prog 44, k ≤ reachBytes) : n ≤ 17592186044416 := by
  rcases Deep.open_slice1 Try.underlying44 cells3 h with ⟨hcs, _⟩ | ⟨a', l, c', m, n', V, D, Pl, hcs, _, hl, hm, hmm, hx, hv⟩
  · simp at hcs
    omega
  · simp at hcs
    obtain ⟨rfl, rfl, rfl⟩ := hcs
    subst hx
    have hr := hw _ (by rw [DataW.weights, Try.underlying44]; exact List.mem_cons_self)
    rw [bytes3] at hr
    simp at hr
    unfold reachBytes at hr
    omega

theorem tys_w {H : Type} {enc : TypeId × Value → H} {W : World} {fuel : Nat} {a : Option Addr} {n c : Nat} {y : DataW H × List MemPlace} (h : DataW.trod enc Try.prog W 0 (fun _ => true) true fuel 22 [.slice a n c] = some y) (hw : ∀ k ∈ y.1.weights Try.prog 22, k ≤ reachBytes) {l : List Ty} (hT : Tys W a l) (hn : l.length = n) : ∀ T ∈ l, T.en ≤ 17592186044416 := by
  intro T hTm
  obtain ⟨i, hi, rfl⟩ := List.mem_iff_getElem.1 hTm
  rcases Deep.open_slice Try.underlying22 h with ⟨hcs, _⟩ | ⟨a', ll, c', m, n', D, Pl, hcs, _, hl, hm, hmm, hx, hv⟩
  · simp at hcs
    omega
  · simp at hcs
    obtain ⟨rfl, rfl, rfl⟩ := hcs
    subst hx
    simp only [if_true] at hmm
    rw [cellsT] at hv
    obtain ⟨b, o, e, _, hat⟩ := hT (by omega)
    injection e with e
    subst e
    have hDi : ∀ k ∈ (D i).weights Try.prog 52, k ≤ reachBytes := fun k hk => hw k (by
      simp only [DataW.weights, Try.underlying22, List.mem_cons, List.mem_append]
      exact .inr (.inl (weightsAll_mem (List.mem_map.2 ⟨i, List.mem_range.2 (by omega), rfl⟩) hk)))
    obtain ⟨cs', h1, h2⟩ := hv i (by omega)
    obtain ⟨_, hlen, hcell⟩ := World.cells?_some h1
    obtain ⟨xs, k, hk, hxy, _, hxl, hf⟩ := DataW.trod_struct Try.underlying52 h2
    match xs, hxl, cs', hlen with
    | [y0, y1, y2, y3, y4, y5, y6, y7, y8, y9], _, [v0, v1, v2, v3, v4, v5, v6, v7, v8, v9], _ =>
      have g8 := hf 8 _ rfl
      simp [cellsI] at g8
      have e8 := hcell 8 (by omega)
      rw [Deep.add_add, add_plain] at e8
      have c8 := (hat i hi).1.c8
      simp only [Prod.mk.injEq] at hxy
      rw [hxy.1] at hDi
      rw [show o + i * 10 + 8 = o + (i * 10 + 8) by omega] at c8
      rw [c8] at e8
      simp at e8
      subst e8
      exact li_w g8 (fun k hk => hDi k (by
        simp [DataW.weights, Try.underlying52, DataW.weightsEach, hk]))

/-- Of a table that came in, no list of parts is longer. -/
theorem table_w {H : Type} {enc : TypeId × Value → H} {W : World} {a : Option Addr} {n c : Nat} {a2 : Option Addr} {m c2 : Nat} {d : DataW H} {p : List MemPlace}
    (h : DataW.Trod enc Try.prog W 0 (fun _ => true) true 25 (.agg #[.slice a n c, .slice a2 m c2]) d p) (hw : ∀ k ∈ d.weights Try.prog 25, k ≤ reachBytes) {l : List Ty} (hT : Tys W a l) (hn : l.length = n) : ∀ T ∈ l, T.en ≤ 17592186044416 := by
  obtain ⟨fuel, hf⟩ := h
  obtain ⟨y0, y1, k, hxy, _, h0, h1⟩ := trod_struct2 Try.underlying25 hf
  simp [Value.cells, cellsTT, cellsCC] at h0 h1
  simp only [Prod.mk.injEq] at hxy
  rw [hxy.1] at hw
  exact tys_w h0 (fun k hk => hw k (by
    simp [DataW.weights, Try.underlying25, DataW.weightsEach]
    exact .inl hk)) hT hn

end Go.Proofs.Ytkgejeamcgodhaa
