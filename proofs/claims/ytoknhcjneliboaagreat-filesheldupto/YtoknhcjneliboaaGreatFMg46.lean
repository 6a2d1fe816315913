/- Texts of this seat, merged. -/
import Derived.Test.YtoknhcjneliboaaGreatFMg1
import Derived.Test.YtoknhcjneliboaaGreatChecked
import Derived.DeepKeys5
import Derived.WideKeyEntry

/- A map of pairs of numbers to counts: what a look-up and 'm[k]++' do. -/
namespace Go.Proofs.YtoknhcjneliboaaGreat.Tm
open Go.RowKit Go.MapKept
set_option linter.unusedVariables false
set_option maxRecDepth 20000

/-- A pair as a key. -/
def pk (a b : Int) : Value := .agg #[.int .i64 a, .int .i64 b]
theorem pk_inj {a b c d : Int} (h : pk a b = pk c d) : a = c ∧ b = d := by
  unfold pk at h
  injection h with h
  simp at h
  exact h
theorem laidOut0 : laidOutB Tryz.prog = true := by kernel_rfl
theorem pairLaw : WideMaps.KeyLaw Tryz.prog 41 := deep_law_laid (m := 2) laidOut0 (by omega) (of_decide_eq_true (by kernel_rfl)) (by kernel_rfl) (by kernel_rfl)
/-- Pairs that are met. -/
def Rg (a b : Int) : Prop := -1 ≤ a ∧ a ≤ 1125899906842624 ∧ -1 ≤ b ∧ b ≤ 1125899906842624
set_option maxHeartbeats 1000000 in
theorem pk_key (a b : Int) (h : Rg a b) : ∃ l, keyOf Tryz.prog 41 (pk a b) = some l := by
  have hw : ∀ x : Int, -1 ≤ x → x ≤ 1125899906842624 → (Lit.int .i64 x).wf = true := fun x h1 h2 => by
    have e1 : IntKind.i64.min = -9223372036854775808 := by decide
    have e2 : IntKind.i64.max = 9223372036854775807 := by decide
    simp only [Lit.wf, e1, e2, Bool.and_eq_true, decide_eq_true_eq]
    omega
  have ha := hw a h.1 h.2.1
  have hb := hw b h.2.2.1 h.2.2.2
  have hs : Tryz.prog.types.size + 1 = 248 + 1 + 1 := by kernel_rfl
  have hk : Tryz.prog.keyType 41 = true := by kernel_rfl
  have hc : Tryz.prog.cellsOf 41 = 2 := by kernel_rfl
  have hc3 : Tryz.prog.cellsOf 3 = 1 := by kernel_rfl
  have hf : (pk a b).formed Tryz.prog 41 = true := by
    unfold pk Value.formed
    rw [Tryz.underlying41]
    simp [hc]
  unfold keyOf
  rw [Tryz.underlying41]
  dsimp only
  rw [hk, hf, hs]
  have l3 : ∀ x : Int, (Lit.int .i64 x).wf = true → Tryz.prog.keyLits (248 + 1) 3 [.int .i64 x] = some [.int .i64 x] := fun x hx => by
    unfold Program.keyLits
    rw [Tryz.underlying3]
    simp [hx]
  have hL : Tryz.prog.keyLits (248 + 1 + 1) 41 [.int .i64 a, .int .i64 b] = some [.int .i64 a, .int .i64 b] := by
    unfold Program.keyLits
    rw [Tryz.underlying41]
    simp only [hc]
    simp [hc3]
    have l4 : ∀ x : Int, (Lit.int .i64 x).wf = true → Tryz.prog.keyLits 249 3 [.int .i64 x] = some [.int .i64 x] := l3
    refine ⟨[[.int .i64 a], [.int .i64 b]], ?_, rfl⟩
    rw [show List.range 2 = [0, 1] from rfl]
    simp [List.mapM_cons, l4 a ha, l4 b hb]
  have e : (pk a b).cells.toList = [.int .i64 a, .int .i64 b] := rfl
  rw [e, hL]
  exact ⟨_, rfl⟩

/-- What the entries of a map of counts say. -/
def Rel (es : Array MapEntry) (F : Int → Int → Nat) : Prop :=
  (∀ x ∈ es.toList, ∃ a b, Rg a b ∧ x.key = pk a b ∧ x.val = .int .i64 (F a b)) ∧ ∀ a b, (∀ x ∈ es.toList, x.key ≠ pk a b) → F a b = 0
/-- A map of counts lies at m. -/
def Mp (w : World) (m : Nat) (F : Int → Int → Nat) : Prop := ∃ es clock, w.heap[m]? = some (.map es clock) ∧ Stamped es clock ∧ Rel es F
theorem Mp.none {w : World} {m : Nat} (h : w.heap[m]? = some (.map #[] 0)) : Mp w m (fun _ _ => 0) := ⟨#[], 0, h, stamped_empty 0, fun x hx => by simp at hx, fun _ _ _ => rfl⟩
theorem Mp.upd {G : Nat → Prop} {w w' : World} {m : Nat} {F : Int → Int → Nat} (h : Mp w m F) (u : Upd G w w') (hG : ¬ G m) : Mp w' m F := by
  obtain ⟨es, cl, h1, h2⟩ := h; exact ⟨es, cl, u.heap h1 hG, h2⟩
theorem Mp.lt {w : World} {m : Nat} {F : Int → Int → Nat} (h : Mp w m F) : m < w.heap.size := by
  obtain ⟨es, cl, h1, _⟩ := h; exact (Array.getElem?_eq_some_iff.1 h1).1

def incF (F : Int → Int → Nat) (a b : Int) : Int → Int → Nat := fun c d => if c = a ∧ d = b then F a b + 1 else F c d

theorem upd_setBlock (w : World) (m : Nat) (o : Obj) : Upd (· = m) w { w with heap := w.heap.setIfInBounds m o } :=
  ⟨rfl, rfl, rfl, by simp, fun k _ hk => by simp [Ne.symm hk]⟩
theorem heap_setBlock {w : World} {m : Nat} {o o' : Obj} (h : w.heap[m]? = some o) : ({ w with heap := w.heap.setIfInBounds m o' } : World).heap[m]? = some o' := by
  have := (Array.getElem?_eq_some_iff.1 h).1
  simp [this]

theorem keys_rel {es : Array MapEntry} {F : Int → Int → Nat} (h : Rel es F) : ∀ e ∈ es.toList, ∃ l, keyOf Tryz.prog 41 e.key = some l := fun e he => by
  obtain ⟨a, b, hr, hk, _⟩ := h.1 e he
  rw [hk]; exact pk_key a b hr

theorem mp_lookup {w : World} {m : Nat} {F : Int → Int → Nat} (h : Mp w m F) (a b : Int) (hr : Rg a b) :
    (Instr.lookup 36 (.map (some m)) (pk a b) false).run Tryz.prog w = .ok (.int .i64 (F a b)) w := by
  obtain ⟨es, clock, hb, hs, hR⟩ := h
  obtain ⟨l, hkey⟩ := pk_key a b hr
  have hc := fun em => pairLaw.check w em hkey
  rcases pairLaw.find w hkey es.toList (keys_rel hR) with ⟨h1, h2⟩ | ⟨j, e0, h1, h2, h3⟩
  · have h0 := hR.2 a b h2
    simp [Instr.lookup, run_underlying Tryz.underlying36, Go.MapKept.run_getObj_map hb, hc, h1, h0, Result.andThen]
  · obtain ⟨a', b', _, hk, hv⟩ := hR.1 e0 (List.mem_of_getElem? h2)
    obtain ⟨rfl, rfl⟩ := pk_inj (hk.symm.trans h3)
    simp [Instr.lookup, run_underlying Tryz.underlying36, Go.MapKept.run_getObj_map hb, hc, h1, hv, Result.andThen]

/-- What is stored into an entry. -/
theorem mp_store {w : World} {m : Nat} {F : Int → Int → Nat} {es : Array MapEntry} {clock : Nat} (hb : w.heap[m]? = some (.map es clock)) (hs : Stamped es clock) (hR : Rel es F) {j : Nat} {e0 : MapEntry} (hj : es.toList[j]? = some e0) {a b : Int} (hk : e0.key = pk a b) :
    ∃ w2, (Instr.entryStore 36 (.map (some m)) (goInt e0.born) (.int .i64 ((F a b : Int) + 1))).run Tryz.prog w = .ok () w2 ∧ Mp w2 m (incF F a b) ∧ Upd (· = m) w w2 := by
  obtain ⟨s1, s2, s3⟩ := hs
  have hidx : es.findIdx? (fun e => ((e.born : Nat) : Int) == ((e0.born : Nat) : Int)) = some j := by
    rw [WideElems.findIdx_arr]
    exact WideElems.findIdx_born s2 hj
  have hmod : (es.modify j (fun e => { e with val := Value.int .i64 ((F a b : Int) + 1) })).toList = es.toList.set j { e0 with val := .int .i64 ((F a b : Int) + 1) } := by
    rw [Array.toList_modify, Go.ChangeMaps.modify_eq_set _ _ _ _ hj]
  refine ⟨{ w with heap := w.heap.setIfInBounds m (.map (es.modify j (fun e => { e with val := Value.int .i64 ((F a b : Int) + 1) })) clock) }, by simp [Instr.entryStore, Go.MapKept.run_getObj_map hb, asInt, asIntOf, goInt, hidx, Go.MapKept.run_setObj_map _ hb, Result.andThen], ⟨_, clock, heap_setBlock hb, stamped_modify ⟨s1, s2, s3⟩ j _ (fun e _ => rfl) (fun e _ _ => rfl), ?_, ?_⟩, upd_setBlock _ _ _⟩
  · intro x hx
    rw [hmod] at hx
    obtain ⟨i, hi⟩ := List.getElem?_of_mem hx
    by_cases hij : i = j
    · subst hij
      have hjl : i < es.toList.length := (List.getElem?_eq_some_iff.1 hj).1
      rw [List.getElem?_set_self hjl] at hi
      obtain rfl := Option.some.inj hi
      obtain ⟨c, d, hr, hxk, _⟩ := hR.1 e0 (List.mem_of_getElem? hj)
      obtain ⟨rfl, rfl⟩ := pk_inj (hxk.symm.trans hk)
      exact ⟨c, d, hr, hxk, by simp [incF]⟩
    · rw [List.getElem?_set_ne (Ne.symm hij)] at hi
      obtain ⟨c, d, hr, hxk, hxv⟩ := hR.1 x (List.mem_of_getElem? hi)
      by_cases hcd : c = a ∧ d = b
      · obtain ⟨rfl, rfl⟩ := hcd
        have g1 : (es.toList.map (·.key))[i]? = some (pk c d) := by rw [List.getElem?_map, hi]; simp [hxk]
        have g2 : (es.toList.map (·.key))[j]? = some (pk c d) := by rw [List.getElem?_map, hj]; simp [hk]
        obtain ⟨hil, g1'⟩ := List.getElem?_eq_some_iff.1 g1
        obtain ⟨hjl, g2'⟩ := List.getElem?_eq_some_iff.1 g2
        rcases Nat.lt_or_ge i j with q | q
        · exact absurd (g1'.trans g2'.symm) (List.pairwise_iff_getElem.1 s3 i j hil hjl q)
        · exact absurd (g2'.trans g1'.symm) (List.pairwise_iff_getElem.1 s3 j i hjl hil (by omega))
      · exact ⟨c, d, hr, hxk, by rw [hxv]; simp [incF, hcd]⟩
  · intro c d hn
    have hne : ¬ (c = a ∧ d = b) := fun h => by
      obtain ⟨rfl, rfl⟩ := h
      have hjl : j < es.toList.length := (List.getElem?_eq_some_iff.1 hj).1
      exact hn { e0 with val := .int .i64 ((F c d : Int) + 1) } (by rw [hmod]; exact List.mem_set hjl _) hk
    simp only [incF, hne, if_false]
    refine hR.2 c d fun x hx hxk => ?_
    obtain ⟨i, hi⟩ := List.getElem?_of_mem hx
    by_cases hij : i = j
    · subst hij
      rw [hj] at hi
      obtain rfl := Option.some.inj hi
      obtain ⟨rfl, rfl⟩ := pk_inj (hk.symm.trans hxk)
      exact hne ⟨rfl, rfl⟩
    · refine hn x ?_ hxk
      rw [hmod]
      exact List.mem_of_getElem? (i := i) (by rw [List.getElem?_set_ne (Ne.symm hij)]; exact hi)

/-- An entry is made, or found; then it is stored into. -/
theorem mp_entry {w : World} {m : Nat} {F : Int → Int → Nat} (h : Mp w m F) (a b : Int) (hr : Rg a b) :
    ∃ v0 st w1, (Instr.mapEntry 36 (.map (some m)) (pk a b)).run Tryz.prog w = .ok (.tuple #[v0, st]) w1 ∧ Mp w1 m F ∧ Upd (· = m) w w1 ∧
      ∃ w2, (Instr.entryStore 36 (.map (some m)) st (.int .i64 ((F a b : Int) + 1))).run Tryz.prog w1 = .ok () w2 ∧ Mp w2 m (incF F a b) ∧ Upd (· = m) w1 w2 := by
  obtain ⟨es, clock, hb, hs, hR⟩ := h
  obtain ⟨l, hkey⟩ := pk_key a b hr
  have hc := fun em => pairLaw.check w em hkey
  rcases pairLaw.find w hkey es.toList (keys_rel hR) with ⟨h1, h2⟩ | ⟨j, e0, h1, h2, h3⟩
  · have h0 := hR.2 a b h2
    have hb1 : ({ w with heap := w.heap.setIfInBounds m (.map (es.push ⟨pk a b, .int .i64 0, clock⟩) (clock + 1)) } : World).heap[m]? = some (.map (es.push ⟨pk a b, .int .i64 0, clock⟩) (clock + 1)) := heap_setBlock hb
    have hs1 : Stamped (es.push ⟨pk a b, .int .i64 0, clock⟩) (clock + 1) := stamped_push hs h2
    have hR1 : Rel (es.push ⟨pk a b, .int .i64 0, clock⟩) F := by
      refine ⟨fun x hx => ?_, fun c d hn => ?_⟩
      · rw [Array.toList_push] at hx
        rcases List.mem_append.1 hx with hx | hx
        · exact hR.1 x hx
        · obtain rfl : x = _ := by simpa using hx
          exact ⟨a, b, hr, rfl, by rw [h0]; rfl⟩
      · exact hR.2 c d fun x hx => hn x (by rw [Array.toList_push]; exact List.mem_append_left _ hx)
    have hj : (es.push ⟨pk a b, .int .i64 0, clock⟩).toList[es.toList.length]? = some ⟨pk a b, .int .i64 0, clock⟩ := by
      rw [Array.toList_push]; simp
    obtain ⟨w2, k1, k2, k3⟩ := mp_store hb1 hs1 hR1 hj (a := a) (b := b) rfl
    refine ⟨.int .i64 0, goInt clock, _, ?_, ⟨_, _, hb1, hs1, hR1⟩, upd_setBlock _ _ _, w2, k1, k2, k3⟩
    simp [Instr.mapEntry, run_underlying Tryz.underlying36, Go.MapKept.run_getObj_map hb, hc, h1, Go.MapKept.run_setObj_map _ hb, Result.andThen]
  · have hj : es[j]? = some e0 := by simpa using h2
    have hsame : es.modify j (fun e => { e with key := pk a b }) = es := by
      apply Array.ext'
      rw [Array.toList_modify, Go.ChangeMaps.modify_eq_set _ _ _ _ h2]
      have : ({ e0 with key := pk a b } : MapEntry) = e0 := by rw [← h3]
      rw [this]
      exact WideElems.set_self _ _ _ h2
    have hb1 : ({ w with heap := w.heap.setIfInBounds m (.map es clock) } : World).heap[m]? = some (.map es clock) := heap_setBlock hb
    obtain ⟨w2, k1, k2, k3⟩ := mp_store hb1 hs hR h2 h3
    refine ⟨e0.val, goInt e0.born, _, ?_, ⟨_, _, hb1, hs, hR⟩, upd_setBlock _ _ _, w2, k1, k2, k3⟩
    simp [Instr.mapEntry, run_underlying Tryz.underlying36, Go.MapKept.run_getObj_map hb, hc, h1, hj, h3, pairLaw.stays w hkey, hsame, Go.MapKept.run_setObj_map _ hb, Result.andThen]

end Go.Proofs.YtoknhcjneliboaaGreat.Tm
