/- Texts of this seat, merged. -/
import Derived.Test.YtoknhcjneliboaaGreatFMg13
import Derived.Test.YtoknhcjneliboaaGreatFMg10
import Derived.Test.YtoknhcjneliboaaGreatFMg12

/- What the document's Look does, and slices.Equal of what both tell. -/
namespace Go.Proofs.YtoknhcjneliboaaGreat.Pi
open Go.RowKit Lend
set_option linter.unusedVariables false
set_option maxRecDepth 20000

set_option maxHeartbeats 2000000 in
theorem rlook_any (B q g : Nat) (d : Int) (A : Nat → Option Addr × Nat) (R : Nat → Pp) (w : World) (h : Rt B w q g d A R) :
    Calls Tryz.prog 47 #[.pointer (some ⟨q, 0, none⟩)] w fun e w' => ∃ v, e = .returned v ∧ w'.ownsRow w.heap.size 51 4 v (countP R 5) (looks R 5) ∧ Below w.heap.size w w' := by
  obtain ⟨i0, hi0, hz0, hz1, hz2⟩ := info_parts Tryz.info51
  have e1 := h.cellL
  have H := hid h
  clear h
  go_enter Tryz.func47, Tryz.ntmps47
  go_wp2_with fail
  go_loopw [3, 11] (fun v s wr => ∃ j : Nat, j ≤ 5 ∧ s = .int .i64 j ∧ Hid (wr.ownsRow w.heap.size 51 4 v (countP R j) (looks R j)) ∧ Hid (Below w.heap.size w wr)) (fun _ s _ => 5 - (intOf s).toNat)
  case atStart => exact ⟨0, by omega, rfl, hid (World.ownsRow_nil _ _ _ _), hid (Below.refl _ _)⟩
  case round =>
    obtain ⟨j, hj5, rfl, HR, HB⟩ := hrel
    by_cases h5 : j < 5
    · have c3 : (0 : Int) ≤ j := by omega
      have c4 : (j : Int) < 5 := by omega
      have hT := H.out.below HB.out
      have y0 := hT.cell0 j h5
      have y1 := hT.cell1 j h5
      have y2 := hT.cell2 j h5
      have y3 := hT.cell3 j h5
      simp only [rsl] at y3
      have hcl := countP_le R j
      obtain ⟨r, gr⟩ : ∃ r, r = (R j).r := ⟨_, rfl⟩
      obtain ⟨u, gu⟩ : ∃ u, u = (R j).w := ⟨_, rfl⟩
      obtain ⟨n, gn⟩ : ∃ n, n = (R j).q.length := ⟨_, rfl⟩
      obtain ⟨aa, ga⟩ : ∃ aa, aa = (A j).1 := ⟨_, rfl⟩
      obtain ⟨cc, gc⟩ : ∃ cc, cc = (A j).2 := ⟨_, rfl⟩
      rw [← gr] at y1
      rw [← gu] at y2
      rw [← gn, ← ga, ← gc] at y3
      cases ht : (R j).there
      · rw [ht] at y0
        obtain ⟨wA, gA⟩ : ∃ wA, wA = wr.alloc (.cells #[.bool false, .int .i64 r, .int .i64 u, .slice aa n cc] 153) := ⟨_, rfl⟩
        have hbA : Below wr.heap.size wr wA := by rw [gA]; exact (Below.refl _ _).alloc (Nat.le_refl _) _
        have HT := hid ht
        have HBA := hid hbA
        have GA := hid gA
        clear hT ht gr gu gn ga gc gA hbA
        go_wp2_with fail
        rw [← GA.out]
        go_roundw
        case rel => exact ⟨j + 1, by omega, by go_num, by simpa [countP, looks, HT.out] using hid (own_below HR.out HBA.out), hid (HB.out.trans (HBA.out.mono HB.out.size))⟩
        case measure => simp [intOf]; omega
      · rw [ht] at y0
        have hb1 : Below wr.heap.size wr (wr.alloc (.cells #[.bool true, .int .i64 r, .int .i64 u, .slice aa n cc] 153)) := (Below.refl _ _).alloc (Nat.le_refl _) _
        have hb2 : Below wr.heap.size wr ((wr.alloc (.cells #[.bool true, .int .i64 r, .int .i64 u, .slice aa n cc] 153)).alloc (.cells #[.int .i64 j, .int .i64 r, .int .i64 u, .int .i64 n] 51)) := hb1.alloc hb1.size _
        have HROW := hid (own_below HR.out hb2)
        have HCEL : Hid (∀ a x, [Value.int .i64 j, .int .i64 r, .int .i64 u, .int .i64 n][a]? = some x → ((wr.alloc (.cells #[.bool true, .int .i64 r, .int .i64 u, .slice aa n cc] 153)).alloc (.cells #[.int .i64 j, .int .i64 r, .int .i64 u, .int .i64 n] 51)).cell? ((⟨wr.heap.size + 1, 0, none⟩ : Addr).add a) = some x) := by
          refine hid (fun a x hx => ?_)
          have hh := heap_alloc_new (wr.alloc (.cells #[.bool true, .int .i64 r, .int .i64 u, .slice aa n cc] 153)) (.cells #[.int .i64 j, .int .i64 r, .int .i64 u, .int .i64 n] 51)
          rw [show (wr.alloc (.cells #[.bool true, .int .i64 r, .int .i64 u, .slice aa n cc] 153)).heap.size = wr.heap.size + 1 by simp] at hh
          rw [Addr.add_lit, Nat.zero_add, cell_of_row _ (wr.heap.size + 1) a _ 51 (0, 0) hh]
          simpa using hx
        have hmx : countP R j + 1 ≤ maxLen := by unfold maxLen; omega
        have hby : (countP R j + 1) * 32 ≤ 140737488355328 := by omega
        have hbs : w.heap.size ≤ ((wr.alloc (.cells #[.bool true, .int .i64 r, .int .i64 u, .slice aa n cc] 153)).alloc (.cells #[.int .i64 j, .int .i64 r, .int .i64 u, .int .i64 n] 51)).heap.size := Nat.le_trans HB.out.size hb2.size
        have HMX := hid hmx
        have HBY := hid hby
        have HBS := hid hbs
        have HB2' := hid hb2
        have HT := hid ht
        have GI : Hid (infoCells j (R j) = [.int .i64 j, .int .i64 r, .int .i64 u, .int .i64 n]) := hid (by rw [infoCells, ← gr, ← gu, ← gn])
        clear hT ht gr gu gn ga gc hb1 hb2 hmx hby hbs hcl
        go_wp2_with (at_builtin; go_must (refine wpList_append_own _ rfl (.tmp 18) (.tmp 28) 48 rfl w.heap.size 51 i0 _ 4 32 Tryz.underlying48 hi0 hz0 hz1 hz2 rfl (by decide) _ (countP R j) (looks R j) rfl HROW.out ⟨wr.heap.size + 1, 0, none⟩ 1 1 [.int .i64 j, .int .i64 r, .int .i64 u, .int .i64 n] rfl rfl HCEL.out (by simp [Value.oneCell']) HMX.out HBY.out HBS.out ?_; intro v4 w4 ho4 hg4 hn4))
        have h1 := HB.out.trans (HB2'.out.mono HB.out.size)
        have h2 : Below w.heap.size w w4 := h1.trans ((Upd.of_grown hg4).below h1.size (fun x hx => (HROW.out.lt x hx.symm).1))
        have HN : Hid (w4.ownsRow w.heap.size 51 4 v4 (countP R (j + 1)) (looks R (j + 1))) := by
          simp only [countP, looks, HT.out, if_true]; rw [GI.out]; exact hid ho4
        have HB2 := hid h2
        clear ho4 hg4 hn4 h1 h2
        go_wp2_with fail
        go_roundw
        case rel => exact ⟨j + 1, by omega, by go_num, HN, HB2⟩
        case measure => simp [intOf]; omega
    · obtain rfl : j = 5 := by omega
      go_wp2_with fail
      go_ret
      exact ⟨_, rfl, HR.out, HB.out⟩

theorem looks_clr {P P0 : Nat → Pp} : ∀ n, (∀ i, i < n → P i = clr (P0 i)) → looks P0 n = looks P n ∧ countP P0 n = countP P n
  | 0, _ => ⟨rfl, rfl⟩
  | n + 1, h => by
    obtain ⟨h1, h2⟩ := looks_clr n (fun i hi => h i (by omega))
    have hn := h n (by omega)
    have ht : (P n).there = (P0 n).there := by rw [hn, clr_there]
    simp only [looks, countP, ht, h1, h2]
    cases hh : (P0 n).there
    · simp
    · rw [hn, clr_yes hh]; simp
theorem look_spec (p : Nat) (k : Bool) (P : Nat → Pp) (w : World) (h : Tc w p k P) :
    Calls Tryz.prog 50 #[.pointer (some ⟨p, 0, none⟩)] w fun e w' => ∃ v, e = .returned v ∧ w'.ownsRow w.heap.size 51 4 v (countP P 5) (looks P 5) ∧ Below w.heap.size w w' := by
  obtain ⟨P0, ht, he⟩ := h.ex
  have := looks_clr 5 he
  rw [← this.1, ← this.2]
  exact look_any p k P0 w ht

theorem looks_len (P : Nat → Pp) : ∀ n, (looks P n).length = countP P n * 4
  | 0 => rfl
  | n + 1 => by
    have := looks_len P n
    simp only [looks, countP]; split
    · rw [List.length_append, this]; simp [infoCells]; omega
    · exact this
theorem looks_int (P : Nat → Pp) : ∀ n j, j < (looks P n).length → ∃ y : Int, (looks P n)[j]? = some (.int .i64 y)
  | 0, j, h => by simp [looks] at h
  | n + 1, j, h => by
    have ih := looks_int P n j
    simp only [looks] at h ⊢
    split at h
    · rename_i ht
      rw [if_pos ht]
      rcases Nat.lt_or_ge j (looks P n).length with h1 | h1
      · rw [List.getElem?_append_left h1]; exact ih h1
      · rw [List.getElem?_append_right h1]
        rw [List.length_append] at h
        simp only [infoCells, List.length_cons, List.length_nil] at h ⊢
        obtain hj | hj | hj | hj : j - (looks P n).length = 0 ∨ j - (looks P n).length = 1 ∨ j - (looks P n).length = 2 ∨ j - (looks P n).length = 3 := by omega
        all_goals (rw [hj]; exact ⟨_, rfl⟩)
    · rename_i ht
      rw [if_neg ht]; exact ih h

set_option maxHeartbeats 2000000 in
theorem sequal_yes (v1 v2 : Value) (B n : Nat) (xs : List Value) (w : World) (h1 : w.ownsRow B 51 4 v1 n xs) (h2 : w.ownsRow B 51 4 v2 n xs) (hx : ∀ j, j < xs.length → ∃ y : Int, xs[j]? = some (.int .i64 y)) (hn : n ≤ 5) :
    Calls Tryz.prog 46 #[v1, v2] w fun e w' => e = .returned (.bool true) ∧ w'.heap = w.heap ∧ Upd (fun _ => False) w w' := by
  have hl : xs.length = n * 4 := h1.1
  have shape : ∀ v, w.ownsRow B 51 4 v n xs → ∃ a c, v = .slice a n c ∧ (0 < n → ∃ g, a = some ⟨g, 0, none⟩ ∧ ∀ j x, j < n * 4 → xs[j]? = some x → w.cell? ⟨g, j, none⟩ = some x) := by
    intro v h
    rcases h.2 with ⟨rfl, rfl⟩ | ⟨g, cap, cur, rfl, _⟩
    · exact ⟨none, 0, rfl, fun h => absurd h (Nat.lt_irrefl 0)⟩
    · exact ⟨_, cap, rfl, fun _ => ⟨g, rfl, fun j x hj hx => by rw [h.cellAt j hj]; exact hx⟩⟩
  obtain ⟨a1, c1, rfl, s1⟩ := shape v1 h1
  obtain ⟨a2, c2, rfl, s2⟩ := shape v2 h2
  have S1 := hid s1
  have S2 := hid s2
  have HX := hid hx
  have HL := hid hl
  clear s1 s2 hx h1 h2 shape hl
  go_enter Tryz.func46, Tryz.ntmps46
  go_wp2_with fail
  go_loopw [13] (fun s wr => ∃ j : Nat, j ≤ n ∧ s = .int .i64 j ∧ Hid (wr.heap = w.heap ∧ Upd (fun _ => False) w wr)) (fun s _ => n - (intOf s).toNat)
  case atStart => exact ⟨0, Nat.zero_le _, rfl, hid ⟨rfl, Upd.refl _ _⟩⟩
  case round =>
    obtain ⟨j, hj, rfl, HH⟩ := hrel
    by_cases h : j < n
    · obtain ⟨g1, rfl, k1⟩ := S1.out (by omega)
      obtain ⟨g2, rfl, k2⟩ := S2.out (by omega)
      have hl := HL.out
      obtain ⟨y0, x0⟩ := HX.out (j * 4) (by omega)
      obtain ⟨y1, x1⟩ := HX.out (j * 4 + 1) (by omega)
      obtain ⟨y2, x2⟩ := HX.out (j * 4 + 2) (by omega)
      obtain ⟨y3, x3⟩ := HX.out (j * 4 + 3) (by omega)
      have cv : ∀ g o v, w.cell? ⟨g, o, none⟩ = some v → wr.cell? ⟨g, o, none⟩ = some v := fun g o v hv => by
        rw [← hv]; exact World.cell?_of_block (a := ⟨g, o, none⟩) (by rw [HH.out.1])
      have p0 := cv _ _ _ (k1 _ _ (by omega) x0)
      have p1 := cv _ _ _ (k1 _ _ (by omega) x1)
      have p2 := cv _ _ _ (k1 _ _ (by omega) x2)
      have p3 := cv _ _ _ (k1 _ _ (by omega) x3)
      have q0 := cv _ _ _ (k2 _ _ (by omega) x0)
      have q1 := cv _ _ _ (k2 _ _ (by omega) x1)
      have q2 := cv _ _ _ (k2 _ _ (by omega) x2)
      have q3 := cv _ _ _ (k2 _ _ (by omega) x3)
      clear cv k1 k2 x0 x1 x2 x3 hl S1 S2
      go_wp2_with fail
      go_region_held3 (fun wx => wx.cell? ⟨g1, j * 4, none⟩ = some (.int .i64 y0) ∧ wx.cell? ⟨g1, j * 4 + 1, none⟩ = some (.int .i64 y1) ∧ wx.cell? ⟨g1, j * 4 + 2, none⟩ = some (.int .i64 y2) ∧ wx.cell? ⟨g1, j * 4 + 3, none⟩ = some (.int .i64 y3) ∧ wx.cell? ⟨g2, j * 4, none⟩ = some (.int .i64 y0) ∧ wx.cell? ⟨g2, j * 4 + 1, none⟩ = some (.int .i64 y1) ∧ wx.cell? ⟨g2, j * 4 + 2, none⟩ = some (.int .i64 y2) ∧ wx.cell? ⟨g2, j * 4 + 3, none⟩ = some (.int .i64 y3)) (go_keep) (fail)
      go_wp2_with fail
      go_roundw
      case rel => exact ⟨j + 1, by omega, by go_num, hid ⟨HH.out.1, HH.out.2.drewN 1⟩⟩
      case measure => simp [intOf]; omega
    · obtain rfl : j = n := by omega
      go_wp2_with fail
      go_ret
      exact ⟨rfl, HH.out.1, HH.out.2⟩

end Go.Proofs.YtoknhcjneliboaaGreat.Pi

/- The document's open files as they lie: one block of three cells, one of 55, its file system, its pipes. -/
namespace Go.Proofs.YtoknhcjneliboaaGreat
open Go.RowKit Go.ChangeMaps Go.MapKept
set_option linter.unusedVariables false
set_option maxRecDepth 20000

/-- The document's file system, in blocks D. -/
def Nf (w : World) (x : Nat) (F : Fs) (D : Nat → Prop) : Prop := ∃ g u V, Rf w x g u V F ∧ ∀ b, RfFoot x g u V b → D b
theorem Nf.upd {U : Nat → Prop} {w w' : World} {x : Nat} {F : Fs} {D : Nat → Prop} (h : Nf w x F D) (q : Upd U w w') (hU : ∀ b, b < w.heap.size → D b → ¬ U b) : Nf w' x F D := by
  obtain ⟨g, u, V, h1, h2⟩ := h
  exact ⟨g, u, V, h1.upd q (fun b hb => hU b (h1.foot_lt b hb) (h2 b hb)), h2⟩
theorem Nf.mono {w : World} {x : Nat} {F : Fs} {D D' : Nat → Prop} (h : Nf w x F D) (k : ∀ b, b < w.heap.size → D b → D' b) : Nf w x F D' := by
  obtain ⟨g, u, V, h1, h2⟩ := h
  exact ⟨g, u, V, h1, fun b hb => k b (h1.foot_lt b hb) (h2 b hb)⟩
def NfTo (w : World) (x : Nat) (F : Fs) (D : Nat → Prop) (w' : World) : Prop := Nf w' x F (fun b => D b ∨ w.heap.size ≤ b) ∧ Upd D w w'
theorem NfTo.of {w w' : World} {x g u : Nat} {V : Nat → Value} {F : Fs} {D : Nat → Prop} (hD : ∀ b, RfFoot x g u V b → D b) (k : RfTo w x g u V F w') : NfTo w x F D w' := by
  obtain ⟨V', a, b, c⟩ := k
  exact ⟨⟨g, u, V', a, fun z hz => (c z hz).imp (hD z) id⟩, b.mono (fun z _ hz => hD z hz)⟩

/-- The document's pipes, in blocks D. -/
def PdFoot (q g : Nat) (A : Nat → Option Addr × Nat) (P : Nat → Pi.Pp) (b : Nat) : Prop := b = q ∨ b = g ∨ ∃ i, i < 5 ∧ (Pi.rsl A P i).ownBlock = some b
def Pd (w : World) (q : Nat) (d : Int) (P : Nat → Pi.Pp) (D : Nat → Prop) : Prop := ∃ B g A, Pi.Rt B w q g d A P ∧ ∀ b, PdFoot q g A P b → D b
theorem PdFoot.lt {B : Nat} {w : World} {q g : Nat} {d : Int} {A : Nat → Option Addr × Nat} {P : Nat → Pi.Pp} (h : Pi.Rt B w q g d A P) (b : Nat) (hb : PdFoot q g A P b) : b < w.heap.size := by
  rcases hb with rfl | rfl | ⟨i, hi, e⟩
  · exact h.qlt
  · exact h.glt
  · exact ((h.own i hi).lt b e).2
theorem Pd.upd {U : Nat → Prop} {w w' : World} {q : Nat} {d : Int} {P : Nat → Pi.Pp} {D : Nat → Prop} (h : Pd w q d P D) (u : Upd U w w') (hU : ∀ b, b < w.heap.size → D b → ¬ U b) : Pd w' q d P D := by
  obtain ⟨B, g, A, h1, h2⟩ := h
  have k : ∀ b, PdFoot q g A P b → ¬ U b := fun b hb => hU b (PdFoot.lt h1 b hb) (h2 b hb)
  exact ⟨B, g, A, h1.upd u (k q (.inl rfl)) (k g (.inr (.inl rfl))) (fun i hi b e => k b (.inr (.inr ⟨i, hi, e⟩))), h2⟩
theorem Pd.mono {w : World} {q : Nat} {d : Int} {P : Nat → Pi.Pp} {D D' : Nat → Prop} (h : Pd w q d P D) (k : ∀ b, b < w.heap.size → D b → D' b) : Pd w q d P D' := by
  obtain ⟨B, g, A, h1, h2⟩ := h
  exact ⟨B, g, A, h1, fun b hb => k b (PdFoot.lt h1 b hb) (h2 b hb)⟩
def PdTo (w : World) (q : Nat) (d : Int) (P : Nat → Pi.Pp) (D : Nat → Prop) (w' : World) : Prop := Pd w' q d P (fun b => D b ∨ w.heap.size ≤ b) ∧ Upd D w w'
theorem PdTo.own {B : Nat} {w w' : World} {q g : Nat} {d : Int} {A : Nat → Option Addr × Nat} {P P' : Nat → Pi.Pp} {D : Nat → Prop} (hD : ∀ b, PdFoot q g A P b → D b) (k : ∃ A', Pi.Rt B w' q g d A' P' ∧ Pi.OwnIn A P A' P') (u : Upd (· = g) w w') : PdTo w q d P' D w' := by
  obtain ⟨A', h1, h2⟩ := k
  refine ⟨⟨B, g, A', h1, fun b hb => ?_⟩, u.mono (fun b _ e => hD b (.inr (.inl e)))⟩
  rcases hb with e | e | ⟨i, hi, e⟩
  · exact .inl (hD b (.inl e))
  · exact .inl (hD b (.inr (.inl e)))
  · exact .inl (hD b (.inr (.inr ⟨i, hi, h2 i hi b e⟩)))
theorem PdTo.left {B : Nat} {w w' : World} {q g : Nat} {d : Int} {A : Nat → Option Addr × Nat} {P P' : Nat → Pi.Pp} {D : Nat → Prop} (hD : ∀ b, PdFoot q g A P b → D b) (k : Pi.Left B w w' q g d A P P') : PdTo w q d P' D w' := by
  obtain ⟨⟨A', h1, h2⟩, u⟩ := k
  refine ⟨⟨B, g, A', h1, fun b hb => ?_⟩, u.mono (fun b _ e => hD b (.inr (.inl e)))⟩
  rcases hb with e | e | ⟨i, hi, e⟩
  · exact .inl (hD b (.inl e))
  · exact .inl (hD b (.inr (.inl e)))
  · exact (h2 i hi b e).imp (fun h => hD b (.inr (.inr ⟨i, hi, h⟩))) id

/-- The files' cells. -/
structure Gls (C : List Value) (O : Nat → Fl) : Prop where
  len : C.length = 55
  at_ : ∀ i, i < 11 → ∀ j, j < 5 → C[i * 5 + j]? = (flC (O i))[j]?
def Gf (w : World) (g : Nat) (O : Nat → Fl) : Prop := ∃ C, w.heap[g]? = some (.cells (List.toArray C) 124 (0, 0)) ∧ Gls C O
section
variable {w w' : World} {g : Nat} {O : Nat → Fl}
theorem cell_g {w : World} {p j : Nat} {C : List Value} {v : Value} (h : w.heap[p]? = some (.cells C.toArray 124 (0, 0))) (hc : C[j]? = some v) : w.cell? ⟨p, j, none⟩ = some v := by
  rw [cell_of_row w p j _ 124 (0, 0) h]; simpa using hc
theorem Gf.lt (h : Gf w g O) : g < w.heap.size := by obtain ⟨C, h, _⟩ := h; exact (Array.getElem?_eq_some_iff.1 h).1
theorem Gf.upd {U : Nat → Prop} (h : Gf w g O) (u : Upd U w w') (hU : ¬ U g) : Gf w' g O := by obtain ⟨C, h, hc⟩ := h; exact ⟨C, u.heap h hU, hc⟩
theorem Gf.c0 (h : Gf w g O) (i : Nat) (hi : i < 11) : w.cell? ⟨g, i * 5, none⟩ = some (.int .i64 (O i).k) := by obtain ⟨C, h, hc⟩ := h; exact cell_g h (hc.at_ i hi 0 (by omega))
theorem Gf.c1 (h : Gf w g O) (i : Nat) (hi : i < 11) : w.cell? ⟨g, i * 5 + 1, none⟩ = some (.int .i64 (O i).of) := by obtain ⟨C, h, hc⟩ := h; exact cell_g h (hc.at_ i hi 1 (by omega))
theorem Gf.c2 (h : Gf w g O) (i : Nat) (hi : i < 11) : w.cell? ⟨g, i * 5 + 2, none⟩ = some (.int .i64 (O i).off) := by obtain ⟨C, h, hc⟩ := h; exact cell_g h (hc.at_ i hi 2 (by omega))
theorem Gf.c3 (h : Gf w g O) (i : Nat) (hi : i < 11) : w.cell? ⟨g, i * 5 + 3, none⟩ = some (.int .i64 (O i).fl) := by obtain ⟨C, h, hc⟩ := h; exact cell_g h (hc.at_ i hi 3 (by omega))
theorem Gf.c4 (h : Gf w g O) (i : Nat) (hi : i < 11) : w.cell? ⟨g, i * 5 + 4, none⟩ = some (.int .i64 (O i).h) := by obtain ⟨C, h, hc⟩ := h; exact cell_g h (hc.at_ i hi 4 (by omega))
theorem Gf.fz (h : Gf w g O) (j : Nat) : w.frozen? ⟨g, j, none⟩ = false := by obtain ⟨C, h, hc⟩ := h; simp [World.frozen?, h]
theorem Gf.th (h : Gf w g O) (i : Nat) (hi : i < 11) : w.there g (i * 5) 5 := by obtain ⟨C, h, hc⟩ := h; exact there_of_block h _ _ (by rw [hc.len]; omega)
theorem Gls.put {C C' : List Value} {O : Nat → Fl} (h : Gls C O) (i : Nat) (hi : i < 11) (x : Fl) (hl : C'.length = 55)
    (out : ∀ j, j < i * 5 ∨ i * 5 + 5 ≤ j → C'[j]? = C[j]?) (inn : ∀ j, j < 5 → C'[i * 5 + j]? = (flC x)[j]?) : Gls C' (updF O i x) := by
  refine ⟨hl, ?_⟩
  intro k hk j hj
  by_cases e : k = i
  · subst e; rw [updF_same]; exact inn j hj
  · rw [updF_ne _ _ _ _ e, out _ (by omega)]; exact h.at_ k hk j hj
theorem Gf.put (h : Gf w g O) (i : Nat) (hi : i < 11) (x : Fl) : Gf (w.setCells g (i * 5) (flC x)) g (updF O i x) := by
  obtain ⟨C, hb, hc⟩ := h
  have hl := hc.len
  have hs : i * 5 + (flC x).length ≤ C.length := by rw [hl]; simp [flC]; omega
  exact ⟨_, heap_setCells g 124 (flC x) _ w C hb hs, hc.put i hi x (by rw [length_splice _ _ _ hs, hl]) (fun j hj => getElem?_splice_out _ _ _ _ hs (by simpa [flC] using hj)) (fun j hj => getElem?_splice_in C (flC x) (i * 5) j hs hj)⟩
theorem Gf.one (h : Gf w g O) (i : Nat) (hi : i < 11) (k : Nat) (hk : k < 5) (v : Value) (x : Fl) (hx : (flC x)[k]? = some v) (hy : ∀ j, j < 5 → j ≠ k → (flC x)[j]? = (flC (O i))[j]?) : Gf (w.setCell ⟨g, i * 5 + k, none⟩ v) g (updF O i x) := by
  obtain ⟨C, hb, hc⟩ := h
  have hl := hc.len
  refine ⟨C.set (i * 5 + k) v, by rw [heap_setCell_same w g _ C.toArray _ _ hb]; simp, hc.put i hi _ (by simp [hl]) (fun j hj => by rw [List.getElem?_set_ne (by omega)]) (fun j hj => ?_)⟩
  by_cases e : j = k
  · subst e; rw [List.getElem?_set_self (by omega), hx]
  · rw [List.getElem?_set_ne (by omega), hc.at_ i hi j hj, hy j hj e]
theorem Gf.offTo (h : Gf w g O) (i : Nat) (hi : i < 11) (v : Int) : Gf (w.setCell ⟨g, i * 5 + 2, none⟩ (.int .i64 v)) g (updF O i { O i with off := v }) :=
  h.one i hi 2 (by omega) _ _ rfl (fun j hj hk => by obtain rfl | rfl | rfl | rfl : j = 0 ∨ j = 1 ∨ j = 3 ∨ j = 4 := by omega
                                                     all_goals rfl)
theorem Gf.heldTo (h : Gf w g O) (i : Nat) (hi : i < 11) (v : Int) : Gf (w.setCell ⟨g, i * 5 + 4, none⟩ (.int .i64 v)) g (updF O i { O i with h := v }) :=
  h.one i hi 4 (by omega) _ _ rfl (fun j hj hk => by obtain rfl | rfl | rfl | rfl : j = 0 ∨ j = 1 ∨ j = 2 ∨ j = 3 := by omega
                                                     all_goals rfl)
end

/-- The document's table: x, its files g, its system s and pipes q, in blocks Dn and Dp. -/
structure Rs (w : World) (x g s q : Nat) (Dn Dp : Nat → Prop) (T : Ft) : Prop where
  hx : w.heap[x]? = some (.cells #[.slice (some ⟨g, 0, none⟩) 11 11, .pointer (some ⟨s, 0, none⟩), .pointer (some ⟨q, 0, none⟩)] 68 (0, 0))
  gf : Gf w g T.O
  nf : Nf w s T.F Dn
  pd : Pd w q T.F.d T.P Dp
  ln : ∀ b, Dn b → b < w.heap.size
  lp : ∀ b, Dp b → b < w.heap.size
  dj : ∀ b, Dn b → ¬ Dp b
  xg : x ≠ g
  xn : ¬ Dn x
  xp : ¬ Dp x
  gn : ¬ Dn g
  gp : ¬ Dp g
def RFoot (x g : Nat) (Dn Dp : Nat → Prop) (b : Nat) : Prop := b = x ∨ b = g ∨ Dn b ∨ Dp b
section
variable {w w' : World} {x g s q : Nat} {Dn Dp : Nat → Prop} {T : Ft}
theorem Rs.xlt (h : Rs w x g s q Dn Dp T) : x < w.heap.size := (Array.getElem?_eq_some_iff.1 h.hx).1
theorem Rs.cl (h : Rs w x g s q Dn Dp T) : w.cell? ⟨x, 0, none⟩ = some (.slice (some ⟨g, 0, none⟩) 11 11) := by rw [cell_of_row w x 0 _ _ _ h.hx]; rfl
theorem Rs.cs (h : Rs w x g s q Dn Dp T) : w.cell? ⟨x, 1, none⟩ = some (.pointer (some ⟨s, 0, none⟩)) := by rw [cell_of_row w x 1 _ _ _ h.hx]; rfl
theorem Rs.cq (h : Rs w x g s q Dn Dp T) : w.cell? ⟨x, 2, none⟩ = some (.pointer (some ⟨q, 0, none⟩)) := by rw [cell_of_row w x 2 _ _ _ h.hx]; rfl
theorem Rs.upd {U : Nat → Prop} (h : Rs w x g s q Dn Dp T) (u : Upd U w w') (hU : ∀ b, b < w.heap.size → RFoot x g Dn Dp b → ¬ U b) : Rs w' x g s q Dn Dp T :=
  ⟨u.heap h.hx (hU x h.xlt (.inl rfl)), h.gf.upd u (hU g h.gf.lt (.inr (.inl rfl))), h.nf.upd u (fun b hb hD => hU b hb (.inr (.inr (.inl hD)))), h.pd.upd u (fun b hb hD => hU b hb (.inr (.inr (.inr hD)))), fun b hb => Nat.lt_of_lt_of_le (h.ln b hb) u.size, fun b hb => Nat.lt_of_lt_of_le (h.lp b hb) u.size, h.dj, h.xg, h.xn, h.xp, h.gn, h.gp⟩
theorem Rs.grow (h : Rs w x g s q Dn Dp T) (u : Below w.heap.size w w') : Rs w' x g s q Dn Dp T := h.upd (Upd.of_below (F := fun _ => False) u) (fun _ _ _ h => h)
theorem Rs.drew (h : Rs w x g s q Dn Dp T) : Rs w.drew x g s q Dn Dp T := h.grow (Below.refl _ _).drew
theorem Rs.sys {F' : Fs} (h : Rs w x g s q Dn Dp T) (k : NfTo w s F' Dn w') (hd : F'.d = T.F.d) : Rs w' x g s q (fun b => (Dn b ∨ w.heap.size ≤ b) ∧ b < w'.heap.size) Dp { T with F := F' } := by
  obtain ⟨k1, k2⟩ := k
  have l1 := h.xlt
  have l2 := h.gf.lt
  refine ⟨k2.heap h.hx h.xn, h.gf.upd k2 h.gn, k1.mono (fun b hb hD => ⟨hD, hb⟩), ?_, fun b hb => hb.2, fun b hb => Nat.lt_of_lt_of_le (h.lp b hb) k2.size, fun b hb hp => ?_, h.xg, fun e => ?_, h.xp, fun e => ?_, h.gp⟩
  · show Pd w' q F'.d T.P Dp
    rw [hd]
    exact h.pd.upd k2 (fun b hb hD hn => h.dj b hn hD)
  · have := h.lp b hp
    rcases hb.1 with e | e
    · exact h.dj b e hp
    · omega
  · rcases e.1 with e | e
    · exact h.xn e
    · omega
  · rcases e.1 with e | e
    · exact h.gn e
    · omega
theorem Rs.pip {P' : Nat → Pi.Pp} (h : Rs w x g s q Dn Dp T) (k : PdTo w q T.F.d P' Dp w') : Rs w' x g s q Dn (fun b => (Dp b ∨ w.heap.size ≤ b) ∧ b < w'.heap.size) { T with P := P' } := by
  obtain ⟨k1, k2⟩ := k
  have l1 := h.xlt
  have l2 := h.gf.lt
  refine ⟨k2.heap h.hx h.xp, h.gf.upd k2 h.gp, h.nf.upd k2 (fun b hb hD hp => h.dj b hD hp), k1.mono (fun b hb hD => ⟨hD, hb⟩), fun b hb => Nat.lt_of_lt_of_le (h.ln b hb) k2.size, fun b hb => hb.2, fun b hn hb => ?_, h.xg, h.xn, fun e => ?_, h.gn, fun e => ?_⟩
  · have := h.ln b hn
    rcases hb.1 with e | e
    · exact h.dj b hn e
    · omega
  · rcases e.1 with e | e
    · exact h.xp e
    · omega
  · rcases e.1 with e | e
    · exact h.gp e
    · omega
theorem Rs.fil {O' : Nat → Fl} (h : Rs w x g s q Dn Dp T) (k : Gf w' g O') (u : Upd (· = g) w w') : Rs w' x g s q Dn Dp { T with O := O' } :=
  ⟨u.heap h.hx h.xg, k, h.nf.upd u (fun b _ hD e => h.gn (e ▸ hD)), h.pd.upd u (fun b _ hD e => h.gp (e ▸ hD)), fun b hb => Nat.lt_of_lt_of_le (h.ln b hb) u.size, fun b hb => Nat.lt_of_lt_of_le (h.lp b hb) u.size, h.dj, h.xg, h.xn, h.xp, h.gn, h.gp⟩
end

/-- The document's open files, in blocks D. -/
def Td (w : World) (x : Nat) (T : Ft) (D : Nat → Prop) : Prop := ∃ g s q Dn Dp, Rs w x g s q Dn Dp T ∧ ∀ b, RFoot x g Dn Dp b → D b
theorem Td.mono {w : World} {x : Nat} {T : Ft} {D D' : Nat → Prop} (h : Td w x T D) (k : ∀ b, b < w.heap.size → D b → D' b) : Td w x T D' := by
  obtain ⟨g, s, q, Dn, Dp, h1, h2⟩ := h
  refine ⟨g, s, q, Dn, Dp, h1, fun b hb => k b ?_ (h2 b hb)⟩
  rcases hb with rfl | rfl | e | e
  · exact h1.xlt
  · exact h1.gf.lt
  · exact h1.ln b e
  · exact h1.lp b e
theorem Td.upd {w w' : World} {x : Nat} {T : Ft} {D U : Nat → Prop} (h : Td w x T D) (u : Upd U w w') (k : ∀ b, b < w.heap.size → D b → ¬ U b) : Td w' x T D := by
  obtain ⟨g, s, q, Dn, Dp, h1, h2⟩ := h
  exact ⟨g, s, q, Dn, Dp, h1.upd u (fun b hb hf => k b hb (h2 b hf)), h2⟩
theorem Td.grow {w w' : World} {x : Nat} {T : Ft} {D : Nat → Prop} (h : Td w x T D) (u : Below w.heap.size w w') : Td w' x T D := h.upd (Upd.of_below (F := fun _ => False) u) (fun _ _ _ h => h)
theorem Td.lt {w : World} {x : Nat} {T : Ft} {D : Nat → Prop} (h : Td w x T D) : x < w.heap.size := by
  obtain ⟨g, s, q, Dn, Dp, h1, h2⟩ := h; exact h1.xlt
def TdTo (w : World) (x : Nat) (T : Ft) (D : Nat → Prop) (w' : World) : Prop := Td w' x T (fun b => D b ∨ w.heap.size ≤ b) ∧ Upd D w w'
theorem TdTo.same {w w' : World} {x : Nat} {T : Ft} {D : Nat → Prop} (h : Td w x T D) (u : Below w.heap.size w w') : TdTo w x T D w' := ⟨(h.grow u).mono (fun _ _ h => .inl h), Upd.of_below u⟩
theorem TdTo.of {w0 w' : World} {x g s q : Nat} {Dn Dp Dn' Dp' D : Nat → Prop} {T : Ft} (h : Rs w' x g s q Dn' Dp' T) (hD : ∀ b, RFoot x g Dn Dp b → D b) (hn : ∀ b, Dn' b → Dn b ∨ w0.heap.size ≤ b) (hp : ∀ b, Dp' b → Dp b ∨ w0.heap.size ≤ b) (u : Upd (RFoot x g Dn Dp) w0 w') : TdTo w0 x T D w' :=
  ⟨⟨g, s, q, Dn', Dp', h, fun b hb => by
    rcases hb with e | e | e | e
    · exact .inl (hD b (.inl e))
    · exact .inl (hD b (.inr (.inl e)))
    · exact (hn b e).imp (fun e => hD b (.inr (.inr (.inl e)))) id
    · exact (hp b e).imp (fun e => hD b (.inr (.inr (.inr e)))) id⟩, u.mono (fun b _ hb => hD b hb)⟩
/-- The system alone turned; the pipes alone turned. -/
theorem TdTo.sys {w0 X w' : World} {x g s q : Nat} {Dn Dp D : Nat → Prop} {T : Ft} {F' : Fs} (h : Rs X x g s q Dn Dp T) (hX : Below w0.heap.size w0 X) (hD : ∀ b, RFoot x g Dn Dp b → D b) (k : NfTo X s F' Dn w') (hd : F'.d = T.F.d) : TdTo w0 x { T with F := F' } D w' :=
  TdTo.of (h.sys k hd) hD (fun b hb => hb.1.imp id (fun h => Nat.le_trans hX.size h)) (fun b hb => .inl hb) ((Upd.of_below hX).trans k.2 (fun b _ hb => .inr (.inr (.inl hb))))
theorem TdTo.pip {w0 X w' : World} {x g s q : Nat} {Dn Dp D : Nat → Prop} {T : Ft} {P' : Nat → Pi.Pp} (h : Rs X x g s q Dn Dp T) (hX : Below w0.heap.size w0 X) (hD : ∀ b, RFoot x g Dn Dp b → D b) (k : PdTo X q T.F.d P' Dp w') : TdTo w0 x { T with P := P' } D w' :=
  TdTo.of (h.pip k) hD (fun b hb => .inl hb) (fun b hb => hb.1.imp id (fun h => Nat.le_trans hX.size h)) ((Upd.of_below hX).trans k.2 (fun b _ hb => .inr (.inr (.inr hb))))
theorem TdTo.fil {w0 X w' : World} {x g s q : Nat} {Dn Dp D : Nat → Prop} {T : Ft} {O' : Nat → Fl} (h : Rs X x g s q Dn Dp T) (hX : Below w0.heap.size w0 X) (hD : ∀ b, RFoot x g Dn Dp b → D b) (k : Gf w' g O') (u : Upd (· = g) X w') : TdTo w0 x { T with O := O' } D w' :=
  TdTo.of (h.fil k u) hD (fun b hb => .inl hb) (fun b hb => .inl hb) ((Upd.of_below hX).trans u (fun b _ hb => .inr (.inl hb)))

end Go.Proofs.YtoknhcjneliboaaGreat

/- The document's add of a name. -/
namespace Go.Proofs.YtoknhcjneliboaaGreat
open Go.RowKit
set_option linter.unusedVariables false
set_option maxRecDepth 20000

theorem gt_bs (l : List UInt8) (t : ByteArray) : (!(Op.bytesLess (bs l).toList t.toList || (bs l).toList == t.toList)) = gtB l (bl t) := by
  unfold gtB
  rw [ByteArray.toList_eq, ByteArray.toList_eq]
  rfl
theorem ins_cons (s : List UInt8) (m : Nat) (x : List UInt8 × Nat) (r : List (List UInt8 × Nat)) : ins s m (x :: r) = if gtB x.1 s = true then (s, m) :: x :: r else x :: ins s m r := rfl

/-- How far add is. -/
def AddI (s : List UInt8) (m : Nat) (Q acc : List (List UInt8 × Nat)) (j : Nat) (put : Bool) : Prop := ins s m Q = acc ++ (if put = true then Q.drop j else ins s m (Q.drop j))

set_option maxHeartbeats 8000000 in
theorem radd_any (x g u : Nat) (V : Nat → Value) (F : Fs) (w : World) (H : Rf w x g u V F) (n : Nat) (hn : n < 17) (hq6 : (F.P n).Q.length ≤ 6) (t : ByteArray) (m : Nat) :
    Calls Tryz.prog 112 #[.pointer (some ⟨x, 0, none⟩), .int .i64 (n : Int), .string t, .int .i64 (m : Int)] w fun e w' => e = .returned (.tuple #[]) ∧ RfTo w x g u V (F.addn n (bl t) m) w' := by
  obtain ⟨i0, hi0, hz0, hz1, hz2⟩ := info_parts infoNm
  have c0 := H.c0
  have c1 := H.q n hn
  have HLT := hid H.lts
  have n0 : (0 : Int) ≤ (n : Int) := by omega
  have n1 : (n : Int) < 17 := by omega
  obtain ⟨Q, gQ⟩ : ∃ Q, Q = (F.P n).Q := ⟨_, rfl⟩
  have hQ := H.rQ n hn
  rw [← gQ] at hQ hq6
  have HD : Hid (F.addn n (bl t) m = F.nq n (ins (bl t) m Q)) := hid (by rw [gQ]; rfl)
  rw [HD.out]
  obtain ⟨a, c, eV, hnc, hcm, hcell⟩ := own_shp hQ
  rw [eV] at c1
  obtain ⟨L, gL⟩ : ∃ L, L = Q.length := ⟨_, rfl⟩
  rw [← gL] at c1 hcell hnc hq6
  have GL := hid gL
  have HC := hid hcell
  have HR := hid H
  clear H gQ hQ hcell gL eV
  go_enter Tryz.func112, Tryz.ntmps112
  go_wp2_with fail
  go_loopw [8, 9, 21] (fun v8 v9 v21 wr => ∃ (j k : Nat) (put : Bool) (a' : Option Addr) (c' : Nat) (acc : List (List UInt8 × Nat)), j ≤ L ∧ k ≤ 2 * j + 1 ∧ v21 = .int .i64 (j : Int) ∧ v9 = .bool put ∧ v8 = .slice a' k c' ∧ Hid (acc.length = k) ∧ Hid (wr.ownsRow w.heap.size 151 2 (.slice a' k c') k (nmC acc)) ∧ Hid (Below w.heap.size w wr) ∧ Hid (AddI (bl t) m Q acc j put)) (fun _ _ v21 _ => L - (intOf v21).toNat)
  case atStart => exact ⟨0, 0, false, none, 0, [], Nat.zero_le _, by omega, rfl, rfl, rfl, hid rfl, hid (World.ownsRow_nil _ _ _ _), hid (Below.refl _ _), hid rfl⟩
  case round =>
    obtain ⟨j, k, put, a', c', acc, hj, hk, rfl, rfl, rfl, HK, HO, HB, HN⟩ := hrel
    have HBs := HB.out.size
    by_cases hlt : j < L
    · have hj2 : (j : Int) < (L : Int) := by omega
      have hj0 : (0 : Int) ≤ (j : Int) := by omega
      have hj3 : j + 1 ≤ L := hlt
      have hjQ : j < Q.length := by rw [← GL.out]; exact hlt
      obtain ⟨q, rfl, _, hqs, hcc⟩ := HC.out (by omega)
      obtain ⟨y1, y2⟩ := nmC_at Q j hjQ
      have d1 := (HB.out.cell (p := ⟨q, j * 2, none⟩) hqs).trans (hcc _ _ y1)
      have d2 := (HB.out.cell (p := ⟨q, j * 2 + 1, none⟩) hqs).trans (hcc _ _ y2)
      have hs := gt_bs Q[j].1 t
      have hdr : Q.drop j = Q[j] :: Q.drop (j + 1) := List.drop_eq_getElem_cons hjQ
      have HA1 : Hid (put = true → AddI (bl t) m Q (acc ++ [Q[j]]) (j + 1) true) := hid (fun h => by
        subst h; have := HN.out; unfold AddI at this ⊢; rw [this, hdr]; simp)
      have HA2 : Hid (put = false → gtB Q[j].1 (bl t) = true → AddI (bl t) m Q (acc ++ [(bl t, m)] ++ [Q[j]]) (j + 1) true) := hid (fun h h2 => by
        subst h; have := HN.out; unfold AddI at this ⊢; rw [this, hdr, ins_cons, if_pos h2]; simp)
      have HA3 : Hid (put = false → gtB Q[j].1 (bl t) = false → AddI (bl t) m Q (acc ++ [Q[j]]) (j + 1) false) := hid (fun h h2 => by
        subst h; have := HN.out; unfold AddI at this ⊢; rw [this, if_neg (show ¬ (false = true) by simp), if_neg (show ¬ (false = true) by simp), hdr, ins_cons, if_neg (by rw [h2]; simp)]; simp)
      have HC2 : Hid (∀ l : List (List UInt8 × Nat), nmC (l ++ [Q[j]]) = nmC l ++ [.string (bs Q[j].1), .int .i64 (Q[j].2 : Int)]) := hid (fun l => by rw [nmC_app]; rfl)
      have HC3 : Hid (∀ l : List (List UInt8 × Nat), (l ++ [Q[j]]).length = l.length + 1) := hid (by simp)
      have HC4 : Hid (nmC (acc ++ [(bl t, m)]) = nmC acc ++ [.string t, .int .i64 (m : Int)]) := hid (by rw [nmC_app]; show nmC acc ++ [.string (bs (bl t)), _] = _; rw [bs_bl])
      obtain ⟨G, gG⟩ : ∃ G, G = gtB Q[j].1 (bl t) := ⟨_, rfl⟩
      rw [← gG] at hs HA2 HA3
      generalize hyj : Q[j] = yj at HA1 HA2 HA3 HC2 HC3 hs d1 d2
      generalize bs yj.1 = sj at d1 hs HC2
      generalize yj.2 = mj at d2 HC2
      clear hyj gG hdr y1 y2 hcc HN
      cases put with
      | true =>
        have HR2 := hid (HA1.out rfl)
        clear HA1 HA2 HA3 hs HC4
        go_wp2_with (at_builtin; go_must (refine wpList_append_own _ rfl (.tmp 39) (.tmp 41) 115 rfl w.heap.size 151 i0 _ 2 24 Tryz.underlying115 hi0 hz0 hz1 hz2 rfl (by decide) _ k (nmC acc) rfl ((HO.out.alloc _).alloc _) ⟨_, 0, none⟩ 1 1 [.string sj, .int .i64 mj] rfl rfl (cell_two2 _ _ _ _ _) (by simp [Value.oneCell']) (by unfold maxLen; omega) (by omega) (by simp; omega) ?_))
        intro v' w6 hO hG hN
        have hbel : Below w.heap.size w w6 := ((HB.out.alloc HBs _).alloc (by simp; omega) (.cells #[.string sj, .int .i64 mj] 151)).grown hG (by simp; omega) (fun x hx => (HO.out.lt x hx).1)
        obtain ⟨va, vc, rfl⟩ : ∃ va vc, v' = .slice va (k + 1) vc := by
          rcases hO.2 with ⟨h1, h2⟩ | ⟨g, c, cur, rfl, _⟩
          · omega
          · exact ⟨_, c, rfl⟩
        rw [← HC2.out] at hO
        have HO2 := hid hO
        have HB2 := hid hbel
        clear hO hG hN hbel HO HB
        go_wp2_with fail
        go_roundw
        case rel => exact ⟨j + 1, k + 1, true, va, vc, acc ++ [yj], hj3, by omega, by go_num, rfl, rfl, hid (by rw [HC3.out, HK.out]), HO2, HB2, HR2⟩
        case measure => simp [intOf]; omega
      | false =>
        cases G with
        | false =>
          have HR2 := hid (HA3.out rfl rfl)
          clear HA1 HA2 HA3 HC4
          go_wp2_with (at_builtin; go_must (refine wpList_append_own _ rfl (.tmp 39) (.tmp 41) 115 rfl w.heap.size 151 i0 _ 2 24 Tryz.underlying115 hi0 hz0 hz1 hz2 rfl (by decide) _ k (nmC acc) rfl ((HO.out.alloc _).alloc _) ⟨_, 0, none⟩ 1 1 [.string sj, .int .i64 mj] rfl rfl (cell_two2 _ _ _ _ _) (by simp [Value.oneCell']) (by unfold maxLen; omega) (by omega) (by simp; omega) ?_))
          intro v' w6 hO hG hN
          have hbel : Below w.heap.size w w6 := ((HB.out.alloc HBs _).alloc (by simp; omega) (.cells #[.string sj, .int .i64 mj] 151)).grown hG (by simp; omega) (fun x hx => (HO.out.lt x hx).1)
          obtain ⟨va, vc, rfl⟩ : ∃ va vc, v' = .slice va (k + 1) vc := by
            rcases hO.2 with ⟨h1, h2⟩ | ⟨g, c, cur, rfl, _⟩
            · omega
            · exact ⟨_, c, rfl⟩
          rw [← HC2.out] at hO
          have HO2 := hid hO
          have HB2 := hid hbel
          clear hO hG hN hbel HO HB
          go_wp2_with fail
          go_roundw
          case rel => exact ⟨j + 1, k + 1, false, va, vc, acc ++ [yj], hj3, by omega, by go_num, rfl, rfl, hid (by rw [HC3.out, HK.out]), HO2, HB2, HR2⟩
          case measure => simp [intOf]; omega
        | true =>
          have HR2 := hid (HA2.out rfl rfl)
          clear HA1 HA2 HA3
          go_wp2_with (at_builtin; go_must (refine wpList_append_own _ rfl (.tmp 33) (.tmp 37) 115 rfl w.heap.size 151 i0 _ 2 24 Tryz.underlying115 hi0 hz0 hz1 hz2 rfl (by decide) _ k (nmC acc) rfl ((HO.out.alloc _).alloc _) ⟨_, 0, none⟩ 1 1 [.string t, .int .i64 (m : Int)] rfl rfl (cell_two2 _ _ _ _ _) (by simp [Value.oneCell']) (by unfold maxLen; omega) (by omega) (by simp; omega) ?_))
          intro v' w6 hO hG hN
          have hbel : Below w.heap.size w w6 := ((HB.out.alloc HBs _).alloc (by simp; omega) (.cells #[.string t, .int .i64 (m : Int)] 151)).grown hG (by simp; omega) (fun x hx => (HO.out.lt x hx).1)
          obtain ⟨va, vc, rfl⟩ : ∃ va vc, v' = .slice va (k + 1) vc := by
            rcases hO.2 with ⟨h1, h2⟩ | ⟨g, c, cur, rfl, _⟩
            · omega
            · exact ⟨_, c, rfl⟩
          rw [← HC4.out] at hO
          have HO2 := hid hO
          have HB2 := hid hbel
          have hw6 := hG.size
          have b1 : w6.cell? ⟨wr.heap.size, 0, none⟩ = some (.string sj) := (World.cell?_of_block (a := ⟨wr.heap.size, 0, none⟩) (hG.block wr.heap.size (by simp; omega) (fun e => by have := (HO.out.lt _ e.symm).2; omega))).trans (by go_simp)
          have b2 : w6.cell? ⟨wr.heap.size, 1, none⟩ = some (.int .i64 (mj : Int)) := (World.cell?_of_block (a := ⟨wr.heap.size, 1, none⟩) (hG.block wr.heap.size (by simp; omega) (fun e => by have := (HO.out.lt _ e.symm).2; omega))).trans (by go_simp)
          have hwb : w.heap.size ≤ w6.heap.size := hbel.size
          clear hO hG hN hbel HO HB d1 d2
          go_wp2_with (at_builtin; go_must (refine wpList_append_own _ rfl (.tmp 39) (.tmp 41) 115 rfl w.heap.size 151 i0 _ 2 24 Tryz.underlying115 hi0 hz0 hz1 hz2 rfl (by decide) _ (k + 1) (nmC (acc ++ [(bl t, m)])) rfl (HO2.out.alloc _) ⟨_, 0, none⟩ 1 1 [.string sj, .int .i64 mj] rfl rfl (cell_two _ _ _ _) (by simp [Value.oneCell']) (by unfold maxLen; omega) (by omega) (by simp; omega) ?_))
          intro v' w8 hO hG hN
          have hbel : Below w.heap.size w w8 := (HB2.out.alloc hwb (.cells #[.string sj, .int .i64 mj] 151)).grown hG (by simp; omega) (fun x hx => (HO2.out.lt x hx).1)
          obtain ⟨wa, wc, rfl⟩ : ∃ wa wc, v' = .slice wa (k + 1 + 1) wc := by
            rcases hO.2 with ⟨h1, h2⟩ | ⟨g, c, cur, rfl, _⟩
            · omega
            · exact ⟨_, c, rfl⟩
          rw [← HC2.out] at hO
          have HO3 := hid hO
          have HB3 := hid hbel
          clear hO hG hN hbel HO2 HB2
          go_wp2_with fail
          go_roundw
          case rel => exact ⟨j + 1, k + 1 + 1, true, wa, wc, acc ++ [(bl t, m)] ++ [yj], hj3, by omega, by go_num, rfl, rfl, hid (by rw [HC3.out]; simp [HK.out]), HO3, HB3, HR2⟩
          case measure => simp [intOf]; omega
    · have hj2 : ¬ (j : Int) < (L : Int) := by omega
      have d0 := (HB.out.cell (p := ⟨x, 0, none⟩) HLT.out.1).trans c0
      have d1 := (HB.out.cell (p := ⟨g, n * 6 + 5, none⟩) HLT.out.2.1).trans c1
      have d2 := (HR.out.grow HB.out).frz (n * 6 + 5)
      have hdn : Q.drop j = [] := List.drop_of_length_le (by have := GL.out; omega)
      cases put with
      | true =>
        have e : ins (bl t) m Q = acc := by
          have h := HN.out
          unfold AddI at h
          rw [hdn] at h
          simpa using h
        have HT : Hid (RfTo w x g u V (F.nq n (ins (bl t) m Q)) (wr.setCell ⟨g, n * 6 + 5, none⟩ (.slice a' k c'))) := hid (by
          rw [e]
          have h := HO.out
          rw [← HK.out] at h ⊢
          exact HR.out.names_to n hn acc _ HB.out h)
        clear e HN HO HB HR c0 c1
        go_wp2_with fail
        go_end0
        exact ⟨rfl, HT.out⟩
      | false =>
        have HE : Hid (ins (bl t) m Q = acc ++ [(bl t, m)]) := hid (by
          have h := HN.out
          unfold AddI at h
          rw [hdn] at h
          simpa [ins] using h)
        have HC4 : Hid (nmC (acc ++ [(bl t, m)]) = nmC acc ++ [.string t, .int .i64 (m : Int)]) := hid (by rw [nmC_app]; show nmC acc ++ [.string (bs (bl t)), _] = _; rw [bs_bl])
        clear hdn HN d0 d1 d2
        go_wp2_with (at_builtin; go_must (refine wpList_append_own _ rfl (.tmp 46) (.tmp 50) 115 rfl w.heap.size 151 i0 _ 2 24 Tryz.underlying115 hi0 hz0 hz1 hz2 rfl (by decide) _ k (nmC acc) rfl (HO.out.alloc _) ⟨_, 0, none⟩ 1 1 [.string t, .int .i64 (m : Int)] rfl rfl (cell_two _ _ _ _) (by simp [Value.oneCell']) (by unfold maxLen; omega) (by omega) (by simp; omega) ?_))
        intro v' w6 hO hG hN
        have hbel : Below w.heap.size w w6 := (HB.out.alloc HBs (.cells #[.string t, .int .i64 (m : Int)] 151)).grown hG (by simp; omega) (fun x hx => (HO.out.lt x hx).1)
        obtain ⟨va, vc, rfl⟩ : ∃ va vc, v' = .slice va (k + 1) vc := by
          rcases hO.2 with ⟨h1, h2⟩ | ⟨g, c, cur, rfl, _⟩
          · omega
          · exact ⟨_, c, rfl⟩
        rw [← HC4.out] at hO
        have d0 := (hbel.cell (p := ⟨x, 0, none⟩) HLT.out.1).trans c0
        have d1 := (hbel.cell (p := ⟨g, n * 6 + 5, none⟩) HLT.out.2.1).trans c1
        have d2 := (HR.out.grow hbel).frz (n * 6 + 5)
        have HT : Hid (RfTo w x g u V (F.nq n (ins (bl t) m Q)) (w6.setCell ⟨g, n * 6 + 5, none⟩ (.slice va (k + 1) vc))) := hid (by
          rw [HE.out]
          have e : (acc ++ [(bl t, m)]).length = k + 1 := by simp [HK.out]
          have h := hO
          rw [← e] at h ⊢
          exact HR.out.names_to n hn _ _ hbel h)
        clear hO hG hN hbel HO HB HR HE c0 c1
        go_wp2_with fail
        go_end0
        exact ⟨rfl, HT.out⟩

end Go.Proofs.YtoknhcjneliboaaGreat

/- The document's free and gone. -/
namespace Go.Proofs.YtoknhcjneliboaaGreat
open Go.RowKit
set_option linter.unusedVariables false
set_option maxRecDepth 20000

theorem Rf.mark {w : World} {x g u : Nat} {V : Nat → Value} {F : Fs} (H : Rf w x g u V F) (b : Nat) (hb : b < 25) (v : Bool) : Rf (w.setCell ⟨u, b, none⟩ (.bool v)) x g u V { F with T := updT F.T b v } := by
  obtain ⟨C, h1, h2, h3⟩ := H.nds
  obtain ⟨D, h4, h5, h6⟩ := H.use
  have hs : Upd (· = u) w (w.setCell ⟨u, b, none⟩ (.bool v)) := Upd.setCell w ⟨u, b, none⟩ (.bool v) rfl
  have hu7 := heap_setCells u 4 [.bool v] b w D h4 (by simp; omega)
  refine ⟨hs.heap H.at0 H.ne.2.1, ⟨C, hs.heap h1 H.ne.2.2, h2, h3⟩, ⟨splice D b [.bool v], hu7, by rw [length_splice _ _ _ (by simp; omega)]; exact h5, ?_⟩, ?_, ?_, ?_, H.ap, H.ng, H.ne⟩
  · intro i hi
    by_cases e : i = b
    · subst e
      have := getElem?_splice_in D [.bool v] i 0 (by simp; omega) (by simp)
      rw [Nat.add_zero] at this
      rw [this]
      show some _ = some (Value.bool (updT F.T i v i))
      rw [updT_same]
    · rw [getElem?_splice_out D [.bool v] b i (by simp; omega) (by simp; omega), h6 i hi]
      show some _ = some (Value.bool (updT F.T b v i))
      rw [updT_ne _ _ _ _ e]
  · exact fun i hi => hs.own (H.rb i hi) (fun k hk => (H.ng _ k (by omega) hk).2.2)
  · exact fun i hi => hs.own (H.rB i hi) (fun k hk => (H.ng _ k (by omega) hk).2.2)
  · exact fun i hi => hs.own (H.rQ i hi) (fun k hk => (H.ng _ k (by omega) hk).2.2)

theorem relB_nil (F : Fs) : F.relB [] = F := by unfold Fs.relB; split <;> simp
theorem relB_yes (F : Fs) (B : List Nat) (h : dfc F.d 2 = true) : F.relB B = F := if_pos h
theorem relB_snoc (F : Fs) (B : List Nat) (b : Nat) (h : dfc F.d 2 = false) : { F.relB B with T := updT (F.relB B).T b false } = F.relB (B ++ [b]) := by
  unfold Fs.relB
  rw [if_neg (by simp [h]), if_neg (by simp [h])]
  suffices e : updT (fun b => if b ∈ B then false else F.T b) b false = fun b_1 => if b_1 ∈ B ++ [b] then false else F.T b_1 by
    show Fs.mk _ _ _ = Fs.mk _ _ _
    exact congrArg (Fs.mk F.d F.P) e
  funext i
  unfold updT
  by_cases e : i = b
  · subst e; simp
  · simp [e]

set_option maxHeartbeats 4000000 in
theorem rfree_any (x g u : Nat) (V : Nat → Value) (F : Fs) (w : World) (H : Rf w x g u V F) (a : Option Addr) (L c : Nat) (B : List Nat) (hL : B.length = L) (hL2 : L ≤ 1000) (hB : ∀ b ∈ B, b < 25)
    (hcell : ∀ j, ∀ h : j < B.length, ∃ q o, a = some ⟨q, o, none⟩ ∧ q < w.heap.size ∧ q ≠ u ∧ w.cell? ⟨q, o + j, none⟩ = some (.int .i64 (B[j] : Int))) :
    Calls Tryz.prog 99 #[.pointer (some ⟨x, 0, none⟩), .slice a L c] w fun e w' => e = .returned (.tuple #[]) ∧ Rf w' x g u V (F.relB B) ∧ Upd (· = u) w w' := by
  have HC := hid hcell
  have HB := hid hB
  have GL := hid hL
  have HI : Hid (Rf w x g u V (F.relB (B.take 0))) := hid (by rw [List.take_zero, relB_nil]; exact H)
  clear H hcell hB hL
  go_enter Tryz.func99, Tryz.ntmps99
  go_wp2_with fail
  go_loopw [5, 8] (fun v5 v8 wr => ∃ j : Nat, j ≤ L ∧ v8 = .int .i64 (j : Int) ∧ Hid (Rf wr x g u V (F.relB (B.take j))) ∧ Hid (Upd (· = u) w wr)) (fun _ v8 _ => L - (intOf v8).toNat)
  case atStart => exact ⟨0, Nat.zero_le _, rfl, HI, hid (Upd.refl _ _)⟩
  case round =>
    clear HI
    obtain ⟨j, hj, rfl, HR, HU⟩ := hrel
    by_cases hlt : j < L
    · have hj2 : (j : Int) < (L : Int) := by omega
      have hj0 : (0 : Int) ≤ (j : Int) := by omega
      have hj3 : j + 1 ≤ L := hlt
      have hjB : j < B.length := by rw [GL.out]; exact hlt
      obtain ⟨q, o, rfl, hq, hqu, hcj⟩ := HC.out j hjB
      have d1 := (World.cell?_of_block (a := ⟨q, o + j, none⟩) (HU.out.block q hq hqu)).trans hcj
      have hb := HB.out B[j] (List.getElem_mem hjB)
      have k1 := hid (rhas_any x g u V _ wr HR.out 2)
      rw [relB_d] at k1
      have ht : B.take (j + 1) = B.take j ++ [B[j]] := (List.take_append_getElem hjB).symm
      have c1 := HR.out.c1
      have hth : ∃ D : List Value, wr.heap[u]? = some (.cells D.toArray 4 (0, 0)) ∧ D.length = 25 := by
        obtain ⟨D, h1, h2, _⟩ := HR.out.use; exact ⟨D, h1, h2⟩
      have d2 := HR.out.t B[j] hb
      have d3 : wr.frozen? ⟨u, B[j], none⟩ = false := by
        obtain ⟨D, h1, _⟩ := hth; simp [World.frozen?, h1]
      have b0 : (0 : Int) ≤ (B[j] : Int) := by omega
      have b1 : (B[j] : Int) < 25 := by omega
      have HN1 : Hid (dfc F.d 2 = true → Rf wr x g u V (F.relB (B.take (j + 1)))) := hid (fun h => by
        have := HR.out
        rw [relB_yes _ _ h] at this ⊢
        exact this)
      have HN2 : Hid (dfc F.d 2 = false → Rf (wr.setCell ⟨u, B[j], none⟩ (.bool false)) x g u V (F.relB (B.take (j + 1)))) := hid (fun h => by
        rw [ht, ← relB_snoc _ _ _ h]
        exact HR.out.mark _ hb false)
      have HU2 : Hid (Upd (· = u) w (wr.setCell ⟨u, B[j], none⟩ (.bool false))) := hid (HU.out.trans (Upd.setCell (F := (· = u)) wr ⟨u, B[j], none⟩ (.bool false) rfl) (fun b _ h => h))
      obtain ⟨D, gD⟩ : ∃ D, D = dfc F.d 2 := ⟨_, rfl⟩
      rw [← gD] at k1 HN1 HN2
      clear hcj ht hth gD HR
      generalize B[j] = bj at hb d1 d2 d3 b0 b1 HN2 HU2
      cases D with
      | true =>
        have HN := hid (HN1.out rfl)
        clear HN1 HN2 HU2
        go_wp2_with fail
        refine k1.out.mono ?_
        rintro e w1 ⟨rfl, rfl⟩
        clear k1
        go_wp2_with fail
        go_roundw
        case rel => exact ⟨j + 1, hj3, by go_num, HN, HU⟩
        case measure => simp [intOf]; omega
      | false =>
        have HN := hid (HN2.out rfl)
        clear HN1 HN2 HU
        go_wp2_with fail
        refine k1.out.mono ?_
        rintro e w1 ⟨rfl, rfl⟩
        clear k1
        go_wp2_with fail
        go_roundw
        case rel => exact ⟨j + 1, hj3, by go_num, HN, HU2⟩
        case measure => simp [intOf]; omega
    · have hj2 : ¬ (j : Int) < (L : Int) := by omega
      have HE : Hid (Rf wr x g u V (F.relB B)) := hid (by
        have := HR.out
        rwa [List.take_of_length_le (by have := GL.out; omega)] at this)
      clear HR
      go_wp2_with fail
      go_end0
      exact ⟨rfl, HE.out, HU.out⟩

theorem builtR0 : Tryz.prog.built 117 [] = some #[.int .i64 0, .int .i64 0, .int .i64 0, .slice none 0 0, .slice none 0 0, .slice none 0 0] := by kernel_rfl

theorem Rf.blocks {w : World} {x g u : Nat} {V : Nat → Value} {F : Fs} (H : Rf w x g u V F) (n : Nat) (hn : n < 17) : ∃ a c, V (n * 3 + 1) = .slice a (F.P n).B.length c ∧ (F.P n).B.length ≤ c ∧ c ≤ 9223372036854775807 ∧
    ∀ j, ∀ h : j < (F.P n).B.length, ∃ q o, a = some ⟨q, o, none⟩ ∧ q < w.heap.size ∧ q ≠ u ∧ w.cell? ⟨q, o + j, none⟩ = some (.int .i64 ((F.P n).B[j] : Int)) := by
  obtain ⟨a, c, e, h1, h2, h3⟩ := own_shp (H.rB n hn)
  refine ⟨a, c, e, h1, h2, fun j h => ?_⟩
  obtain ⟨q, rfl, _, hq, hc⟩ := h3 (by omega)
  refine ⟨q, 0, rfl, hq, (H.ng (n * 3 + 1) q (by omega) (by rw [e]; rfl)).2.2, ?_⟩
  rw [Nat.zero_add]
  exact hc j _ (by simp [List.getElem?_eq_getElem h])

/-- A number without a node. -/
def noV (V : Nat → Value) (n : Nat) : Nat → Value := fun i => if i / 3 = n then .slice none 0 0 else V i
theorem noV_own {V : Nat → Value} {n i b : Nat} (h : (noV V n i).ownBlock = some b) : i / 3 ≠ n ∧ (V i).ownBlock = some b := by
  unfold noV at h
  split at h
  · simp [Value.ownBlock] at h
  · exact ⟨by assumption, h⟩
theorem Rf.node {w : World} {x g u : Nat} {V : Nat → Value} {F : Fs} (H : Rf w x g u V F) (n : Nat) (hn : n < 17) (y : Fn) (hc : y.c = []) (hb : y.B = []) (hq : y.Q = []) :
    Rf (w.setCells g (n * 6) [.int .i64 y.k, .int .i64 y.l, .int .i64 y.h, .slice none 0 0, .slice none 0 0, .slice none 0 0]) x g u (noV V n) (F.at_ n y) := by
  have e : ∀ k, k < 3 → noV V n (n * 3 + k) = .slice none 0 0 := fun k hk => if_pos (by omega)
  refine H.put (U := fun _ => False) n hn y (noV V n) (fun i hi => if_neg hi) (Upd.refl _ _) (fun _ _ h => h.elim) 0 [.int .i64 y.k, .int .i64 y.l, .int .i64 y.h, .slice none 0 0, .slice none 0 0, .slice none 0 0] (by simp) ?_ ?_ ?_ ?_ ?_ ?_
  · have e0 := e 0 (by omega)
    rw [Nat.add_zero] at e0
    rw [e0, e 1 (by omega), e 2 (by omega)]; rfl
  · have e0 := e 0 (by omega)
    rw [Nat.add_zero] at e0
    rw [e0, hc]; exact World.ownsRow_nil _ _ _ _
  · rw [e 1 (by omega), hb]; exact World.ownsRow_nil _ _ _ _
  · rw [e 2 (by omega), hq]; exact World.ownsRow_nil _ _ _ _
  · intro i b hi h
    exact absurd hi (noV_own h).1
  · intro i j b hi hj hb ei ej
    exact absurd hi (noV_own ei).1
theorem noV_foot {x g u n b : Nat} {V : Nat → Value} (h : RfFoot x g u (noV V n) b) : RfFoot x g u V b := by
  rcases h with h | h | h | ⟨i, hi, h⟩
  · exact .inl h
  · exact .inr (.inl h)
  · exact .inr (.inr (.inl h))
  · exact .inr (.inr (.inr ⟨i, hi, (noV_own h).2⟩))

set_option maxHeartbeats 4000000 in
theorem rgone_any (x g u : Nat) (V : Nat → Value) (F : Fs) (w : World) (H : Rf w x g u V F) (n : Nat) (hn : n < 17) (h1 : n = 1 → 0 < (F.P n).l) (hB : ∀ b ∈ (F.P n).B, b < 25) (hBl : (F.P n).B.length ≤ 1000) :
    Calls Tryz.prog 102 #[.pointer (some ⟨x, 0, none⟩), .int .i64 (n : Int)] w fun e w' => e = .returned (.tuple #[]) ∧ RfTo w x g u V (F.gone n) w' := by
  have c0 := H.c0
  have c1 := H.l n hn
  have c2 := H.h n hn
  have n0 : (0 : Int) ≤ (n : Int) := by omega
  have n1 : (n : Int) < 17 := by omega
  have HS : Hid (0 < (F.P n).l ∨ 0 < (F.P n).h → RfTo w x g u V (F.gone n) w) := hid (fun h => by
    unfold Fs.gone
    rw [if_pos h]
    exact H.same (Below.refl _ _))
  have HG : Hid (¬ (0 < (F.P n).l ∨ 0 < (F.P n).h) → F.gone n = (F.relB (F.P n).B).at_ n Fn.no) := hid (fun h => if_neg h)
  by_cases e1 : n = 1
  · have i1 : ((n : Int) == 1) = true := by simp [e1]
    have HS2 := hid (HS.out (.inl (h1 e1)))
    generalize (F.P n).l = l at c1
    generalize (F.P n).h = k at c2
    clear HS HG h1 H hB hBl e1
    go_enter Tryz.func102, Tryz.ntmps102
    go_wp2_with fail
    (try simp only [Exit.inBlock, Exit.then])
    refine bodyPost_ret (results_none rfl _ _ _) rfl ?_
    exact ⟨rfl, HS2.out⟩
  · have i1 : ((n : Int) == 1) = false := by simp; omega
    by_cases hl : 0 < (F.P n).l
    · have HS2 := hid (HS.out (.inl hl))
      generalize (F.P n).l = l at c1 hl
      generalize (F.P n).h = k at c2
      clear HS HG h1 H hB hBl e1
      go_enter Tryz.func102, Tryz.ntmps102
      go_wp2_with fail
      (try simp only [Exit.inBlock, Exit.then])
      refine bodyPost_ret (results_none rfl _ _ _) rfl ?_
      exact ⟨rfl, HS2.out⟩
    · by_cases hh : 0 < (F.P n).h
      · have HS2 := hid (HS.out (.inr hh))
        generalize (F.P n).l = l at c1 hl
        generalize (F.P n).h = k at c2 hh
        clear HS HG h1 H hB hBl e1
        go_enter Tryz.func102, Tryz.ntmps102
        go_wp2_with fail
        (try simp only [Exit.inBlock, Exit.then])
        refine bodyPost_ret (results_none rfl _ _ _) rfl ?_
        exact ⟨rfl, HS2.out⟩
      · obtain ⟨a, c, eV, hLc, hcm, hcell⟩ := H.blocks n hn
        have c3 := H.B n hn
        rw [eV] at c3
        have k1 := hid (rfree_any x g u V F w H a (F.P n).B.length c (F.P n).B rfl hBl hB hcell)
        have HE := hid (HG.out (fun h => h.elim hl hh))
        rw [HE.out]
        generalize (F.P n).l = l at c1 hl
        generalize (F.P n).h = k at c2 hh
        clear HS HG h1 H hB e1 hcell eV
        go_enter Tryz.func102, Tryz.ntmps102
        go_wp2_with fail
        refine k1.out.mono ?_
        rintro e w1 ⟨rfl, hR, hU⟩
        clear k1
        have c0' := hR.c0
        obtain ⟨N, gN⟩ : ∃ N : List Value, N = [.int .i64 0, .int .i64 0, .int .i64 0, .slice none 0 0, .slice none 0 0, .slice none 0 0] := ⟨_, rfl⟩
        have H1 : Hid (N.toArray.all (·.oneCell') = true) := by rw [gN]; exact hid (by simp [Value.oneCell'])
        have HSZ : Hid ((Tryz.prog.info? 117).map (·.size) = some N.toArray.size) := by rw [gN]; exact hid csizeR6
        have HBT : Hid (Tryz.prog.built 117 [] = some N.toArray) := by rw [gN]; exact hid builtR0
        have HTH : Hid (w1.there g (n * 6) N.toArray.size) := by
          obtain ⟨C, h1, h2, _⟩ := hR.nds
          rw [gN]
          exact hid (there_of_block h1 (n * 6) 6 (by omega))
        have HT : Hid (RfTo w x g u V ((F.relB (F.P n).B).at_ n Fn.no) (w1.setCells g (n * 6) N)) := hid (by
          rw [gN]
          have h := hR.node n hn Fn.no rfl rfl rfl
          refine ⟨_, h, (hU.mono (G := RfFoot x g u V) (fun b _ h => .inr (.inr (.inl h)))).trans (upd_setCells g _ (n * 6) w1) (fun b _ h => .inr (.inl h)), fun b hb => .inl (noV_foot hb)⟩)
        clear hR hU gN c0 c1 c2 c3
        go_wp2_with (first
          | (refine wpList_build_is rfl 117 #[] rfl N.toArray (by simpa [Act.eval] using HBT.out) ?_)
          | (refine wpList_store_mid rfl 117 (.tmp 44) (.tmp 43) rfl g (n * 6) N.toArray rfl rfl HTH.out HSZ.out H1.out ?_))
        go_end0
        exact ⟨rfl, HT.out⟩

end Go.Proofs.YtoknhcjneliboaaGreat
