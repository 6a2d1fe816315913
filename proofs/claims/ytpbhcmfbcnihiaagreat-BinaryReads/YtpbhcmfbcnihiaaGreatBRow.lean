/- A row that is built element by element; and the document's reading of a program, without memory. -/
import Derived.Test.YtpbhcmfbcnihiaaGreatBRRd
namespace Go.Proofs.YtpbhcmfbcnihiaaGreat
open Go.RowKit Num
set_option linter.unusedVariables false
set_option maxRecDepth 20000

/-- A row of one's own, with what its elements are. -/
def Rw {α : Type} (W : World) (M : Nat → Prop) (T sz : Nat) (Is : (Nat → Prop) → World → List Value → α → Prop) (v : Value) (l : List α) : Prop :=
  ∃ D : List Value, W.ownsRow 0 T sz v l.length D ∧ ∀ j (h : j < l.length), Is M W ((D.drop (j * sz)).take sz) l[j]
theorem Rw.nil {α : Type} (W : World) (M : Nat → Prop) (T sz : Nat) (Is : (Nat → Prop) → World → List Value → α → Prop) : Rw W M T sz Is (.slice none 0 0) [] :=
  ⟨[], World.ownsRow_nil _ _ _ _, fun j h => absurd h (Nat.not_lt_zero j)⟩
theorem Rw.keep {α : Type} {W W' : World} {M M' F : Nat → Prop} {T sz : Nat} {Is : (Nat → Prop) → World → List Value → α → Prop} {v : Value} {l : List α} (h : Rw W M T sz Is v l) (u : Upd F W W') (hv : ∀ g, v.ownBlock = some g → ¬ F g) (hM : ∀ k, M k → k < W.heap.size → ¬ F k) (hM' : ∀ k, M k → M' k)
    (hk : ∀ N W W' cs x, Keep N N W W' → Is N W cs x → Is N W' cs x) (hm : ∀ N N' W cs x, (∀ k, N k → N' k) → Is N W cs x → Is N' W cs x) : Rw W' M' T sz Is v l := by
  obtain ⟨D, h1, h2⟩ := h
  exact ⟨D, u.own h1 (fun k hk => hv k hk), fun j hj => hm _ _ _ _ _ hM' (hk _ _ _ _ _ (Keep.upd u (fun b hN hb => ⟨hN, hM b hN hb⟩)) (h2 j hj))⟩
theorem Rw.len {α : Type} {W : World} {M : Nat → Prop} {T sz : Nat} {Is : (Nat → Prop) → World → List Value → α → Prop} {v : Value} {l : List α} (h : Rw W M T sz Is v l) : ∃ D, W.ownsRow 0 T sz v l.length D := by
  obtain ⟨D, h1, _⟩ := h
  exact ⟨D, h1⟩
theorem Rw.step {α : Type} {W W' : World} {M F : Nat → Prop} {T sz : Nat} {Is : (Nat → Prop) → World → List Value → α → Prop} {v v' : Value} {l : List α} {D news : List Value} {x : α}
    (h1 : W.ownsRow 0 T sz v l.length D) (h2 : ∀ j (h : j < l.length), Is M W ((D.drop (j * sz)).take sz) l[j]) (h3 : W'.ownsRow 0 T sz v' (l.length + 1) (D ++ news)) (hn : news.length = sz) (u : Upd F W W') (hM : ∀ k, M k → k < W.heap.size → ¬ F k) (hx : Is M W' news x)
    (hk : ∀ N W W' cs x, Keep N N W W' → Is N W cs x → Is N W' cs x) : Rw W' M T sz Is v' (l ++ [x]) := by
  refine ⟨D ++ news, by rw [List.length_append, List.length_singleton]; exact h3, fun j hj => ?_⟩
  have hD : D.length = l.length * sz := h1.1
  rw [List.length_append, List.length_singleton] at hj
  rcases Nat.lt_or_ge j l.length with h | h
  · rw [List.getElem_append_left h]
    have hseg := seg_le l.length sz j h
    have e : ((D ++ news).drop (j * sz)).take sz = (D.drop (j * sz)).take sz := by
      rw [List.drop_append_of_le_length (by omega), List.take_append_of_le_length (by simp; omega)]
    rw [e]
    exact hk _ _ _ _ _ (Keep.upd u (fun b hN hb => ⟨hN, hM b hN hb⟩)) (h2 j h)
  · obtain rfl : j = l.length := by omega
    rw [List.getElem_append_right (Nat.le_refl _)]
    simp only [Nat.sub_self, List.getElem_singleton]
    rw [← hD, List.drop_left, ← hn, List.take_length]
    exact hx
theorem Rw.lies {α : Type} {W : World} {M M' : Nat → Prop} {T sz : Nat} {Is : (Nat → Prop) → World → List Value → α → Prop} {At : (Nat → Prop) → World → Nat → Nat → α → Prop} {v : Value} {l : List α} (h : Rw W M T sz Is v l) (hM : ∀ k, M k → M' k) (hv : ∀ g, v.ownBlock = some g → M' g)
    (hm : ∀ N N' W cs x, (∀ k, N k → N' k) → Is N W cs x → Is N' W cs x) (hA : ∀ (N : Nat → Prop) (W : World) (b o : Nat) (C : List Value) (t : TypeId) (x : α), N b → W.heap[b]? = some (.cells C.toArray t (0, 0)) → o + sz ≤ C.length → Is N W ((C.drop o).take sz) x → At N W b o x) :
    ∃ a c, v = .slice a l.length c ∧ l.length ≤ c ∧ c ≤ 9223372036854775807 ∧ Lies sz At M' W a l := by
  obtain ⟨D, h1, h2⟩ := h
  rcases h1.2 with ⟨rfl, hn⟩ | ⟨g, cap, cur, rfl, _, hg, h3, h4, h5, h6⟩
  · rw [hn]
    exact ⟨none, 0, rfl, Nat.le_refl _, by omega, fun h0 => by omega⟩
  · refine ⟨_, cap, rfl, h3, by unfold maxLen at h4; omega, fun h0 => ⟨g, 0, rfl, hv g rfl, (Array.getElem?_eq_some_iff.1 hg).1, fun j hj => ?_⟩⟩
    have hseg := seg_le l.length sz j hj
    have hcl : cur.toList.length = cap * sz := by rw [Array.length_toList, h5]
    have hle : l.length * sz ≤ cap * sz := Nat.mul_le_mul_right sz h3
    rw [Nat.zero_add]
    refine hA M' W g (j * sz) cur.toList T _ (hv g rfl) (by simpa using hg) (by omega) ?_
    have e : (cur.toList.drop (j * sz)).take sz = (D.drop (j * sz)).take sz := by
      rw [← h6, List.drop_take, List.take_take, show min sz (l.length * sz - j * sz) = sz by omega]
    rw [e]
    exact hm _ _ _ _ _ hM (h2 j hj)

/-- The document's reading. -/
def copR (s : Rs) : Cp × Rs :=
  if (uR (uR s).2).1 = 0 then (⟨(uR s).1, -1, 0, 0, (tR (uR (uR s).2).2).1⟩, (tR (uR (uR s).2).2).2)
  else (⟨(uR s).1, ((uR (uR s).2).1 : Int) - 1, (uR (uR (uR s).2).2).1, unf (uR (uR (uR (uR s).2).2).2).1, []⟩, (uR (uR (uR (uR s).2).2).2).2)
def wdR (s : Rs) : Wd × Rs := (⟨((uR s).1 : Int) - 1, unf (uR (uR s).2).1⟩, (uR (uR s).2).2)
def mR {α : Type} (f : Rs → α × Rs) : Nat → Rs → List α × Rs
  | 0, s => ([], s)
  | k + 1, s => ((mR f k s).1 ++ [(f (mR f k s).2).1], (f (mR f k s).2).2)
def exR (s : Rs) : Ex × Rs :=
  (⟨(uR s).1, (mR copR (cR 400 (uR s).2).1 (cR 400 (uR s).2).2).1, (mR wdR (cR 6 (mR copR (cR 400 (uR s).2).1 (cR 400 (uR s).2).2).2).1 (cR 6 (mR copR (cR 400 (uR s).2).1 (cR 400 (uR s).2).2).2).2).1⟩,
    (mR wdR (cR 6 (mR copR (cR 400 (uR s).2).1 (cR 400 (uR s).2).2).2).1 (cR 6 (mR copR (cR 400 (uR s).2).1 (cR 400 (uR s).2).2).2).2).2)
def pgR (s : Rs) : List Ex × Rs := mR exR (cR 64 s).1 (cR 64 s).2

theorem mR_len {α : Type} (f : Rs → α × Rs) (s : Rs) : ∀ k, (mR f k s).1.length = k
  | 0 => rfl
  | k + 1 => by simp [mR, mR_len f s k]
theorem cR_le (most : Nat) (s : Rs) : (cR most s).1 ≤ most := by
  unfold cR
  dsimp only
  split
  · omega
  · rename_i h
    simp only [Bool.or_eq_true, decide_eq_true_eq, not_or] at h
    omega

/-- Of a program's bytes it reads the program. -/
theorem u_fw (n : Nat) (h : n < 9223372036854775808) (r : List Int) : uR ⟨enc n ++ r, false⟩ = (n, ⟨r, false⟩) := by
  unfold uR
  dsimp only
  rw [dec_enc n h]
  simp
theorem c_fw (most n : Nat) (h : n ≤ most) (hm : most ≤ 400) (r : List Int) : cR most ⟨enc n ++ r, false⟩ = (n, ⟨r, false⟩) := by
  unfold cR
  rw [u_fw n (by omega)]
  simp
  omega
theorem t_fw (zs r : List Int) (h : zs.length ≤ 2048) : tR ⟨eT zs ++ r, false⟩ = (zs, ⟨r, false⟩) := by
  have hd := dec_enc zs.length (by omega) (zs ++ r)
  have ht : txt (enc zs.length ++ (zs ++ r)) 2048 = (zs, (enc zs.length).length + zs.length, 0) := by
    unfold txt
    rw [hd]
    dsimp only
    rw [if_neg (by omega), if_neg (by omega), if_neg (by simp only [List.length_append]; omega)]
    simp
  unfold tR eT
  dsimp only
  rw [List.append_assoc, ht]
  simp [← List.drop_drop]
theorem m_fw {α : Type} (f : Rs → α × Rs) (en : α → List Int) (l : List α) (h : ∀ x ∈ l, ∀ r, f ⟨en x ++ r, false⟩ = (x, ⟨r, false⟩)) (r : List Int) : ∀ i, i ≤ l.length → mR f i ⟨(l.map en).flatten ++ r, false⟩ = (l.take i, ⟨((l.drop i).map en).flatten ++ r, false⟩)
  | 0, _ => by simp [mR]
  | i + 1, hi => by
    have hil : i < l.length := by omega
    simp only [mR]
    rw [m_fw f en l h r i (by omega)]
    dsimp only
    have e : ((l.drop i).map en).flatten ++ r = en l[i] ++ (((l.drop (i + 1)).map en).flatten ++ r) := by
      rw [List.drop_eq_getElem_cons hil, List.map_cons, List.flatten_cons, List.append_assoc]
    rw [e, h _ (List.getElem_mem hil), take_one l i hil]
theorem wd_fw {i : Nat} (hi : i ≤ 64) {x : Wd} (h : wB i x = true) (r : List Int) : wdR ⟨eW x ++ r, false⟩ = (x, ⟨r, false⟩) := by
  obtain ⟨h1, h2, h3⟩ := wB_is hi h
  have h4 := fld_lt h2
  unfold okI at h1
  unfold wdR eW eN eS
  rw [List.append_assoc, u_fw _ (by omega)]
  dsimp only
  rw [u_fw _ h4]
  dsimp only
  rw [unf_fld, show (((x.r + 1).toNat : Nat) : Int) - 1 = x.r by omega]
theorem cop_fw {i : Nat} (hi : i ≤ 64) {c : Cp} (h : cB i c = true) (r : List Int) : copR ⟨eC c ++ r, false⟩ = (c, ⟨r, false⟩) := by
  obtain ⟨h1, h2, h3, h4, h5, h6, h7, h8⟩ := cB_is hi h
  have h9 := fld_lt h4
  unfold okI at h1 h2 h3
  have e1 : uR ⟨eC c ++ r, false⟩ = ((c.a + 0).toNat, ⟨eN 1 c.r ++ (eR c ++ r), false⟩) := by
    unfold eC eN
    rw [List.append_assoc, List.append_assoc, u_fw _ (by omega)]
  have e2 : uR ⟨eN 1 c.r ++ (eR c ++ r), false⟩ = ((c.r + 1).toNat, ⟨eR c ++ r, false⟩) := by
    unfold eN
    rw [u_fw _ (by omega)]
  unfold copR
  rw [e1]
  dsimp only
  rw [e2]
  dsimp only
  by_cases hr : c.r = -1
  · have hc : c.s = 0 ∧ c.v = 0 := by
      unfold cB at h
      rw [Bool.and_eq_true, if_pos hr] at h
      have := of_decide_eq_true h.2
      exact ⟨this.1, this.2.1⟩
    rw [if_pos (by omega)]
    have e3 : eR c = eT c.bs := by unfold eR; rw [if_pos hr]
    rw [e3, t_fw c.bs r h5]
    obtain ⟨a, r', s, v, bs⟩ := c
    dsimp only at hc hr h6 ⊢
    obtain ⟨rfl, rfl⟩ := hc
    subst hr
    simp only [Int.add_zero, Prod.mk.injEq, and_true, Cp.mk.injEq]
    omega
  · have hc : c.bs = [] := by
      unfold cB at h
      rw [Bool.and_eq_true, if_neg hr] at h
      simp only [Bool.and_eq_true, decide_eq_true_eq] at h
      exact List.eq_nil_of_length_eq_zero h.2.2
    rw [if_neg (by omega)]
    have e3 : eR c ++ r = enc (c.s + 0).toNat ++ (enc (fld c.v).toNat ++ r) := by
      unfold eR eN eS
      rw [if_neg hr, List.append_assoc]
    rw [e3, u_fw _ (by omega)]
    dsimp only
    rw [u_fw _ h9]
    dsimp only
    rw [unf_fld]
    obtain ⟨a, r', s, v, bs⟩ := c
    dsimp only at hc hr h6 h7 h8 ⊢
    subst hc
    simp only [Int.add_zero, Prod.mk.injEq, and_true, Cp.mk.injEq]
    omega
theorem ex_fw {i : Nat} (hi : i ≤ 64) {x : Ex} (h : xB i x = true) (r : List Int) : exR ⟨eX x ++ r, false⟩ = (x, ⟨r, false⟩) := by
  obtain ⟨⟨a1, a2, a3, a4⟩, b, c⟩ := xB_is h
  have e1 : uR ⟨eX x ++ r, false⟩ = ((x.n + 0).toNat, ⟨enc x.cs.length ++ ((x.cs.map eC).flatten ++ (eL eW x.ws ++ r)), false⟩) := by
    unfold eX eN
    rw [List.append_assoc, u_fw _ (by omega)]
    unfold eL
    simp only [List.append_assoc]
  have e2 := c_fw 400 x.cs.length a3 (by omega) ((x.cs.map eC).flatten ++ (eL eW x.ws ++ r))
  have e3 := m_fw copR eC x.cs (fun y hy r => cop_fw hi (b y hy) r) (eL eW x.ws ++ r) x.cs.length (Nat.le_refl _)
  rw [List.take_length, List.drop_length] at e3
  have e4 : cR 6 ⟨eL eW x.ws ++ r, false⟩ = (x.ws.length, ⟨(x.ws.map eW).flatten ++ r, false⟩) := by
    unfold eL
    rw [List.append_assoc]
    exact c_fw 6 x.ws.length a4 (by omega) _
  have e5 := m_fw wdR eW x.ws (fun y hy r => wd_fw hi (c y hy) r) r x.ws.length (Nat.le_refl _)
  rw [List.take_length, List.drop_length] at e5
  unfold exR
  rw [e1]
  dsimp only
  rw [e2]
  dsimp only
  rw [e3]
  dsimp only
  simp only [List.map_nil, List.flatten_nil, List.nil_append]
  rw [e4]
  dsimp only
  rw [e5]
  simp only [List.map_nil, List.flatten_nil, List.nil_append]
  obtain ⟨n, cs, ws⟩ := x
  dsimp only at a1 ⊢
  simp only [Int.add_zero, Prod.mk.injEq, and_true, Ex.mk.injEq]
  omega
theorem pg_fw {l : List Ex} (h : pB l = true) : pgR ⟨eP l, false⟩ = (l, ⟨[], false⟩) := by
  obtain ⟨h1, h2⟩ := pB_is h
  have e1 : cR 64 ⟨eP l, false⟩ = (l.length, ⟨(l.map eX).flatten ++ [], false⟩) := by
    unfold eP eL
    rw [List.append_nil]
    exact c_fw 64 l.length h1 (by omega) _
  have e2 := m_fw exR eX l (fun x hx r => by obtain ⟨i, hi, hx'⟩ := h2 x hx; exact ex_fw hi hx' r) [] l.length (Nat.le_refl _)
  rw [List.take_length, List.drop_length] at e2
  unfold pgR
  rw [e1]
  dsimp only
  rw [e2]
  simp
/-- What the document's Decode comes to is what the program's does. -/
theorem dcd_doc (zs : List Int) : dcd zs = (if (pgR ⟨zs, false⟩).2.bad = false ∧ pB (pgR ⟨zs, false⟩).1 = true ∧ eP (pgR ⟨zs, false⟩).1 = zs then some (pgR ⟨zs, false⟩).1 else none) ∨ ¬ Bytes zs := by
  rcases Classical.em (Bytes zs) with hb | hb
  · left
    split
    · rename_i h
      have := dcd_there h.2.1
      rw [h.2.2] at this
      exact this
    · rename_i h
      cases hd : dcd zs with
      | none => rfl
      | some l =>
        exfalso
        obtain ⟨h1, h2⟩ := dcd_back hb hd
        have h3 := pg_fw h2
        rw [← h1] at h3
        refine h ?_
        rw [h3]
        exact ⟨rfl, h2, h1.symm⟩
  · exact .inr hb

end Go.Proofs.YtpbhcmfbcnihiaaGreat
