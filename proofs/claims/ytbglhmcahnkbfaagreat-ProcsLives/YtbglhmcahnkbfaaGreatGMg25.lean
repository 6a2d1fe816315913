/- Texts of this seat, merged. -/
import Derived.Test.YtbglhmcahnkbfaaGreatGMg22
import Derived.BigQuiet
import Derived.Test.YtbglhmcahnkbfaaGreatGMg10
import Derived.Test.YtbglhmcahnkbfaaGreatGMg26
import Derived.Test.YtbglhmcahnkbfaaGreatGMg23
import Derived.Test.YtbglhmcahnkbfaaGreatGMg6
import Derived.Test.YtbglhmcahnkbfaaGreatGMg28
import Derived.Test.YtbglhmcahnkbfaaGreatGMg1
import Derived.Test.YtbglhmcahnkbfaaGreatGMg24
import Derived.Test.YtbglhmcahnkbfaaGreatGMg21

/- The document's processes as they lie: one block of three cells, one of 50, its open files. -/
namespace Go.Proofs.YtbglhmcahnkbfaaGreat
open Go.RowKit Go.ChangeMaps Go.MapKept
set_option linter.unusedVariables false
set_option maxRecDepth 20000

def nmD (i : Nat) (x : Gp) : Int := if x.st = 0 then 0 else (i : Int)
def gpD (i : Nat) (x : Gp) : List Value := [.int .i64 (nmD i x), .int .i64 x.pa, .int .i64 x.st, .int .i64 x.co, .int .i64 (x.fd 0), .int .i64 (x.fd 1), .int .i64 (x.fd 2), .int .i64 (x.fd 3), .int .i64 (x.fd 4), .int .i64 (x.fd 5)]
theorem gpD_fd (i : Nat) (x : Gp) (j : Nat) (hj : j < 6) : (gpD i x)[4 + j]? = some (.int .i64 (x.fd j)) := by
  obtain rfl | rfl | rfl | rfl | rfl | rfl : j = 0 ∨ j = 1 ∨ j = 2 ∨ j = 3 ∨ j = 4 ∨ j = 5 := by omega
  all_goals rfl
theorem ten {j : Nat} (h : j < 10) : j = 0 ∨ j = 1 ∨ j = 2 ∨ j = 3 ∨ ∃ m, m < 6 ∧ j = 4 + m := by
  by_cases e : j < 4
  · omega
  · exact .inr (.inr (.inr (.inr ⟨j - 4, by omega, by omega⟩)))

structure Dls (C : List Value) (Q : Nat → Gp) : Prop where
  len : C.length = 50
  at_ : ∀ i, i < 5 → ∀ j, j < 10 → C[i * 10 + j]? = (gpD i (Q i))[j]?
def Tl (w : World) (L : Nat) (Q : Nat → Gp) : Prop := ∃ C, w.heap[L]? = some (.cells (List.toArray C) 42 (0, 0)) ∧ Dls C Q
section
variable {w w' : World} {L : Nat} {Q : Nat → Gp}
theorem cell_l {w : World} {p j : Nat} {C : List Value} {v : Value} (h : w.heap[p]? = some (.cells C.toArray 42 (0, 0))) (hc : C[j]? = some v) : w.cell? ⟨p, j, none⟩ = some v := by
  rw [cell_of_row w p j _ 42 (0, 0) h]; simpa using hc
theorem Tl.lt (h : Tl w L Q) : L < w.heap.size := by obtain ⟨C, h, _⟩ := h; exact (Array.getElem?_eq_some_iff.1 h).1
theorem Tl.upd {U : Nat → Prop} (h : Tl w L Q) (u : Upd U w w') (hU : ¬ U L) : Tl w' L Q := by obtain ⟨C, h, hc⟩ := h; exact ⟨C, u.heap h hU, hc⟩
theorem Tl.hp (h : Tl w L Q) (e : w'.heap = w.heap) : Tl w' L Q := by obtain ⟨C, h, hc⟩ := h; exact ⟨C, by rw [e]; exact h, hc⟩
theorem Tl.nm (h : Tl w L Q) (i : Nat) (hi : i < 5) : w.cell? ⟨L, i * 10, none⟩ = some (.int .i64 (nmD i (Q i))) := by obtain ⟨C, h, hc⟩ := h; exact cell_l h (hc.at_ i hi 0 (by omega))
theorem Tl.pa (h : Tl w L Q) (i : Nat) (hi : i < 5) : w.cell? ⟨L, i * 10 + 1, none⟩ = some (.int .i64 (Q i).pa) := by obtain ⟨C, h, hc⟩ := h; exact cell_l h (hc.at_ i hi 1 (by omega))
theorem Tl.st (h : Tl w L Q) (i : Nat) (hi : i < 5) : w.cell? ⟨L, i * 10 + 2, none⟩ = some (.int .i64 (Q i).st) := by obtain ⟨C, h, hc⟩ := h; exact cell_l h (hc.at_ i hi 2 (by omega))
theorem Tl.co (h : Tl w L Q) (i : Nat) (hi : i < 5) : w.cell? ⟨L, i * 10 + 3, none⟩ = some (.int .i64 (Q i).co) := by obtain ⟨C, h, hc⟩ := h; exact cell_l h (hc.at_ i hi 3 (by omega))
theorem Tl.z (h : Tl w L Q) (i : Nat) (hi : i < 5) (j : Nat) (hj : j < 6) : w.cell? ⟨L, i * 10 + 4 + j, none⟩ = some (.int .i64 ((Q i).fd j)) := by
  obtain ⟨C, h, hc⟩ := h
  refine cell_l h ?_
  rw [show i * 10 + 4 + j = i * 10 + (4 + j) by omega, hc.at_ i hi (4 + j) (by omega), gpD_fd _ _ j hj]
theorem Tl.fz (h : Tl w L Q) (j : Nat) : w.frozen? ⟨L, j, none⟩ = false := by obtain ⟨C, h, hc⟩ := h; simp [World.frozen?, h]
theorem Tl.th (h : Tl w L Q) (i : Nat) (hi : i < 5) : w.there L (i * 10) 10 := by obtain ⟨C, h, hc⟩ := h; exact there_of_block h _ _ (by rw [hc.len]; omega)
theorem Tl.fds (h : Tl w L Q) (i : Nat) (hi : i < 5) : w.rangeAt L (i * 10 + 4) (fdV (Q i).fd) := by
  intro j v hv
  have hj : j < 6 := (List.getElem?_eq_some_iff.1 hv).1
  rw [fdV_at _ j hj] at hv
  rw [← hv]
  exact h.z i hi j hj
theorem Tl.row (h : Tl w L Q) (i : Nat) (hi : i < 5) : w.rangeAt L (i * 10) (gpD i (Q i)) := by
  intro j v hv
  have hj : j < 10 := (List.getElem?_eq_some_iff.1 hv).1
  obtain ⟨C, h, hc⟩ := h
  exact cell_l h (by rw [hc.at_ i hi j hj]; exact hv)

theorem Dls.put {C C' : List Value} (h : Dls C Q) (i : Nat) (hi : i < 5) (x : Gp) (hl : C'.length = 50)
    (out : ∀ j, j < i * 10 ∨ i * 10 + 10 ≤ j → C'[j]? = C[j]?) (inn : ∀ j, j < 10 → C'[i * 10 + j]? = (gpD i x)[j]?) : Dls C' (updG Q i x) := by
  refine ⟨hl, ?_⟩
  intro k hk j hj
  by_cases e : k = i
  · subst e; rw [updG_same]; exact inn j hj
  · rw [updG_ne _ _ _ _ e, out _ (by omega)]; exact h.at_ k hk j hj
theorem Tl.put (h : Tl w L Q) (i : Nat) (hi : i < 5) (x : Gp) : Tl (w.setCells L (i * 10) (gpD i x)) L (updG Q i x) := by
  obtain ⟨C, hb, hc⟩ := h
  have hl := hc.len
  have hs : i * 10 + (gpD i x).length ≤ C.length := by rw [hl]; simp [gpD]; omega
  exact ⟨_, heap_setCells L 42 (gpD i x) _ w C hb hs, hc.put i hi x (by rw [length_splice _ _ _ hs, hl]) (fun j hj => getElem?_splice_out _ _ _ _ hs (by simpa [gpD] using hj)) (fun j hj => getElem?_splice_in C (gpD i x) (i * 10) j hs hj)⟩
theorem Tl.one (h : Tl w L Q) (i : Nat) (hi : i < 5) (k : Nat) (hk : k < 10) (v : Value) (x : Gp) (hv : (gpD i x)[k]? = some v) (ho : ∀ j, j < 10 → j ≠ k → (gpD i x)[j]? = (gpD i (Q i))[j]?) : Tl (w.setCell ⟨L, i * 10 + k, none⟩ v) L (updG Q i x) := by
  obtain ⟨C, hb, hc⟩ := h
  have hl := hc.len
  refine ⟨C.set (i * 10 + k) v, by rw [heap_setCell_same w L _ C.toArray _ v hb]; simp, hc.put i hi x (by simp [hl]) (fun j hj => by rw [List.getElem?_set_ne (by omega)]) (fun j hj => ?_)⟩
  by_cases e : j = k
  · subst e; rw [List.getElem?_set_self (by omega), hv]
  · rw [List.getElem?_set_ne (by omega), hc.at_ i hi j hj, ho j hj e]
theorem Tl.stTo (h : Tl w L Q) (i : Nat) (hi : i < 5) (v : Int) (hv : v ≠ 0) (hs : (Q i).st ≠ 0) : Tl (w.setCell ⟨L, i * 10 + 2, none⟩ (.int .i64 v)) L (updG Q i { Q i with st := v }) :=
  h.one i hi 2 (by omega) _ _ rfl (fun j hj hk => by
    rcases ten hj with rfl | rfl | e | rfl | ⟨m, hm, rfl⟩
    · show some (Value.int .i64 (nmD i { Q i with st := v })) = some (Value.int .i64 (nmD i (Q i)))
      unfold nmD
      rw [if_neg hs, if_neg (show ({ Q i with st := v } : Gp).st ≠ 0 from hv)]
    · rfl
    · exact absurd e hk
    · rfl
    · rw [gpD_fd _ _ m hm, gpD_fd _ _ m hm])
theorem Tl.paTo (h : Tl w L Q) (i : Nat) (hi : i < 5) (v : Int) : Tl (w.setCell ⟨L, i * 10 + 1, none⟩ (.int .i64 v)) L (updG Q i { Q i with pa := v }) :=
  h.one i hi 1 (by omega) _ _ rfl (fun j hj hk => by
    rcases ten hj with rfl | e | rfl | rfl | ⟨m, hm, rfl⟩
    · rfl
    · exact absurd e hk
    · rfl
    · rfl
    · rw [gpD_fd _ _ m hm, gpD_fd _ _ m hm])
theorem Tl.coTo (h : Tl w L Q) (i : Nat) (hi : i < 5) (v : Int) : Tl (w.setCell ⟨L, i * 10 + 3, none⟩ (.int .i64 v)) L (updG Q i { Q i with co := v }) :=
  h.one i hi 3 (by omega) _ _ rfl (fun j hj hk => by
    rcases ten hj with rfl | rfl | rfl | e | ⟨m, hm, rfl⟩
    · rfl
    · rfl
    · rfl
    · exact absurd e hk
    · rw [gpD_fd _ _ m hm, gpD_fd _ _ m hm])
theorem Tl.fdTo (h : Tl w L Q) (i : Nat) (hi : i < 5) (k : Nat) (hk : k < 6) (v : Int) : Tl (w.setCell ⟨L, i * 10 + 4 + k, none⟩ (.int .i64 v)) L (updG Q i { Q i with fd := updFd (Q i).fd k v }) := by
  rw [show i * 10 + 4 + k = i * 10 + (4 + k) by omega]
  refine h.one i hi (4 + k) (by omega) _ _ ((gpD_fd _ _ k hk).trans (by show some (Value.int .i64 (updFd (Q i).fd k v k)) = _; rw [updFd_same])) (fun j hj hjk => ?_)
  rcases ten hj with rfl | rfl | rfl | rfl | ⟨m, hm, rfl⟩
  · rfl
  · rfl
  · rfl
  · rfl
  · rw [gpD_fd _ _ m hm, gpD_fd _ _ m hm]
    show some (Value.int .i64 (updFd (Q i).fd k v m)) = _
    rw [updFd_ne _ _ _ _ (by omega)]
end

/-- The document's table y: its list L, its open files x in blocks Dn. -/
structure Ys (w : World) (y x L : Nat) (Dn : Nat → Prop) (g : Gt) : Prop where
  hy : w.heap[y]? = some (.cells #[.slice (some ⟨L, 0, none⟩) 5 5, .pointer (some ⟨x, 0, none⟩), .int .i64 g.T.F.d] 102 (0, 0))
  tl : Tl w L g.Q
  td : Td w x g.T Dn
  yL : y ≠ L
  ny : ¬ Dn y
  nL : ¬ Dn L
def Yp (w : World) (y x L : Nat) (g : Gt) (D : Nat → Prop) : Prop := ∃ Dn, Ys w y x L Dn g ∧ D y ∧ D L ∧ ∀ b, Dn b → D b
def YpTo (w0 : World) (y x L : Nat) (g : Gt) (D : Nat → Prop) (w : World) : Prop := Yp w y x L g (fun b => D b ∨ w0.heap.size ≤ b) ∧ Upd D w0 w ∧ D y ∧ D L
section
variable {w0 w w' : World} {y x L : Nat} {g : Gt} {D Dn : Nat → Prop}
theorem Ys.lt (h : Ys w y x L Dn g) : y < w.heap.size := (Array.getElem?_eq_some_iff.1 h.hy).1
theorem Yp.mono {D' : Nat → Prop} (h : Yp w y x L g D) (k : ∀ b, b < w.heap.size → D b → D' b) : Yp w y x L g D' := by
  obtain ⟨Dn, h1, h2, h3, h4⟩ := h
  exact ⟨fun b => Dn b ∧ b < w.heap.size, ⟨h1.hy, h1.tl, h1.td.mono (fun b hb hG => ⟨hG, hb⟩), h1.yL, fun e => h1.ny e.1, fun e => h1.nL e.1⟩, k y h1.lt h2, k L h1.tl.lt h3, fun b hb => k b hb.2 (h4 b hb.1)⟩
theorem Yp.upd {U : Nat → Prop} (h : Yp w y x L g D) (u : Upd U w w') (hU : ∀ b, b < w.heap.size → D b → ¬ U b) : Yp w' y x L g D := by
  obtain ⟨Dn, h1, h2, h3, h4⟩ := h
  exact ⟨Dn, ⟨u.heap h1.hy (hU y h1.lt h2), h1.tl.upd u (hU L h1.tl.lt h3), h1.td.upd u (fun b hb hG => hU b hb (h4 b hG)), h1.yL, h1.ny, h1.nL⟩, h2, h3, h4⟩
theorem Yp.grow (h : Yp w y x L g D) (u : Below w.heap.size w w') : Yp w' y x L g D := h.upd (Upd.of_below (F := fun _ => False) u) (fun _ _ _ h => h)
theorem Yp.plt (h : Yp w y x L g D) : y < w.heap.size := by obtain ⟨_, h1, _⟩ := h; exact h1.lt
theorem Yp.tl (h : Yp w y x L g D) : Tl w L g.Q := by obtain ⟨_, h1, _⟩ := h; exact h1.tl
theorem Yp.cl (h : Yp w y x L g D) : w.cell? ⟨y, 0, none⟩ = some (.slice (some ⟨L, 0, none⟩) 5 5) := by obtain ⟨_, h1, _⟩ := h; rw [cell_of_row w y 0 _ _ _ h1.hy]; rfl
theorem Yp.cx (h : Yp w y x L g D) : w.cell? ⟨y, 1, none⟩ = some (.pointer (some ⟨x, 0, none⟩)) := by obtain ⟨_, h1, _⟩ := h; rw [cell_of_row w y 1 _ _ _ h1.hy]; rfl
theorem Yp.cd (h : Yp w y x L g D) : w.cell? ⟨y, 2, none⟩ = some (.int .i64 g.T.F.d) := by obtain ⟨_, h1, _⟩ := h; rw [cell_of_row w y 2 _ _ _ h1.hy]; rfl
theorem Yp.yL (h : Yp w y x L g D) : y ≠ L := by obtain ⟨_, h1, _⟩ := h; exact h1.yL
theorem Yp.to (h : Yp w y x L g D) : YpTo w y x L g D w := ⟨h.mono (fun _ _ h => .inl h), Upd.refl _ _, by obtain ⟨_, _, h2, h3, _⟩ := h; exact ⟨h2, h3⟩⟩
theorem YpTo.tl (h : YpTo w0 y x L g D w) : Tl w L g.Q := h.1.tl
theorem YpTo.grow (h : YpTo w0 y x L g D w) (u : Below w.heap.size w w') : YpTo w0 y x L g D w' := ⟨h.1.grow u, h.2.1.trans (Upd.of_below (F := fun _ => False) u) (fun _ _ h => h.elim), h.2.2⟩
theorem YpTo.drew (h : YpTo w0 y x L g D w) : YpTo w0 y x L g D w.drew := h.grow (Below.refl _ _).drew
theorem YpTo.put {Q' : Nat → Gp} (h : YpTo w0 y x L g D w) (k : Tl w' L Q') (u : Upd (· = L) w w') : YpTo w0 y x L { g with Q := Q' } D w' := by
  obtain ⟨⟨Dn, h1, h2, h3, h4⟩, h5, h6, h7⟩ := h
  exact ⟨⟨Dn, ⟨u.heap h1.hy h1.yL, k, h1.td.upd u (fun b _ hb e => h1.nL (e ▸ hb)), h1.yL, h1.ny, h1.nL⟩, h2, h3, h4⟩, h5.trans u (fun b _ e => by rw [e]; exact h7), h6, h7⟩
theorem YpTo.fil {T' : Ft} (h : YpTo w0 y x L g D w) (h1 : Ys w y x L Dn g) (h3 : ∀ b, Dn b → D b ∨ w0.heap.size ≤ b) (k : TdTo w x T' Dn w') (hd : T'.F.d = g.T.F.d) : YpTo w0 y x L { g with T := T' } D w' := by
  obtain ⟨_, h4, h5, h6⟩ := h
  obtain ⟨k1, k2⟩ := k
  have hl := h1.lt
  have hl2 := h1.tl.lt
  refine ⟨⟨fun b => Dn b ∨ w.heap.size ≤ b, ⟨?_, h1.tl.upd k2 h1.nL, k1, h1.yL, fun e => ?_, fun e => ?_⟩, .inl h5, .inl h6, fun b hb => ?_⟩, h4.trans k2 (fun b hb hG => ?_), h5, h6⟩
  · show w'.heap[y]? = some (.cells #[.slice (some ⟨L, 0, none⟩) 5 5, .pointer (some ⟨x, 0, none⟩), .int .i64 T'.F.d] 102 (0, 0))
    rw [hd]
    exact k2.heap h1.hy h1.ny
  · rcases e with e | e
    · exact h1.ny e
    · omega
  · rcases e with e | e
    · exact h1.nL e
    · omega
  · rcases hb with hb | hb
    · exact h3 b hb
    · exact .inr (Nat.le_trans h4.size hb)
  · rcases h3 b hG with e | e
    · exact e
    · omega
theorem YpTo.parts (h : YpTo w0 y x L g D w) : ∃ Dn, Ys w y x L Dn g ∧ ∀ b, Dn b → D b ∨ w0.heap.size ≤ b := by
  obtain ⟨⟨Dn, h1, _, _, h3⟩, _⟩ := h
  exact ⟨Dn, h1, h3⟩
end

end Go.Proofs.YtbglhmcahnkbfaaGreat

/- The program's processes: what reads alone (usable, has, runs, process, free, descriptor, File). -/
namespace Go.Proofs.YtbglhmcahnkbfaaGreat
open Go.RowKit Go.ChangeMaps Go.MapKept
set_option linter.unusedVariables false
set_option maxRecDepth 20000

theorem gusable_yes (p f : Nat) (w : World) (h : w.cell? ⟨p, 0, none⟩ = some (.pointer (some ⟨f, 0, none⟩))) :
    Calls Tryz.prog 49 #[.pointer (some ⟨p, 0, none⟩)] w fun e w' => e = .returned (.bool true) ∧ w' = w := by
  go_enter Tryz.func49, Tryz.ntmps49
  go_wp2
  go_ret
  exact ⟨rfl, rfl⟩
theorem ghas_any (w : World) (p : Nat) (d b : Int) (r : Bool) (h : w.cell? ⟨p, 1, none⟩ = some (.int .i64 d)) (hb : dfc d b = r) :
    Calls Tryz.prog 64 #[.pointer (some ⟨p, 0, none⟩), .int .i64 b] w fun e w' => e = .returned (.bool r) ∧ w' = w := by
  have HB : Hid ((bits BinOp.and IntKind.i64 d b != 0) = r) := hid (by rw [← hb]; unfold dfc; cases h : (bits BinOp.and IntKind.i64 d b != 0) <;> simp at h ⊢ <;> exact h)
  clear hb
  go_enter Tryz.func64, Tryz.ntmps64
  go_wp2_with fail
  go_ret
  refine ⟨?_, rfl⟩
  rw [← HB.out]
  rfl

/-- Does a process of this number run? -/
def qrn (Q : Nat → Gp) (n : Int) : Bool := decide (1 ≤ n ∧ n ≤ 4 ∧ (Q n.toNat).st = 1)
theorem qrn_lt {Q : Nat → Gp} {n : Int} (h : qrn Q n = true) : ∃ q : Nat, n = (q : Int) ∧ 1 ≤ q ∧ q ≤ 4 ∧ (Q q).st = 1 := by
  unfold qrn at h
  simp only [decide_eq_true_eq] at h
  exact ⟨n.toNat, by omega, by omega, by omega, h.2.2⟩
theorem gruns_any (p f : Nat) (d : Int) (Q : Nat → Gp) (n : Int) (b : Bool) (w : World) (h : Th w p f d Q) (hb : b = qrn Q n) :
    Calls Tryz.prog 51 #[.pointer (some ⟨p, 0, none⟩), .int .i64 n] w fun e w' => e = .returned (.bool b) ∧ w' = w := by
  by_cases c1 : n < 1
  · obtain rfl : b = false := by rw [hb]; unfold qrn; rw [decide_eq_false_iff_not]; omega
    clear hb h
    go_enter Tryz.func51, Tryz.ntmps51
    go_wp2
    go_ret
    exact ⟨rfl, rfl⟩
  · by_cases c2 : 4 < n
    · obtain rfl : b = false := by rw [hb]; unfold qrn; rw [decide_eq_false_iff_not]; omega
      clear hb h
      go_enter Tryz.func51, Tryz.ntmps51
      go_wp2
      go_ret
      exact ⟨rfl, rfl⟩
    · obtain ⟨i, rfl⟩ := Int.eq_ofNat_of_zero_le (show 0 ≤ n by omega)
      have hs := h.st i (by omega)
      obtain ⟨s, gs⟩ : ∃ s, s = (Q i).st := ⟨_, rfl⟩
      obtain rfl : b = decide (s = 1) := by rw [hb, gs]; unfold qrn; rw [decide_eq_decide]; exact ⟨fun h => h.2.2, fun h => ⟨by omega, by omega, h⟩⟩
      rw [← gs] at hs
      have c3 : (0 : Int) ≤ i := by omega
      have c4 : (i : Int) < 5 := by omega
      clear hb h gs
      go_enter Tryz.func51, Tryz.ntmps51
      go_wp2
      go_ret
      refine ⟨?_, rfl⟩
      by_cases hs1 : s = 1 <;> simp [hs1]

theorem gproc_yes (p f i : Nat) (d : Int) (Q : Nat → Gp) (w : World) (h : Th w p f d Q) (h1 : 1 ≤ i ∧ i ≤ 4) (hr : (Q i).st = 1) :
    Calls Tryz.prog 52 #[.pointer (some ⟨p, 0, none⟩), .int .i64 (i : Int)] w fun e w' => e = .returned (.tuple #[.pointer (some ⟨p, 2 + i * 9, none⟩), .int .i64 0]) ∧ w' = w := by
  have k1 := hid (gusable_yes p f w h.fl)
  have k2 := hid (gruns_any p f d Q i true w h (by symm; unfold qrn; rw [decide_eq_true_eq]; exact ⟨by omega, by omega, hr⟩))
  have c3 : (0 : Int) ≤ i := by omega
  have c4 : (i : Int) < 5 := by omega
  clear h hr
  go_enter Tryz.func52, Tryz.ntmps52
  go_wp2_with fail
  refine k1.out.mono ?_
  rintro e w1 ⟨rfl, rfl⟩
  go_wp2_with fail
  refine k2.out.mono ?_
  rintro e w1 ⟨rfl, rfl⟩
  go_wp2_with fail
  go_ret2
  exact ⟨rfl, rfl⟩
theorem gproc_no (p f : Nat) (d n : Int) (Q : Nat → Gp) (w : World) (h : Th w p f d Q) (hr : qrn Q n = false) :
    Calls Tryz.prog 52 #[.pointer (some ⟨p, 0, none⟩), .int .i64 n] w fun e w' => e = .returned (.tuple #[.pointer none, .int .i64 3]) ∧ w' = w := by
  have k1 := hid (gusable_yes p f w h.fl)
  have k2 := hid (gruns_any p f d Q n false w h hr.symm)
  clear h hr
  go_enter Tryz.func52, Tryz.ntmps52
  go_wp2_with fail
  refine k1.out.mono ?_
  rintro e w1 ⟨rfl, rfl⟩
  go_wp2_with fail
  refine k2.out.mono ?_
  rintro e w1 ⟨rfl, rfl⟩
  go_wp2_with fail
  go_ret2
  exact ⟨rfl, rfl⟩

def frQ (Q : Nat → Gp) : Nat := if (Q 1).st = 0 then 1 else if (Q 2).st = 0 then 2 else if (Q 3).st = 0 then 3 else if (Q 4).st = 0 then 4 else 0
theorem frQ_free (g : Gt) : g.free = frQ g.Q := rfl
theorem frQ_pre {Q : Nat → Gp} {j : Nat} (hj : j ≤ 4) (h : ∀ i, 1 ≤ i → i < j → (Q i).st ≠ 0) (h1 : 1 ≤ j) (h0 : (Q j).st = 0) : frQ Q = j := by
  unfold frQ
  obtain rfl | rfl | rfl | rfl : j = 1 ∨ j = 2 ∨ j = 3 ∨ j = 4 := by omega
  · rw [if_pos h0]
  · rw [if_neg (h 1 (by omega) (by omega)), if_pos h0]
  · rw [if_neg (h 1 (by omega) (by omega)), if_neg (h 2 (by omega) (by omega)), if_pos h0]
  · rw [if_neg (h 1 (by omega) (by omega)), if_neg (h 2 (by omega) (by omega)), if_neg (h 3 (by omega) (by omega)), if_pos h0]
theorem frQ_none {Q : Nat → Gp} (h : ∀ i, 1 ≤ i → i < 5 → (Q i).st ≠ 0) : frQ Q = 0 := by
  unfold frQ
  rw [if_neg (h 1 (by omega) (by omega)), if_neg (h 2 (by omega) (by omega)), if_neg (h 3 (by omega) (by omega)), if_neg (h 4 (by omega) (by omega))]
theorem gfree_any (p f : Nat) (d : Int) (Q : Nat → Gp) (w : World) (h : Th w p f d Q) :
    Calls Tryz.prog 69 #[.pointer (some ⟨p, 0, none⟩)] w fun e w' => e = .returned (.int .i64 (frQ Q : Int)) ∧ w' = w := by
  have H := hid h
  clear h
  go_enter Tryz.func69, Tryz.ntmps69
  go_wp2_with fail
  go_loop [3] (fun s => ∃ j : Nat, 1 ≤ j ∧ j ≤ 5 ∧ s = .int .i64 (j : Int) ∧ Hid (∀ i, 1 ≤ i → i < j → (Q i).st ≠ 0)) (fun s => 5 - (intOf s).toNat)
  case atStart => exact ⟨1, by omega, by omega, rfl, hid (fun i h1 h2 => by omega)⟩
  case round =>
    obtain ⟨j, h1, h5, rfl, HP⟩ := hrel
    by_cases e5 : j = 5
    · have HE := hid (frQ_none (Q := Q) (fun i a b => HP.out i a (by omega)))
      subst e5
      clear HP
      go_wp2_with fail
      go_ret
      exact ⟨by rw [HE.out]; rfl, rfl⟩
    · have hs := H.out.st j (by omega)
      have c3 : (0 : Int) ≤ j := by omega
      have c4 : (j : Int) < 5 := by omega
      have c5 : (j : Int) ≤ 4 := by omega
      by_cases hz : (Q j).st = 0
      · have HE := hid (frQ_pre (Q := Q) (by omega) HP.out h1 hz)
        rw [hz] at hs
        clear HP hz
        go_wp2_with fail
        go_ret
        exact ⟨congrArg (fun k : Nat => Ending.returned (.int .i64 (k : Int))) HE.out.symm, rfl⟩
      · have HP' : Hid (∀ i, 1 ≤ i → i < j + 1 → (Q i).st ≠ 0) := hid (fun i a b => by
          by_cases e : i = j
          · rw [e]; exact hz
          · exact HP.out i a (by omega))
        clear HP
        generalize (Q j).st = s at hs hz
        go_wp2_with fail
        go_round
        case rel => exact ⟨j + 1, by omega, by omega, by go_num, HP'⟩
        case measure => simp [intOf]; omega

theorem gisdesc_any (n : Int) (w : World) : Calls Tryz.prog 63 #[.int .i64 n] w fun e w' => e = .returned (.bool (decide (0 ≤ n ∧ n < 6))) ∧ w' = w := by
  by_cases c1 : n < 0
  · rw [show decide (0 ≤ n ∧ n < 6) = false by rw [decide_eq_false_iff_not]; omega]
    go_enter Tryz.func63, Tryz.ntmps63
    go_wp2
    go_ret
    exact ⟨rfl, rfl⟩
  · by_cases c2 : n < 6
    · rw [show decide (0 ≤ n ∧ n < 6) = true by rw [decide_eq_true_eq]; omega]
      have c3 : (0 : Int) ≤ n := by omega
      go_enter Tryz.func63, Tryz.ntmps63
      go_wp2
      go_ret
      exact ⟨rfl, rfl⟩
    · rw [show decide (0 ≤ n ∧ n < 6) = false by rw [decide_eq_false_iff_not]; omega]
      have c3 : (0 : Int) ≤ n := by omega
      go_enter Tryz.func63, Tryz.ntmps63
      go_wp2
      go_ret
      exact ⟨rfl, rfl⟩

/-- What 'descriptor' hands back. -/
def dsV (p : Nat) (g : Gt) (n fd : Int) : Value :=
  if (g.file n fd).2 ≠ 0 then .tuple #[.pointer none, .int .i64 0, .int .i64 (g.file n fd).2] else .tuple #[.pointer (some ⟨p, 2 + n.toNat * 9, none⟩), .int .i64 (g.file n fd).1, .int .i64 0]
theorem dsV_no {p : Nat} {g : Gt} {n fd : Int} (h : g.runs n = false) : dsV p g n fd = .tuple #[.pointer none, .int .i64 0, .int .i64 3] := by
  have e : g.file n fd = (0, 3) := by unfold Gt.file; rw [if_pos h]
  unfold dsV; rw [e]; rfl
theorem dsV_bad {p : Nat} {g : Gt} {n fd : Int} (h : g.runs n = true) (c : fd < 0 ∨ 6 ≤ fd ∨ (g.Q n.toNat).fd fd.toNat = 0) : dsV p g n fd = .tuple #[.pointer none, .int .i64 0, .int .i64 9] := by
  have e : g.file n fd = (0, 9) := by unfold Gt.file; rw [if_neg (by rw [h]; decide), if_pos c]
  unfold dsV; rw [e]; rfl
theorem dsV_yes {p : Nat} {g : Gt} {n fd : Int} (h : g.runs n = true) (c : ¬ (fd < 0 ∨ 6 ≤ fd ∨ (g.Q n.toNat).fd fd.toNat = 0)) : dsV p g n fd = .tuple #[.pointer (some ⟨p, 2 + n.toNat * 9, none⟩), .int .i64 ((g.Q n.toNat).fd fd.toNat), .int .i64 0] := by
  have e : g.file n fd = ((g.Q n.toNat).fd fd.toNat, 0) := by unfold Gt.file; rw [if_neg (by rw [h]; decide), if_neg c]
  unfold dsV; rw [e]; rfl
set_option maxHeartbeats 1000000 in
theorem gdesc_any (p f : Nat) (g : Gt) (n fd : Int) (w : World) (h : Th w p f g.T.F.d g.Q) :
    Calls Tryz.prog 61 #[.pointer (some ⟨p, 0, none⟩), .int .i64 n, .int .i64 fd] w fun e w' => e = .returned (dsV p g n fd) ∧ Below w.heap.size w w' := by
  cases hr : g.runs n
  · rw [dsV_no hr]
    have k1 := hid (gproc_no p f _ n g.Q w h hr)
    clear h hr
    go_enter Tryz.func61, Tryz.ntmps61
    go_wp2_with fail
    refine k1.out.mono ?_
    rintro e w1 ⟨rfl, rfl⟩
    go_wp2_with fail
    go_ret3
    exact ⟨rfl, Below.refl _ _⟩
  · obtain ⟨q, rfl, h1, h4, hs⟩ := qrn_lt hr
    have k1 := hid (gproc_yes p f q _ g.Q w h ⟨h1, h4⟩ hs)
    have k2 := hid (gisdesc_any fd w)
    by_cases c : 0 ≤ fd ∧ fd < 6
    · obtain ⟨i, rfl⟩ := Int.eq_ofNat_of_zero_le c.1
      have hz := h.z q (by omega) i (by omega)
      have k2 : Hid (Calls Tryz.prog 63 #[.int .i64 (i : Int)] w fun e w' => e = .returned (.bool true) ∧ w' = w) := by rw [decide_eq_true c] at k2; exact k2
      obtain ⟨c3, c4⟩ := c
      by_cases hv : (g.Q q).fd i = 0
      · rw [dsV_bad hr (by rw [Int.toNat_natCast, Int.toNat_natCast]; exact .inr (.inr hv))]
        rw [hv] at hz
        clear h hr hs hv
        go_enter Tryz.func61, Tryz.ntmps61
        go_wp2_with fail
        refine k1.out.mono ?_
        rintro e w1 ⟨rfl, rfl⟩
        go_wp2_with fail
        refine k2.out.mono ?_
        rintro e w1 ⟨rfl, rfl⟩
        go_wp2_with fail
        go_ret3
        exact ⟨rfl, Below.refl _ _⟩
      · rw [dsV_yes hr (by rw [Int.toNat_natCast, Int.toNat_natCast]; omega), Int.toNat_natCast, Int.toNat_natCast]
        generalize (g.Q q).fd i = v at hz hv ⊢
        clear h hr hs
        go_enter Tryz.func61, Tryz.ntmps61
        go_wp2_with fail
        refine k1.out.mono ?_
        rintro e w1 ⟨rfl, rfl⟩
        go_wp2_with fail
        refine k2.out.mono ?_
        rintro e w1 ⟨rfl, rfl⟩
        go_wp2_with fail
        go_quiet (fail)
        go_wp2_with fail
        go_ret3
        exact ⟨rfl, (Below.refl w1.heap.size w1).trans ⟨rfl, rfl, rfl, Nat.le_refl _, fun _ _ => rfl⟩⟩
    · have k2 : Hid (Calls Tryz.prog 63 #[.int .i64 fd] w fun e w' => e = .returned (.bool false) ∧ w' = w) := by rw [decide_eq_false c] at k2; exact k2
      rw [dsV_bad hr (by omega)]
      clear h hr hs
      go_enter Tryz.func61, Tryz.ntmps61
      go_wp2_with fail
      refine k1.out.mono ?_
      rintro e w1 ⟨rfl, rfl⟩
      go_wp2_with fail
      refine k2.out.mono ?_
      rintro e w1 ⟨rfl, rfl⟩
      go_wp2_with fail
      go_ret3
      exact ⟨rfl, Below.refl _ _⟩

theorem file_err {g : Gt} {n fd : Int} (h : (g.file n fd).2 ≠ 0) : (g.file n fd).1 = 0 := by
  unfold Gt.file at h ⊢
  split
  · rfl
  rename_i a
  rw [if_neg a] at h
  split
  · rfl
  rename_i b
  rw [if_neg b] at h
  exact absurd rfl h
theorem gfile_any (p f : Nat) (g : Gt) (n fd : Int) (w : World) (h : Th w p f g.T.F.d g.Q) :
    Calls Tryz.prog 21 #[.pointer (some ⟨p, 0, none⟩), .int .i64 n, .int .i64 fd] w fun e w' => e = .returned (.tuple #[.int .i64 (g.file n fd).1, .int .i64 (g.file n fd).2]) ∧ Below w.heap.size w w' := by
  have k1 := hid (gdesc_any p f g n fd w h)
  clear h
  by_cases c : (g.file n fd).2 = 0
  · have k1 : Hid (Calls Tryz.prog 61 #[.pointer (some ⟨p, 0, none⟩), .int .i64 n, .int .i64 fd] w fun e w' => e = .returned (.tuple #[.pointer (some ⟨p, 2 + n.toNat * 9, none⟩), .int .i64 (g.file n fd).1, .int .i64 0]) ∧ Below w.heap.size w w') := by
      have e : dsV p g n fd = .tuple #[.pointer (some ⟨p, 2 + n.toNat * 9, none⟩), .int .i64 (g.file n fd).1, .int .i64 0] := by unfold dsV; rw [if_neg (fun h => h c)]
      rw [e] at k1; exact k1
    rw [c]
    generalize (g.file n fd).1 = v at k1 ⊢
    clear c
    go_enter Tryz.func21, Tryz.ntmps21
    go_wp2_with fail
    refine k1.out.mono ?_
    rintro e w1 ⟨rfl, h1⟩
    go_wp2_with fail
    go_ret2
    exact ⟨rfl, h1⟩
  · have k1 : Hid (Calls Tryz.prog 61 #[.pointer (some ⟨p, 0, none⟩), .int .i64 n, .int .i64 fd] w fun e w' => e = .returned (.tuple #[.pointer none, .int .i64 0, .int .i64 (g.file n fd).2]) ∧ Below w.heap.size w w') := by
      have e : dsV p g n fd = .tuple #[.pointer none, .int .i64 0, .int .i64 (g.file n fd).2] := by unfold dsV; rw [if_pos c]
      rw [e] at k1; exact k1
    rw [file_err c]
    generalize (g.file n fd).2 = v at k1 ⊢
    clear c
    go_enter Tryz.func21, Tryz.ntmps21
    go_wp2_with fail
    refine k1.out.mono ?_
    rintro e w1 ⟨rfl, h1⟩
    go_wp2_with fail
    go_ret2
    exact ⟨rfl, h1⟩

end Go.Proofs.YtbglhmcahnkbfaaGreat

/- What usable, file, free, has, opened, bodyOf do (program). -/
namespace Go.Proofs.YtbglhmcahnkbfaaGreat
open Go.RowKit Go.ChangeMaps Go.MapKept
set_option linter.unusedVariables false
set_option maxRecDepth 20000

theorem fusable_yes (t s : Nat) (w : World) (h : w.cell? ⟨t, 0, none⟩ = some (.pointer (some ⟨s, 0, none⟩))) :
    Calls Tryz.prog 50 #[.pointer (some ⟨t, 0, none⟩)] w fun e w' => e = .returned (.bool true) ∧ w' = w := by
  go_enter Tryz.func50, Tryz.ntmps50
  go_wp2
  go_ret
  exact ⟨rfl, rfl⟩

/-- What 'file' tells. -/
def fileV (t : Nat) (T : Ft) (n : Int) : Value := if T.there n = true then .tuple #[.pointer (some ⟨t, 2 + n.toNat * 5, none⟩), .int .i64 0] else .tuple #[.pointer none, .int .i64 9]

set_option maxHeartbeats 1000000 in
theorem ffile_any (w : World) (t p q : Nat) (O0 : Nat → Fl) (Gn : Nat → Prop) (T : Ft) (H : Ts w t p q O0 Gn T) (n : Int) :
    Calls Tryz.prog 83 #[.pointer (some ⟨t, 0, none⟩), .int .i64 n] w fun e w' => e = .returned (fileV t T n) ∧ w' = w := by
  have k0 := hid (fusable_yes t p w H.tf.s)
  unfold fileV
  by_cases h1 : n < 1
  · rw [if_neg (by unfold Ft.there; simp; omega)]
    clear H
    go_enter Tryz.func83, Tryz.ntmps83
    go_wp2_with fail
    refine k0.out.mono ?_
    rintro e w1 ⟨rfl, rfl⟩
    clear k0
    go_wp2_with fail
    go_ret2
    exact ⟨rfl, rfl⟩
  by_cases h2 : 10 < n
  · rw [if_neg (by unfold Ft.there; simp; omega)]
    clear H
    go_enter Tryz.func83, Tryz.ntmps83
    go_wp2_with fail
    refine k0.out.mono ?_
    rintro e w1 ⟨rfl, rfl⟩
    clear k0
    go_wp2_with fail
    go_ret2
    exact ⟨rfl, rfl⟩
  obtain ⟨i, rfl⟩ : ∃ i : Nat, n = (i : Int) := ⟨n.toNat, by omega⟩
  have hi : i < 11 := by omega
  have c4 := H.tf.c4 i hi
  rw [H.h0 i hi] at c4
  have c3 : (0 : Int) ≤ (i : Int) := by omega
  have c5 : (i : Int) < 11 := by omega
  by_cases hh : (T.O i).h = 0
  · rw [hh] at c4
    rw [if_neg (by unfold Ft.there; simp [hh])]
    clear H hh
    go_enter Tryz.func83, Tryz.ntmps83
    go_wp2_with fail
    refine k0.out.mono ?_
    rintro e w1 ⟨rfl, rfl⟩
    clear k0
    go_wp2_with fail
    go_ret2
    exact ⟨rfl, rfl⟩
  · rw [if_pos (by unfold Ft.there; simp [hh]; omega), Int.toNat_natCast]
    obtain ⟨m, gm⟩ : ∃ m, m = (T.O i).h := ⟨_, rfl⟩
    rw [← gm] at c4 hh
    have hh' : (m == 0) = false := by simpa using hh
    clear H gm hh
    go_enter Tryz.func83, Tryz.ntmps83
    go_wp2_with fail
    refine k0.out.mono ?_
    rintro e w1 ⟨rfl, rfl⟩
    clear k0
    go_wp2_with fail
    go_ret2
    exact ⟨rfl, rfl⟩

/-- What lies below an open file: a node, or a pipe's end. -/
def bodyV (p q : Nat) (k of : Int) : Value := if k = 3 then .iface 165 (.agg #[.pointer (some ⟨q, 0, none⟩), .int .i64 of, .bool true]) else if k = 2 then .iface 165 (.agg #[.pointer (some ⟨q, 0, none⟩), .int .i64 of, .bool false]) else .iface 167 (.agg #[.pointer (some ⟨p, 0, none⟩), .int .i64 of])

set_option maxHeartbeats 2000000 in
theorem body_any (w : World) (t p q o : Nat) (k of : Int) (cs : w.cell? ⟨t, 0, none⟩ = some (.pointer (some ⟨p, 0, none⟩))) (cp : w.cell? ⟨t, 1, none⟩ = some (.pointer (some ⟨q, 0, none⟩))) (c0 : w.cell? ⟨t, o, none⟩ = some (.int .i64 k)) (c1 : w.cell? ⟨t, o + 1, none⟩ = some (.int .i64 of)) (hk : k = 1 ∨ k = 2 ∨ k = 3) :
    Calls Tryz.prog 84 #[.pointer (some ⟨t, 0, none⟩), .pointer (some ⟨t, o, none⟩)] w fun e w' => e = .returned (bodyV p q k of) ∧ Below w.heap.size w w' := by
  unfold bodyV
  rcases hk with rfl | rfl | rfl
  · go_enter Tryz.func84, Tryz.ntmps84
    go_wp2_with fail
    go_quiet (fail)
    go_wp2_with fail
    go_ret
    exact ⟨rfl, ⟨rfl, rfl, rfl, Nat.le_refl _, fun _ _ => rfl⟩⟩
  · go_enter Tryz.func84, Tryz.ntmps84
    go_wp2_with fail
    go_quiet (fail)
    go_wp2_with fail
    go_ret
    exact ⟨rfl, ⟨rfl, rfl, rfl, Nat.le_refl _, fun _ _ => rfl⟩⟩
  · go_enter Tryz.func84, Tryz.ntmps84
    go_wp2_with fail
    go_quiet (fail)
    go_wp2_with fail
    go_ret
    exact ⟨rfl, ⟨rfl, rfl, rfl, Nat.le_refl _, fun _ _ => rfl⟩⟩

end Go.Proofs.YtbglhmcahnkbfaaGreat

/- Words for calls: rows of bytes, reads, what Stat tells. -/
namespace Go.Proofs.YtbglhmcahnkbfaaGreat
open Go.RowKit Go.ChangeMaps Go.MapKept
set_option linter.unusedVariables false
set_option maxRecDepth 20000

theorem pstat2 (p : Nat) (F : Fs) (G : Nat → Prop) (w : World) (H : Pf w p F G) (hF : FOk F) (n : Int) :
    Calls Tryz.prog 87 #[.pointer (some ⟨p, 0, none⟩), .int .i64 n] w fun e w' => e = .returned (.tuple #[.agg #[.int .i64 (F.stat n).1, .int .i64 (F.stat n).2.1, .int .i64 (F.stat n).2.2.1], .int .i64 (F.stat n).2.2.2]) ∧ Below w.heap.size w w' := by
  have HP := H
  obtain ⟨S, HS, R, hG⟩ := H
  by_cases ht : F.there n = false
  · have e : F.stat n = (0, 0, 0, 2) := by unfold Fs.stat; rw [if_pos ht]
    rw [e]
    refine (stat_no p S w HS n (there_no R ht)).mono ?_
    rintro e w' ⟨rfl, h⟩
    exact ⟨rfl, h⟩
  · obtain ⟨i, rfl, h1, h2, hk⟩ := there_yes (by simpa using ht : F.there n = true)
    have e : F.stat (i : Int) = ((F.P i).k, (F.P i).l, (F.size i : Int), 0) := by unfold Fs.stat; rw [if_neg ht]; rfl
    rw [e]
    have r := R.P i h2
    refine (stat_any p S w i h1 h2 HS (by rw [r.k]; exact hk) (F.size i) ?_).mono ?_
    · rw [r.k, R.L i h2, r.s]
      unfold Fs.size
      by_cases q : (F.P i).k = 2
      · rw [if_pos q, (hF.dir i q).1]; simp
      · rw [if_neg q, hF.file i q]; simp
    · rintro e w' ⟨rfl, h⟩
      rw [r.k, r.l]
      exact ⟨rfl, h⟩


end Go.Proofs.YtbglhmcahnkbfaaGreat

/- What the methods of nodes and of pipes' ends do (program). -/
namespace Go.Proofs.YtbglhmcahnkbfaaGreat
open Go.RowKit Go.ChangeMaps Go.MapKept
set_option linter.unusedVariables false
set_option maxRecDepth 20000

set_option maxHeartbeats 1000000 in
theorem fedrop (w : World) (q : Nat) (of : Int) (wr k : Bool) (P : Nat → Pi.Pp) (H : Pi.Tc w q k P) :
    Calls Tryz.prog 199 #[.agg #[.pointer (some ⟨q, 0, none⟩), .int .i64 of, .bool wr]] w fun e w' => e = .returned (.int .i64 (Pi.dropE P of wr)) ∧ Pi.Tc w' q k (Pi.dropP k P of wr) ∧ Upd (· = q) w w' := by
  have k1 := hid (fun W (hb : Below w.heap.size w W) => Pi.drop_spec q of k wr P W (H.below hb H.lt))
  clear H
  generalize Pi.dropE P of wr = b1 at k1 ⊢
  go_enter Tryz.func199, Tryz.ntmps199
  go_wp2_with fail
  have hb := one_new w (Obj.cells #[.pointer (some ⟨q, 0, none⟩), .int .i64 of, .bool wr] 165)
  refine (k1.out _ hb).mono ?_
  rintro e w1 ⟨rfl, hT, hU⟩
  have HQ := hid (And.intro hT ((Upd.of_below hb).trans hU (fun _ _ h => h)))
  clear hT hU hb k1
  go_wp2_with fail
  go_ret
  exact ⟨rfl, HQ.out.1, HQ.out.2⟩

set_option maxHeartbeats 1000000 in
theorem fndrop (w : World) (p : Nat) (F : Fs) (G : Nat → Prop) (H : Pf w p F G) (hF : FOk F) (of : Int) :
    Calls Tryz.prog 206 #[.agg #[.pointer (some ⟨p, 0, none⟩), .int .i64 of]] w fun e w' => e = .returned (.int .i64 (F.drop of).2) ∧ PfTo w p (F.drop of).1 G w' := by
  have k1 := hid (fun W (hb : Below w.heap.size w W) => pdrop p F G W (H.grow hb) hF of)
  clear H
  generalize (F.drop of).2 = b1 at k1 ⊢
  go_enter Tryz.func206, Tryz.ntmps206
  go_wp2_with fail
  have hb := one_new w (Obj.cells #[.pointer (some ⟨p, 0, none⟩), .int .i64 of] 167)
  refine (k1.out _ hb).mono ?_
  rintro e w1 ⟨rfl, hT⟩
  have HQ := hid (hT.ahead hb)
  clear hT hb k1
  go_wp2_with fail
  go_ret
  exact ⟨rfl, HQ.out⟩

end Go.Proofs.YtbglhmcahnkbfaaGreat

/- slices.Equal of what Look tells; what it tells are numbers. -/
namespace Go.Proofs.YtbglhmcahnkbfaaGreat
open Go.RowKit Go.ChangeMaps Go.MapKept
set_option linter.unusedVariables false
set_option maxRecDepth 20000

theorem oiL_int (O : Nat → Fl) : ∀ n j, j < (oiL O n).length → ∃ y : Int, (oiL O n)[j]? = some (.int .i64 y)
  | 0, j, h => by simp [oiL] at h
  | n + 1, j, h => by
    have ih := oiL_int O n j
    simp only [oiL] at h ⊢
    split at h
    · rename_i ht
      rw [if_pos ht]; exact ih h
    · rename_i ht
      rw [if_neg ht]
      rcases Nat.lt_or_ge j (oiL O n).length with h1 | h1
      · rw [List.getElem?_append_left h1]; exact ih h1
      · rw [List.getElem?_append_right h1]
        rw [List.length_append] at h
        simp only [oiV, List.length_cons, List.length_nil] at h ⊢
        obtain hj | hj | hj | hj | hj | hj : j - (oiL O n).length = 0 ∨ j - (oiL O n).length = 1 ∨ j - (oiL O n).length = 2 ∨ j - (oiL O n).length = 3 ∨ j - (oiL O n).length = 4 ∨ j - (oiL O n).length = 5 := by omega
        all_goals (rw [hj]; exact ⟨_, rfl⟩)

set_option maxHeartbeats 2000000 in
theorem oequal_yes (v1 v2 : Value) (B n : Nat) (xs : List Value) (w : World) (h1 : w.ownsRow B 46 6 v1 n xs) (h2 : w.ownsRow B 46 6 v2 n xs) (hx : ∀ j, j < xs.length → ∃ y : Int, xs[j]? = some (.int .i64 y)) (hn : n ≤ 11) :
    Calls Tryz.prog 42 #[v1, v2] w fun e w' => e = .returned (.bool true) ∧ Below w.heap.size w w' := by
  have hl : xs.length = n * 6 := h1.1
  have shape : ∀ v, w.ownsRow B 46 6 v n xs → ∃ a c, v = .slice a n c ∧ (0 < n → ∃ g, a = some ⟨g, 0, none⟩ ∧ ∀ j x, j < n * 6 → xs[j]? = some x → w.cell? ⟨g, j, none⟩ = some x) := by
    intro v h
    rcases h.2 with ⟨rfl, rfl⟩ | ⟨g, cap, cur, rfl, _⟩
    · exact ⟨none, 0, rfl, fun h => absurd h (Nat.lt_irrefl 0)⟩
    · exact ⟨_, cap, rfl, fun _ => ⟨g, rfl, fun j x hj hx => by rw [h.cellAt j hj]; exact hx⟩⟩
  obtain ⟨a1, c1, rfl, s1⟩ := shape v1 h1
  obtain ⟨a2, c2, rfl, s2⟩ := shape v2 h2
  have S1 := hid s1
  have S2 := hid s2
  have HX := hid hx
  have HL := hid hl
  clear s1 s2 hx h1 h2 shape hl
  go_enter Tryz.func42, Tryz.ntmps42
  go_wp2_with fail
  go_loopw [13] (fun s wr => ∃ j : Nat, j ≤ n ∧ s = .int .i64 j ∧ Hid (wr.heap = w.heap ∧ Upd (fun _ => False) w wr)) (fun s _ => n - (intOf s).toNat)
  case atStart => exact ⟨0, Nat.zero_le _, rfl, hid ⟨rfl, Upd.refl _ _⟩⟩
  case round =>
    obtain ⟨j, hj, rfl, HH⟩ := hrel
    by_cases h : j < n
    · obtain ⟨g1, rfl, k1⟩ := S1.out (by omega)
      obtain ⟨g2, rfl, k2⟩ := S2.out (by omega)
      have hl := HL.out
      obtain ⟨y0, x0⟩ := HX.out (j * 6) (by omega)
      obtain ⟨y1, x1⟩ := HX.out (j * 6 + 1) (by omega)
      obtain ⟨y2, x2⟩ := HX.out (j * 6 + 2) (by omega)
      obtain ⟨y3, x3⟩ := HX.out (j * 6 + 3) (by omega)
      obtain ⟨y4, x4⟩ := HX.out (j * 6 + 4) (by omega)
      obtain ⟨y5, x5⟩ := HX.out (j * 6 + 5) (by omega)
      have cv : ∀ g o v, w.cell? ⟨g, o, none⟩ = some v → wr.cell? ⟨g, o, none⟩ = some v := fun g o v hv => by
        rw [← hv]; exact World.cell?_of_block (a := ⟨g, o, none⟩) (by rw [HH.out.1])
      have p0 := cv _ _ _ (k1 _ _ (by omega) x0)
      have p1 := cv _ _ _ (k1 _ _ (by omega) x1)
      have p2 := cv _ _ _ (k1 _ _ (by omega) x2)
      have p3 := cv _ _ _ (k1 _ _ (by omega) x3)
      have p4 := cv _ _ _ (k1 _ _ (by omega) x4)
      have p5 := cv _ _ _ (k1 _ _ (by omega) x5)
      have q0 := cv _ _ _ (k2 _ _ (by omega) x0)
      have q1 := cv _ _ _ (k2 _ _ (by omega) x1)
      have q2 := cv _ _ _ (k2 _ _ (by omega) x2)
      have q3 := cv _ _ _ (k2 _ _ (by omega) x3)
      have q4 := cv _ _ _ (k2 _ _ (by omega) x4)
      have q5 := cv _ _ _ (k2 _ _ (by omega) x5)
      clear cv k1 k2 x0 x1 x2 x3 x4 x5 hl S1 S2
      go_wp2_with fail
      go_region_held3 (fun wx => wx.cell? ⟨g1, j * 6, none⟩ = some (.int .i64 y0) ∧ wx.cell? ⟨g1, j * 6 + 1, none⟩ = some (.int .i64 y1) ∧ wx.cell? ⟨g1, j * 6 + 2, none⟩ = some (.int .i64 y2) ∧ wx.cell? ⟨g1, j * 6 + 3, none⟩ = some (.int .i64 y3) ∧ wx.cell? ⟨g1, j * 6 + 4, none⟩ = some (.int .i64 y4) ∧ wx.cell? ⟨g1, j * 6 + 5, none⟩ = some (.int .i64 y5) ∧ wx.cell? ⟨g2, j * 6, none⟩ = some (.int .i64 y0) ∧ wx.cell? ⟨g2, j * 6 + 1, none⟩ = some (.int .i64 y1) ∧ wx.cell? ⟨g2, j * 6 + 2, none⟩ = some (.int .i64 y2) ∧ wx.cell? ⟨g2, j * 6 + 3, none⟩ = some (.int .i64 y3) ∧ wx.cell? ⟨g2, j * 6 + 4, none⟩ = some (.int .i64 y4) ∧ wx.cell? ⟨g2, j * 6 + 5, none⟩ = some (.int .i64 y5)) (go_keep) (fail)
      go_wp2_with fail
      go_roundw
      case rel => exact ⟨j + 1, by omega, by go_num, hid ⟨HH.out.1, HH.out.2.drewN 1⟩⟩
      case measure => simp [intOf]; omega
    · obtain rfl : j = n := by omega
      go_wp2_with fail
      go_ret
      exact ⟨rfl, HH.out.2.below (Nat.le_refl _) (fun _ h => h.elim)⟩


end Go.Proofs.YtbglhmcahnkbfaaGreat

/- What Look of open files tells, row by row. -/
namespace Go.Proofs.YtbglhmcahnkbfaaGreat
open Go.RowKit Go.ChangeMaps Go.MapKept
set_option linter.unusedVariables false
set_option maxRecDepth 20000

theorem flat_at (f : Nat → List Value) (L : Nat) (hL : ∀ i, (f i).length = L) : ∀ (is : List Nat) (j : Nat) (hj : j < is.length) (k : Nat), k < L → (is.flatMap f)[j * L + k]? = (f is[j])[k]?
  | i :: r, 0, hj, k, hk => by
    rw [List.flatMap_cons, List.getElem?_append_left (by rw [hL]; omega)]
    simp
  | i :: r, j + 1, hj, k, hk => by
    have e : (j + 1) * L + k = L + (j * L + k) := by rw [Nat.succ_mul]; omega
    rw [List.flatMap_cons, e, List.getElem?_append_right (by rw [hL]; omega), hL, Nat.add_sub_cancel_left]
    have hj' : j < r.length := by simpa using hj
    rw [flat_at f L hL r j hj' k hk]
    simp

/-- The numbers that are open. -/
def opn (O : Nat → Fl) (n : Nat) : List Nat := (List.range n).filter (fun i => decide ((O i).h ≠ 0))
theorem opn_flat (O : Nat → Fl) : ∀ n, oiL O n = (opn O n).flatMap (fun i => oiV i (O i)) ∧ oiN O n = (opn O n).length
  | 0 => ⟨rfl, rfl⟩
  | n + 1 => by
    obtain ⟨a, b⟩ := opn_flat O n
    unfold opn at a b ⊢
    simp only [oiL, oiN, List.range_succ, List.filter_append]
    by_cases h : (O n).h = 0
    · simp [h, a, b]
    · simp [h, a, b]
theorem mem_opn {O : Nat → Fl} {n i : Nat} : i ∈ opn O n ↔ i < n ∧ (O i).h ≠ 0 := by
  unfold opn
  rw [List.mem_filter, List.mem_range]
  simp

/-- Rows as they are read. -/
def Rws (w : World) (B : Nat) (a : Option Addr) (is : List Nat) (L : Nat) (f : Nat → List Value) : Prop :=
  0 < is.length → ∃ q, a = some ⟨q, 0, none⟩ ∧ B ≤ q ∧ q < w.heap.size ∧ ∀ j, ∀ h : j < is.length, ∀ k, k < L → ∀ v, (f is[j])[k]? = some v → w.cell? ⟨q, j * L + k, none⟩ = some v
theorem Rws.of {w : World} {B e n : Nat} {v : Value} {is : List Nat} {L : Nat} {f : Nat → List Value} (hL : ∀ i, (f i).length = L) (hn : n = is.length) (h : w.ownsRow B e L v n (is.flatMap f)) : ∃ a c, v = .slice a n c ∧ Rws w B a is L f := by
  obtain ⟨a, c, rfl, _, _, hc⟩ := own_shp h
  refine ⟨a, c, rfl, fun h0 => ?_⟩
  obtain ⟨q, rfl, hB, hq, hcc⟩ := hc (by omega)
  exact ⟨q, rfl, hB, hq, fun j hj k hk v hv => hcc _ v (by rw [flat_at f L hL is j hj k hk]; exact hv)⟩
theorem Rws.upd {U : Nat → Prop} {w w' : World} {B : Nat} {a : Option Addr} {is : List Nat} {L : Nat} {f : Nat → List Value} (h : Rws w B a is L f) (u : Upd U w w') (hU : ∀ b, B ≤ b → ¬ U b) : Rws w' B a is L f := fun h0 => by
  obtain ⟨q, e, hB, hq, hh⟩ := h h0
  exact ⟨q, e, hB, Nat.lt_of_lt_of_le hq u.size, fun j hj k hk v hv => (World.cell?_of_block (a := ⟨q, _, none⟩) (u.block q hq (hU q hB))).trans (hh j hj k hk v hv)⟩
theorem Rws.below {w w' : World} {B : Nat} {a : Option Addr} {is : List Nat} {L : Nat} {f : Nat → List Value} (h : Rws w B a is L f) (u : Below w.heap.size w w') : Rws w' B a is L f := h.upd (Upd.of_below (F := fun _ => False) u) (fun _ _ h => h)
end Go.Proofs.YtbglhmcahnkbfaaGreat

/- What there, free, node of the document's open files do. -/
namespace Go.Proofs.YtbglhmcahnkbfaaGreat
open Go.RowKit Go.ChangeMaps Go.MapKept
set_option linter.unusedVariables false
set_option maxRecDepth 20000

theorem TOk.k0 {T : Ft} (H : TOk T) (i : Nat) : (T.O i).k = 0 ↔ (T.O i).h = 0 := by
  constructor
  · intro e
    by_cases h : (T.O i).h = 0
    · exact h
    · have := H.k i h; omega
  · intro e
    rw [H.nn i e]; rfl

set_option maxHeartbeats 1000000 in
theorem r8there (w : World) (x g s q : Nat) (Dn Dp : Nat → Prop) (T : Ft) (H : Rs w x g s q Dn Dp T) (hT : TOk T) (n : Int) :
    Calls Tryz.prog 93 #[.pointer (some ⟨x, 0, none⟩), .int .i64 n] w fun e w' => e = .returned (.bool (T.there n)) ∧ w' = w := by
  by_cases h1 : n < 1
  · rw [show T.there n = false by unfold Ft.there; simp; omega]
    have h1' : ¬ (1 : Int) ≤ n := by omega
    clear H
    go_enter Tryz.func93, Tryz.ntmps93
    go_wp2_with fail
    go_ret
    exact ⟨rfl, rfl⟩
  have h1' : (1 : Int) ≤ n := by omega
  by_cases h2 : 10 < n
  · rw [show T.there n = false by unfold Ft.there; simp; omega]
    have h2' : ¬ n ≤ (10 : Int) := by omega
    clear H
    go_enter Tryz.func93, Tryz.ntmps93
    go_wp2_with fail
    go_ret
    exact ⟨rfl, rfl⟩
  have h2' : n ≤ (10 : Int) := by omega
  obtain ⟨i, rfl⟩ : ∃ i : Nat, n = (i : Int) := ⟨n.toNat, by omega⟩
  have hi : i < 11 := by omega
  have c0 := H.gf.c0 i hi
  have cl := H.cl
  have i1 : (0 : Int) ≤ (i : Int) := by omega
  have i2 : (i : Int) < 11 := by omega
  have hk := hT.k0 i
  by_cases hh : (T.O i).h = 0
  · rw [show T.there (i : Int) = false by unfold Ft.there; simp [hh]]
    rw [hk.2 hh] at c0
    clear H hh hk h1 h2
    go_enter Tryz.func93, Tryz.ntmps93
    go_wp2_with fail
    go_ret
    exact ⟨rfl, rfl⟩
  · rw [show T.there (i : Int) = true by unfold Ft.there; simp [hh]; omega]
    have hk' : ¬ (T.O i).k = 0 := fun e => hh (hk.1 e)
    generalize (T.O i).k = k at c0 hk'
    clear H hh hk h1 h2
    go_enter Tryz.func93, Tryz.ntmps93
    go_wp2_with fail
    go_ret
    refine ⟨?_, rfl⟩
    simp [hk']

theorem infoI9 : (Tryz.prog.info? 3).map (fun i => (i.zero, i.size, i.bytes)) = some (some (.int .i64 0), 1, 8) := by kernel_rfl

set_option maxHeartbeats 2000000 in
theorem r8free (w : World) (x g s q : Nat) (Dn Dp : Nat → Prop) (T : Ft) (H : Rs w x g s q Dn Dp T) (hT : TOk T) : Calls Tryz.prog 94 #[.pointer (some ⟨x, 0, none⟩)] w fun e w' => (∃ v, e = .returned v ∧ w'.ownsRow w.heap.size 3 1 v (ofL T.O 11).length ((ofL T.O 11).map fun (i : Nat) => Value.int .i64 (i : Int))) ∧ Below w.heap.size w w' := by
  obtain ⟨i0, hi0, hz0, hz1, hz2⟩ := info_parts infoI9
  have HH := hid H
  have HK := hid hT.k0
  obtain ⟨F, gF⟩ : ∃ F, F = T.O := ⟨_, rfl⟩
  rw [← gF] at HK ⊢
  have HC : Hid (∀ W, Below w.heap.size w W → W.cell? ⟨x, 0, none⟩ = some (.slice (some ⟨g, 0, none⟩) 11 11) ∧ ∀ j, j < 11 → W.cell? ⟨g, j * 5, none⟩ = some (.int .i64 (F j).k)) := by
    rw [gF]
    exact hid (fun W hW => ⟨(HH.out.grow hW).cl, fun j hj => (HH.out.grow hW).gf.c0 j hj⟩)
  clear H hT HH gF
  go_enter Tryz.func94, Tryz.ntmps94
  go_wp2_with fail
  go_loopw [3, 4] (fun v k wr => ∃ j : Nat, 1 ≤ j ∧ j ≤ 11 ∧ k = .int .i64 (j : Int) ∧ Hid (wr.ownsRow w.heap.size 3 1 v (ofL F j).length ((ofL F j).map fun (i : Nat) => Value.int .i64 (i : Int)) ∧ Below w.heap.size w wr)) (fun _ k _ => 11 - (intOf k).toNat)
  case atStart => exact ⟨1, by omega, by omega, rfl, hid ⟨World.ownsRow_nil _ _ _ _, Below.refl _ _⟩⟩
  case round =>
    obtain ⟨j, hj1, hj11, rfl, HQ⟩ := hrel
    by_cases e : j = 11
    · subst e
      go_wp2_with fail
      go_ret
      exact ⟨⟨_, rfl, HQ.out.1⟩, HQ.out.2⟩
    · have hj : j < 11 := by omega
      have hj2 : (j : Int) ≤ 10 := by omega
      have hj3 : (j : Int) < 11 := by omega
      have hj0 : (0 : Int) ≤ (j : Int) := by omega
      obtain ⟨cl, c0'⟩ := HC.out _ HQ.out.2
      have c0 := c0' j hj
      have hfl := ofL_le F j
      have hk := HK.out j
      clear e c0'
      by_cases h0 : (F j).h = 0
      · rw [hk.2 h0] at c0
        have HC : Hid (ofL F (j + 1) = ofL F j ++ [j]) := hid (by rw [ofL, if_pos ⟨hj1, h0⟩])
        have hsz := HQ.out.2.size
        clear h0 hk
        go_wp2_with (at_builtin; go_must (refine wpList_append_own _ rfl (.tmp 18) (.tmp 20) 48 rfl w.heap.size 3 i0 _ 1 8 Tryz.underlying48 hi0 hz0 hz1 hz2 rfl (by decide) _ (ofL F j).length ((ofL F j).map fun (i : Nat) => Value.int .i64 (i : Int)) rfl (HQ.out.1.alloc _) ⟨_, 0, none⟩ 1 1 [.int .i64 (j : Int)] rfl rfl (cell_one_new _ _ _) (by simp [Value.oneCell']) (by unfold maxLen; omega) (by omega) (by simp; omega) ?_))
        intro v' w6 hO6 hG6 hN6
        have hb6 : Below w.heap.size w w6 := by
          have u : Upd _ _ w6 := Upd.of_grown hG6
          refine (HQ.out.2.trans (((Below.refl _ _).alloc (Nat.le_refl _) _).mono hsz)).trans (u.below (by simp; omega) (fun k hk => ?_))
          exact (HQ.out.1.lt k hk.symm).1
        have HQ6 : Hid (w6.ownsRow w.heap.size 3 1 v' (ofL F (j + 1)).length ((ofL F (j + 1)).map fun (i : Nat) => Value.int .i64 (i : Int)) ∧ Below w.heap.size w w6) := by
          rw [HC.out]
          refine hid ⟨?_, hb6⟩
          simpa using hO6
        clear hO6 hG6 hN6 hb6
        go_wp2_with fail
        go_roundw
        case rel => exact ⟨j + 1, by omega, by omega, by go_num, HQ6⟩
        case measure => simp [intOf]; omega
      · have HC : Hid (ofL F (j + 1) = ofL F j) := hid (by rw [ofL, if_neg (fun e => h0 e.2)]; simp)
        have hk' : ¬ (F j).k = 0 := fun e => h0 (hk.1 e)
        generalize (F j).k = k at c0 hk'
        clear h0 hk
        go_wp2_with fail
        go_roundw
        case rel => exact ⟨j + 1, by omega, by omega, by go_num, by rw [HC.out]; exact HQ⟩
        case measure => simp [intOf]; omega

theorem ddfc_t {g b : Int} (h : dfc g b = true) : (bits BinOp.and IntKind.i64 g b == 0) = false ∧ (bits BinOp.and IntKind.i64 g b != 0) = true := by
  unfold dfc at h
  simp at h
  simp [h]
theorem ddfc_f {g b : Int} (h : dfc g b = false) : (bits BinOp.and IntKind.i64 g b == 0) = true ∧ (bits BinOp.and IntKind.i64 g b != 0) = false := by
  unfold dfc at h
  simp at h
  simp [h]

theorem Rs.find {w : World} {x g s q : Nat} {Dn Dp : Nat → Prop} {T : Ft} (H : Rs w x g s q Dn Dp T) (hF : FOk T.F) (l : ByteArray) (hs : l.size ≤ 1048576) :
    Calls Tryz.prog 115 #[.pointer (some ⟨s, 0, none⟩), .string l] w fun e w' => e = .returned (.tuple #[.int .i64 ((T.F.find (bl l)).1 : Int), .int .i64 (T.F.find (bl l)).2]) ∧ Below w.heap.size w w' := by
  obtain ⟨gN, uN, V, hR, hD⟩ := H.nf
  exact rfind_any s gN uN V T.F w hR hF l hs
theorem Rs.make {w : World} {x g s q : Nat} {Dn Dp : Nat → Prop} {T : Ft} (H : Rs w x g s q Dn Dp T) (hF : FOk T.F) (l : ByteArray) (hs : l.size ≤ 1048576) (k : Int) :
    Calls Tryz.prog 116 #[.pointer (some ⟨s, 0, none⟩), .string l, .int .i64 k] w fun e w' => e = .returned (.tuple #[.int .i64 ((T.F.make (bl l) k).2.1 : Int), .int .i64 (T.F.make (bl l) k).2.2]) ∧ NfTo w s (T.F.make (bl l) k).1 Dn w' := by
  obtain ⟨gN, uN, V, hR, hD⟩ := H.nf
  refine (rmake_any s gN uN V T.F w hR hF l hs k).mono ?_
  rintro e w' ⟨rfl, h⟩
  exact ⟨rfl, NfTo.of hD h⟩

/-- The system turns alone. -/
def RsP (w : World) (x g s q : Nat) (Dn Dp : Nat → Prop) (T : Ft) (w' : World) : Prop := ∃ Dm, Rs w' x g s q Dm Dp T ∧ (∀ b, Dm b → Dn b ∨ w.heap.size ≤ b) ∧ Upd Dn w w'
theorem RsP.same {w w' : World} {x g s q : Nat} {Dn Dp : Nat → Prop} {T : Ft} (H : Rs w x g s q Dn Dp T) (u : Below w.heap.size w w') : RsP w x g s q Dn Dp T w' := ⟨Dn, H.grow u, fun b hb => .inl hb, Upd.of_below u⟩
theorem RsP.of {w X w' : World} {x g s q : Nat} {Dn Dp : Nat → Prop} {T : Ft} {F' : Fs} (H : Rs X x g s q Dn Dp T) (hX : Below w.heap.size w X) (k : NfTo X s F' Dn w') (hd : F'.d = T.F.d) : RsP w x g s q Dn Dp { T with F := F' } w' :=
  ⟨_, H.sys k hd, fun b hb => hb.1.imp id (fun h => Nat.le_trans hX.size h), (Upd.of_below hX).trans k.2 (fun _ _ h => h)⟩
theorem RsP.grow {w w' w2 : World} {x g s q : Nat} {Dn Dp : Nat → Prop} {T : Ft} (h : RsP w x g s q Dn Dp T w') (u : Below w'.heap.size w' w2) : RsP w x g s q Dn Dp T w2 := by
  obtain ⟨Gm, h1, h2, h3⟩ := h
  exact ⟨Gm, h1.grow u, h2, h3.trans (Upd.of_below (F := Dn) u) (fun _ _ h => h)⟩
theorem RsP.to {w0 w w' : World} {x g s q : Nat} {Dn Dp D : Nat → Prop} {T : Ft} (h : RsP w x g s q Dn Dp T w') (hX : Below w0.heap.size w0 w) (hD : ∀ b, RFoot x g Dn Dp b → D b) : TdTo w0 x T D w' := by
  obtain ⟨Dm, h1, h2, h3⟩ := h
  exact TdTo.of h1 hD (fun b hb => (h2 b hb).imp id (fun h => Nat.le_trans hX.size h)) (fun b hb => .inl hb) ((Upd.of_below hX).trans h3 (fun b _ hb => .inr (.inr (.inl hb))))
theorem RsP.trans {w w3 w4 : World} {x g s q : Nat} {Dn Dm Dp : Nat → Prop} {T2 : Ft} (hm : ∀ b, Dm b → Dn b ∨ w.heap.size ≤ b) (hu : Upd Dn w w3) (k : RsP w3 x g s q Dm Dp T2 w4) : RsP w x g s q Dn Dp T2 w4 := by
  obtain ⟨Gk, h1, h2, h3⟩ := k
  refine ⟨Gk, h1, fun b hb => ?_, hu.trans h3 (fun b hb hG => ?_)⟩
  · rcases h2 b hb with h | h
    · exact hm b h
    · exact .inr (Nat.le_trans hu.size h)
  · rcases hm b hG with h | h
    · exact h
    · omega

set_option maxHeartbeats 2000000 in
theorem r8node (w : World) (x g s q : Nat) (Dn Dp : Nat → Prop) (T : Ft) (H : Rs w x g s q Dn Dp T) (hF : FOk T.F) (l : ByteArray) (hs : l.size ≤ 1048576) (f : Int) :
    Calls Tryz.prog 95 #[.pointer (some ⟨x, 0, none⟩), .string l, .int .i64 f] w fun e w' => e = .returned (.tuple #[.int .i64 ((Ft.node T.F (bl l) f).2.1 : Int), .int .i64 (Ft.node T.F (bl l) f).2.2]) ∧ RsP w x g s q Dn Dp { T with F := (Ft.node T.F (bl l) f).1 } w' := by
  have k1 := hid (H.find hF l hs)
  have cs := H.cs
  have HS := hid (fun X (hX : Below w.heap.size w X) => RsP.same H hX)
  have HC := hid (fun X (hX : Below w.heap.size w X) => (H.grow hX).cs)
  have k2 : Hid (∀ X, Below w.heap.size w X → Calls Tryz.prog 116 #[.pointer (some ⟨s, 0, none⟩), .string l, .int .i64 1] X fun e w' => e = .returned (.tuple #[.int .i64 ((T.F.make (bl l) 1).2.1 : Int), .int .i64 (T.F.make (bl l) 1).2.2]) ∧ Hid (RsP w x g s q Dn Dp { T with F := (T.F.make (bl l) 1).1 } w')) := by
    refine hid (fun X hX => ((H.grow hX).make hF l hs 1).mono ?_)
    rintro e w' ⟨rfl, hk⟩
    exact ⟨rfl, hid (RsP.of (H.grow hX) hX hk (SH.make hF _ _).1)⟩
  unfold Ft.node
  clear H hF
  generalize T.F.find (bl l) = r at k1 ⊢
  obtain ⟨n, E⟩ := r
  dsimp only at k1 ⊢
  cases h8 : dfc f 8
  · rw [if_pos rfl]
    obtain ⟨b1, b2⟩ := ddfc_f h8
    clear k2 h8
    by_cases e2 : E = 2
    · subst e2
      go_enter Tryz.func95, Tryz.ntmps95
      go_wp2_with fail
      refine k1.out.mono ?_
      rintro e w1 ⟨rfl, hb⟩
      have HQ := hid (HS.out w1 hb)
      clear k1 hb HS HC
      go_wp2_with fail
      go_ret2
      exact ⟨rfl, HQ.out⟩
    by_cases e0 : E = 0
    · subst e0
      go_enter Tryz.func95, Tryz.ntmps95
      go_wp2_with fail
      refine k1.out.mono ?_
      rintro e w1 ⟨rfl, hb⟩
      have HQ := hid (HS.out w1 hb)
      clear k1 hb HS HC
      go_wp2_with fail
      go_ret2
      exact ⟨rfl, HQ.out⟩
    go_enter Tryz.func95, Tryz.ntmps95
    go_wp2_with fail
    refine k1.out.mono ?_
    rintro e w1 ⟨rfl, hb⟩
    have HQ := hid (HS.out w1 hb)
    clear k1 hb HS HC
    go_wp2_with fail
    go_ret2
    exact ⟨rfl, HQ.out⟩
  rw [if_neg (by simp)]
  obtain ⟨b1, b2⟩ := ddfc_t h8
  clear h8
  by_cases h2 : E = 2
  · subst h2
    rw [if_pos rfl]
    generalize T.F.make (bl l) 1 = r at k2 ⊢
    obtain ⟨F', m, E⟩ := r
    dsimp only at k2 ⊢
    go_enter Tryz.func95, Tryz.ntmps95
    go_wp2_with fail
    refine k1.out.mono ?_
    rintro e w1 ⟨rfl, hb⟩
    have K2 := hid (k2.out w1 hb)
    have cs1 := HC.out w1 hb
    clear k1 k2 hb HS HC
    go_wp2_with fail
    refine K2.out.mono ?_
    rintro e w2 ⟨rfl, HQ⟩
    clear K2
    go_wp2_with fail
    go_ret2
    exact ⟨rfl, HQ.out⟩
  rw [if_neg h2]
  clear k2
  by_cases h3 : E = 0 ∧ dfc f 16 = true
  · rw [if_pos h3]
    obtain ⟨rfl, h16⟩ := h3
    obtain ⟨b3, b4⟩ := ddfc_t h16
    clear h16
    go_enter Tryz.func95, Tryz.ntmps95
    go_wp2_with fail
    refine k1.out.mono ?_
    rintro e w1 ⟨rfl, hb⟩
    have HQ := hid (HS.out w1 hb)
    clear k1 hb HS HC
    go_wp2_with fail
    go_ret2
    exact ⟨rfl, HQ.out⟩
  rw [if_neg h3]
  by_cases h0 : E = 0
  · subst h0
    have h16 : dfc f 16 = false := by simpa using h3
    obtain ⟨b3, b4⟩ := ddfc_f h16
    clear h16 h3
    go_enter Tryz.func95, Tryz.ntmps95
    go_wp2_with fail
    refine k1.out.mono ?_
    rintro e w1 ⟨rfl, hb⟩
    have HQ := hid (HS.out w1 hb)
    clear k1 hb HS HC
    go_wp2_with fail
    go_ret2
    exact ⟨rfl, HQ.out⟩
  · clear h3
    go_enter Tryz.func95, Tryz.ntmps95
    go_wp2_with fail
    refine k1.out.mono ?_
    rintro e w1 ⟨rfl, hb⟩
    have HQ := hid (HS.out w1 hb)
    clear k1 hb HS HC
    go_wp2_with fail
    go_ret2
    exact ⟨rfl, HQ.out⟩

end Go.Proofs.YtbglhmcahnkbfaaGreat
