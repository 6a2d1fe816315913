/- Texts of this seat, merged. -/
import Derived.Test.YtoknhcjneliboaaGreatFMg26
import Derived.Test.YtoknhcjneliboaaGreatFMg23
import Derived.Test.YtoknhcjneliboaaGreatFMg25
import Derived.Test.YtoknhcjneliboaaGreatFMg20
import Derived.Test.YtoknhcjneliboaaGreatFMg21

/- What Make does to any system, of any kind. -/
namespace Go.Proofs.YtoknhcjneliboaaGreat
open Go.RowKit Go.ChangeMaps Go.MapKept
set_option linter.unusedVariables false
set_option maxRecDepth 20000

set_option maxHeartbeats 1000000 in
theorem make_bad (p : Nat) (S : Sg) (t : ByteArray) (w : World) (H : Sy w p S) (kind : Int) (h1 : kind ≠ 1) (h2 : kind ≠ 2) :
    Calls Tryz.prog 94 #[.pointer (some ⟨p, 0, none⟩), .string t, .int .i64 kind] w fun e w' => e = .returned (.tuple #[.int .i64 0, .int .i64 22]) ∧ w' = w := by
  have k0 := hid H.usable
  have h3 : (kind == 1) = false := by simpa using h1
  have h4 : (kind == 2) = false := by simpa using h2
  have h5 : (kind != 1) = true := by simpa using h1
  have h6 : (kind != 2) = true := by simpa using h2
  clear H
  go_enter Tryz.func94, Tryz.ntmps94
  go_wp2_with fail
  refine k0.out.mono ?_
  rintro e w1 ⟨rfl, rfl⟩
  clear k0
  go_wp2_with fail
  go_ret2
  exact ⟨rfl, rfl⟩

set_option maxHeartbeats 1000000 in
theorem make_err (p : Nat) (S : Sg) (t : ByteArray) (w : World) (H : Sy w p S) (hT : Tree S) (hs : t.size ≤ 140737488355328) (kind : Int) (hk : kind = 1 ∨ kind = 2) (er : Int) (hr : toNew S.L (wkS S t) = .error er) :
    Calls Tryz.prog 94 #[.pointer (some ⟨p, 0, none⟩), .string t, .int .i64 kind] w fun e w' => e = .returned (.tuple #[.int .i64 0, .int .i64 er]) ∧ Below w.heap.size w w' := by
  have k0 := hid H.usable
  have k1 := hid (tonew_any p S t w H hT hs)
  rw [hr] at k1
  have her : ¬ er = 0 := toNew_err hr
  clear H hr
  rcases hk with rfl | rfl
  all_goals
    go_enter Tryz.func94, Tryz.ntmps94
    go_wp2_with fail
    refine k0.out.mono ?_
    rintro e w1 ⟨rfl, rfl⟩
    clear k0
    go_wp2_with fail
    refine k1.out.mono ?_
    rintro e w2 ⟨v, rfl, hb2, hv⟩
    have HB2 := hid hb2
    clear k1 hb2
    obtain rfl : v = _ := hv
    go_wp2_with fail
    go_ret2
    exact ⟨rfl, HB2.out.trans ((one_new w2 _).mono HB2.out.size)⟩

set_option maxHeartbeats 2000000 in
theorem make_full1 (p : Nat) (S : Sg) (t : ByteArray) (w : World) (H : Sy w p S) (hT : Tree S) (hs : t.size ≤ 140737488355328) (hf : Free S.P 0) (y : List Nat) (s : List UInt8) (n : Nat) (hr : toNew S.L (wkS S t) = .ok (y, s, n)) (kind : Int) (hk : kind = 1 ∨ kind = 2) :
    Calls Tryz.prog 94 #[.pointer (some ⟨p, 0, none⟩), .string t, .int .i64 kind] w fun e w' => e = .returned (.tuple #[.int .i64 0, .int .i64 28]) ∧ Below w.heap.size w w' := by
  have k0 := hid H.usable
  have k1 := hid (tonew_any p S t w H hT hs)
  rw [hr] at k1
  have HS := hid H
  have HF := hid hf
  obtain ⟨d, HD⟩ : ∃ d, Hid (y.getLast? = some d) := by obtain ⟨d, hd, _⟩ := wkS_ok H (toNew_ok hr).1; exact ⟨d, hid hd⟩
  clear H hf hr
  rcases hk with rfl | rfl
  all_goals
    go_enter Tryz.func94, Tryz.ntmps94
    go_wp2_with fail
    refine k0.out.mono ?_
    rintro e w1 ⟨rfl, rfl⟩
    clear k0
    go_wp2_with fail
    refine k1.out.mono ?_
    rintro e w2 ⟨v, rfl, hb2, hv⟩
    have HB2 := hid hb2
    clear k1 hb2
    obtain ⟨u, rfl, yv, nm, rfl, hnm, hown⟩ := hv
    obtain ⟨gy, cy, rfl, _⟩ := last_own hown HD.out
    obtain ⟨W3, g3⟩ : ∃ W3, W3 = w2.alloc (Obj.cells #[.slice (some ⟨gy, 0, none⟩) y.length cy, .string nm, .int .i64 (n : Int)] 184) := ⟨_, rfl⟩
    have hB3 : Below w1.heap.size w1 W3 := by rw [g3]; exact HB2.out.trans ((one_new w2 _).mono HB2.out.size)
    have k3 : Hid (Calls Tryz.prog 130 #[.pointer (some ⟨p, 0, none⟩)] W3 fun e w' => e = .returned (.int .i64 0) ∧ w' = W3) := by
      refine hid ((freen_any p S W3 (HS.out.grow hB3)).mono ?_)
      rintro e w' ⟨⟨n, rfl, h⟩, rfl⟩
      rw [h.uniq HF.out]
      exact ⟨rfl, rfl⟩
    have HB3 := hid hB3
    clear hB3 hown hnm
    go_wp2_with fail
    rw [← g3]
    clear g3
    refine k3.out.mono ?_
    rintro e w4 ⟨rfl, rfl⟩
    clear k3
    go_wp2_with fail
    go_ret2
    exact ⟨rfl, HB3.out⟩

theorem foot_new {S : Sg} {p f : Nat} {k : Int} {mo : Option Nat} (b : Nat) (h : (S.new f k mo).foot p b) : S.foot p b ∨ mo = some b := by
  rcases h with h | ⟨j, hj, h⟩
  · exact .inl (.inl h)
  · change (updN S.P f (newNd k mo) j).m = some b at h
    by_cases e : j = f
    · subst e; rw [updN_same] at h; exact .inr h
    · rw [updN_ne _ _ _ _ e] at h; exact .inl (.inr ⟨j, hj, h⟩)
theorem file_new (S : Sg) (f : Nat) : S.file f = S.new f 1 none := rfl

theorem pmake (p : Nat) (F : Fs) (G : Nat → Prop) (w : World) (H : Pf w p F G) (hF : FOk F) (t : ByteArray) (hs : t.size ≤ 140737488355328) (kind : Int) :
    Calls Tryz.prog 94 #[.pointer (some ⟨p, 0, none⟩), .string t, .int .i64 kind] w fun e w' => e = .returned (.tuple #[.int .i64 ((F.make (bl t) kind).2.1 : Int), .int .i64 (F.make (bl t) kind).2.2]) ∧ PfTo w p (F.make (bl t) kind).1 G w' := by
  have HP := H
  obtain ⟨S, HS, R, hG⟩ := H
  by_cases hb : kind ≠ 1 ∧ kind ≠ 2
  · have e : F.make (bl t) kind = (F, 0, 22) := by unfold Fs.make; rw [if_pos hb]
    rw [e]
    refine (make_bad p S t w HS kind hb.1 hb.2).mono ?_
    rintro e w' ⟨rfl, rfl⟩
    exact ⟨rfl, PfTo.same HP (Below.refl _ _)⟩
  have hk : kind = 1 ∨ kind = 2 := by omega
  have hT := R.tree hF
  have hN := toNew_fs (t := t) HS R hF
  have hfree := R.free
  cases hr : toNew S.L (wkS S t) with
  | error er =>
    have e : F.make (bl t) kind = (F, 0, er) := by
      rw [hN] at hr
      unfold Fs.make
      rw [if_neg hb]
      cases hw : F.walk (bl t) with
      | error a => rw [hw] at hr; simp only [toNew, Except.error.injEq] at hr; rw [hr]
      | ok q =>
        obtain ⟨y, s, n⟩ := q
        rw [hw] at hr
        simp only [toNew] at hr
        dsimp only
        by_cases h0 : n ≠ 0
        · rw [if_pos h0] at hr ⊢; simp only [Except.error.injEq] at hr; rw [hr]
        · rw [if_neg h0] at hr ⊢
          by_cases h6 : 6 ≤ (F.P (Fs.dirOf y)).Q.length
          · rw [if_pos h6]; rw [if_pos (show 6 ≤ (F.P (y.getLastD 0)).Q.length from h6)] at hr; simp only [Except.error.injEq] at hr; rw [hr]
          · rw [if_neg (show ¬ 6 ≤ (F.P (y.getLastD 0)).Q.length from h6)] at hr; simp at hr
    rw [e]
    refine (make_err p S t w HS hT hs kind hk er hr).mono ?_
    rintro e w' ⟨rfl, h⟩
    exact ⟨rfl, PfTo.same HP h⟩
  | ok q =>
    obtain ⟨y, s, n⟩ := q
    have hr2 := hr
    rw [hN] at hr2
    obtain ⟨hw, hn0, hL⟩ := toNew_ok hr2
    have W := hF.walk_ok hw
    have h6 : ¬ 6 ≤ (F.P (Fs.dirOf y)).Q.length := by have : (F.P (Fs.dirOf y)).Q.length < 6 := hL; omega
    by_cases hf0 : F.free = 0
    · have e : F.make (bl t) kind = (F, 0, 28) := by
        unfold Fs.make
        rw [if_neg hb, hw]
        dsimp only
        rw [if_neg (fun q => q hn0), if_neg h6, if_pos hf0]
      rw [e]
      rw [hf0] at hfree
      refine (make_full1 p S t w HS hT hs hfree y s n hr kind hk).mono ?_
      rintro e w' ⟨rfl, h⟩
      exact ⟨rfl, PfTo.same HP h⟩
    · have e : F.make (bl t) kind = ((F.at_ F.free (Fn.nu kind)).addn (Fs.dirOf y) s F.free, F.free, 0) := by
        unfold Fs.make
        rw [if_neg hb, hw]
        dsimp only
        rw [if_neg (fun q => q hn0), if_neg h6, if_neg hf0]
      rw [e]
      obtain ⟨f1, f2, f3⟩ := Fs.free_lt hf0
      have h0 := hF.none _ f3
      have hdf : Fs.dirOf y ≠ F.free := fun e => by have := W.k; rw [e] at this; omega
      have hFn := hF.new F.free kind f1 f2 f3 hk
      have hs0 : lk (((F.at_ F.free (Fn.nu kind))).P (Fs.dirOf y)).Q s = 0 := by rw [Fs.at_ne _ _ _ _ hdf, ← W.nn]; exact hn0
      rcases hk with rfl | rfl
      · refine (make_file p S t w HS hT hs F.free hfree hf0).mono ?_
        rintro e w' h
        rw [hr] at h
        obtain ⟨rfl, h1, u⟩ := h
        refine ⟨rfl, PfTo.of hG h1 ?_ (fun x hx => ?_) u⟩
        · exact (R.new F.free 1 none (by rw [h0]; rfl)).put hFn _ s F.free hs0
        · rcases foot_new (S := S) (p := p) (f := F.free) (k := 1) (mo := none) x hx with q | q
          · exact .inl q
          · simp at q
      · refine (make_dir p S t w HS hT hs F.free hfree hf0).mono ?_
        rintro e w' h
        rw [hr] at h
        obtain ⟨b, rfl, hbw, h1, u⟩ := h
        refine ⟨rfl, PfTo.of hG h1 ?_ (fun x hx => ?_) u⟩
        · exact (R.new F.free 2 (some b) (by rw [h0]; rfl)).put hFn _ s F.free hs0
        · rcases foot_new (S := S) (p := p) (f := F.free) (k := 2) (mo := some b) x hx with q | q
          · exact .inl q
          · injection q with q; subst q; exact .inr hbw

end Go.Proofs.YtoknhcjneliboaaGreat

/- The document's New with any defects. -/
namespace Go.Proofs.YtoknhcjneliboaaGreat
open Go.RowKit
set_option linter.unusedVariables false
set_option maxRecDepth 20000

def noU6 : List Value := (madeCells (Value.bool false).cells (25 * 1)).toList
theorem noU6_len : noU6.length = 25 := by simp [noU6, size_madeCells]
theorem noU6_at (b : Nat) (hb : b < 25) : noU6[b]? = some (.bool false) := by
  rcases (show b = 0 ∨ b = 1 ∨ b = 2 ∨ b = 3 ∨ b = 4 ∨ b = 5 ∨ b = 6 ∨ b = 7 ∨ b = 8 ∨ b = 9 ∨ b = 10 ∨ b = 11 ∨ b = 12 ∨ b = 13 ∨ b = 14 ∨ b = 15 ∨ b = 16 ∨ b = 17 ∨ b = 18 ∨ b = 19 ∨ b = 20 ∨ b = 21 ∨ b = 22 ∨ b = 23 ∨ b = 24 by omega) with rfl | rfl | rfl | rfl | rfl | rfl | rfl | rfl | rfl | rfl | rfl | rfl | rfl | rfl | rfl | rfl | rfl | rfl | rfl | rfl | rfl | rfl | rfl | rfl | rfl <;> kernel_rfl
theorem noR6_at (i : Nat) (hi : i < 17) : noR6[i * 6]? = some (.int .i64 0) ∧ noR6[i * 6 + 1]? = some (.int .i64 0) ∧ noR6[i * 6 + 2]? = some (.int .i64 0) ∧ noR6[i * 6 + 3]? = some (.slice none 0 0) ∧ noR6[i * 6 + 4]? = some (.slice none 0 0) ∧ noR6[i * 6 + 5]? = some (.slice none 0 0) := by
  rcases (show i = 0 ∨ i = 1 ∨ i = 2 ∨ i = 3 ∨ i = 4 ∨ i = 5 ∨ i = 6 ∨ i = 7 ∨ i = 8 ∨ i = 9 ∨ i = 10 ∨ i = 11 ∨ i = 12 ∨ i = 13 ∨ i = 14 ∨ i = 15 ∨ i = 16 by omega) with rfl | rfl | rfl | rfl | rfl | rfl | rfl | rfl | rfl | rfl | rfl | rfl | rfl | rfl | rfl | rfl | rfl <;> exact ⟨by kernel_rfl, by kernel_rfl, by kernel_rfl, by kernel_rfl, by kernel_rfl, by kernel_rfl⟩

/-- The root is laid. -/
theorem Rf.made {w : World} {x g u : Nat} {d : Int} (h1 : w.heap[x]? = some (.cells #[.slice (some ⟨g, 0, none⟩) 17 17, .slice (some ⟨u, 0, none⟩) 25 25, .int .i64 d] 114 (0, 0))) (h2 : w.heap[g]? = some (.cells noR6.toArray 117 (0, 0))) (h3 : w.heap[u]? = some (.cells noU6.toArray 4 (0, 0))) (hn : x ≠ g ∧ x ≠ u ∧ g ≠ u)
    {N : List Value} (hN : N = [.int .i64 2, .int .i64 1, .int .i64 0, .slice none 0 0, .slice none 0 0, .slice none 0 0]) : Rf (w.setCells g 6 N) x g u (noV (fun _ => .slice none 0 0) 1) (rootF d) := by
  have H : Rf w x g u (fun _ => .slice none 0 0) ⟨d, fun _ => Fn.no, fun _ => false⟩ :=
    ⟨h1, ⟨noR6, h2, noR6_len, fun i hi => noR6_at i hi⟩, ⟨noU6, h3, noU6_len, fun b hb => noU6_at b hb⟩, fun i hi => World.ownsRow_nil _ _ _ _, fun i hi => World.ownsRow_nil _ _ _ _, fun i hi => World.ownsRow_nil _ _ _ _,
      fun i j b _ _ h => by simp [Value.ownBlock] at h, fun i b _ h => by simp [Value.ownBlock] at h, hn⟩
  rw [hN]
  exact H.node 1 (by omega) (Fn.nu 2) rfl rfl rfl
theorem root_foot {x g u b : Nat} (h : RfFoot x g u (noV (fun _ => Value.slice none 0 0) 1) b) : b = x ∨ b = g ∨ b = u := by
  rcases h with h | h | h | ⟨i, _, h⟩
  · exact .inl h
  · exact .inr (.inl h)
  · exact .inr (.inr h)
  · exact absurd (noV_own h).2 (by simp [Value.ownBlock])

set_option maxHeartbeats 2000000 in
set_option maxRecDepth 20000 in
theorem rnew_any (w : World) (d : Int) :
    Calls Tryz.prog 14 #[.int .i64 d] w fun e w' => ∃ x g u V, e = .returned (.pointer (some ⟨x, 0, none⟩)) ∧ Rf w' x g u V (rootF d) ∧ Below w.heap.size w w' ∧ ∀ b, RfFoot x g u V b → w.heap.size ≤ b := by
  obtain ⟨C, gC⟩ : ∃ C, C = noR6 := ⟨_, rfl⟩
  have hm' : ∀ W : World, (Instr.makeSlice 111 (.int .i64 17) (.int .i64 17)).run Tryz.prog W = .ok (.slice (some ⟨W.heap.size, 0, none⟩) 17 17) (W.alloc (.cells C.toArray 117)) := by
    rw [gC]
    exact made_zs (P := Tryz.prog) 111 117 17 _ _ _ Tryz.underlying111 infoR6 (by omega) (by omega)
  obtain ⟨D, gD⟩ : ∃ D, D = noU6.toArray := ⟨_, rfl⟩
  have hk' : ∀ W : World, (Instr.makeSlice 112 (.int .i64 25) (.int .i64 25)).run Tryz.prog W = .ok (.slice (some ⟨W.heap.size, 0, none⟩) 25 25) (W.alloc (.cells D 4)) := by
    rw [gD, show noU6.toArray = madeCells (Value.bool false).cells (25 * 1) by simp [noU6]]
    exact made_zs (P := Tryz.prog) 112 4 25 _ _ _ Tryz.underlying112 infoR6b (by omega) (by omega)
  have HL : Hid (C.length = 102) := by rw [gC]; exact hid noR6_len
  obtain ⟨N, gN⟩ : ∃ N : List Value, N = [.int .i64 2, .int .i64 1, .int .i64 0, .slice none 0 0, .slice none 0 0, .slice none 0 0] := ⟨_, rfl⟩
  have H1 : Hid (N.toArray.all (·.oneCell') = true) := by rw [gN]; exact hid (by simp [Value.oneCell'])
  have HSZ : Hid ((Tryz.prog.info? 117).map (·.size) = some N.toArray.size) := by rw [gN]; exact hid csizeR6
  have HB : Hid (Tryz.prog.built 117 [(0, .int .i64 2), (1, .int .i64 1)] = some N.toArray) := by rw [gN]; exact hid builtR6
  have HT : Hid (6 = N.toArray.size) := by rw [gN]; exact hid rfl
  have HN := hid gN
  have HC := hid gC
  have HD := hid gD
  clear gN gD gC
  go_enter Tryz.func14, Tryz.ntmps14
  go_wp2_with fail
  go_region_held3 (fun _ => True) (trivial) (fail)
  all_goals go_wp2_with (first
    | (refine wpList_build_is rfl 117 #[(0, .const (.int .i64 2)), (1, .const (.int .i64 1))] rfl N.toArray (by simpa [Act.eval] using HB.out) ?_)
    | (refine wpList_store_mid rfl 117 (.tmp 14) (.tmp 13) rfl w.heap.size 6 N.toArray rfl rfl (by rw [← HT.out]; exact there_of_block (C := C) (t := 117) (by exact first_block w C 117 _ _) 6 6 (by rw [HL.out]; omega)) HSZ.out H1.out ?_)
    | (refine wpList_store_mid rfl 117 (.tmp 14) (.tmp 13) rfl (w.heap.size + 1) 6 N.toArray rfl rfl (by rw [← HT.out]; exact there_of_block (C := C) (t := 117) (by exact second_block w C 117 _ _) 6 6 (by rw [HL.out]; omega)) HSZ.out H1.out ?_))
  all_goals go_ret
  · obtain ⟨W, gW⟩ : ∃ W, W = (((w.alloc (.cells C.toArray 117)).alloc (.cells D 4)).alloc (.cells #[.slice (some ⟨w.heap.size, 0, none⟩) 17 17, .slice (some ⟨w.heap.size + 1, 0, none⟩) 25 25, .int .i64 d] 114)).drew := ⟨_, rfl⟩
    have hb : Below w.heap.size w W := by rw [gW]; exact (three_allocs w _ _ _).drew
    have hp : W.heap[w.heap.size + 2]? = some (.cells #[.slice (some ⟨w.heap.size, 0, none⟩) 17 17, .slice (some ⟨w.heap.size + 1, 0, none⟩) 25 25, .int .i64 d] 114 (0, 0)) := by
      rw [gW]
      have k := heap_alloc_new ((w.alloc (.cells C.toArray 117)).alloc (.cells D 4)) (.cells #[.slice (some ⟨w.heap.size, 0, none⟩) 17 17, .slice (some ⟨w.heap.size + 1, 0, none⟩) 25 25, .int .i64 d] 114)
      rw [show ((w.alloc (.cells C.toArray 117)).alloc (.cells D 4)).heap.size = w.heap.size + 2 by simp] at k
      exact k
    have hq : W.heap[w.heap.size]? = some (.cells noR6.toArray 117 (0, 0)) := by rw [gW, ← HC.out]; exact first_block w C 117 _ _
    have hu : W.heap[w.heap.size + 1]? = some (.cells noU6.toArray 4 (0, 0)) := by rw [gW, HD.out]; exact second_block w noU6 4 _ _
    rw [← gW]
    exact ⟨_, _, _, _, rfl, Rf.made hp hq hu ⟨by omega, by omega, by omega⟩ HN.out, hb.trans ((upd_setCells w.heap.size _ _ _).below hb.size (fun x hx => by omega)), fun b h => by rcases root_foot h with h | h | h <;> omega⟩
  · obtain ⟨W, gW⟩ : ∃ W, W = (((w.alloc (.cells D 4)).alloc (.cells C.toArray 117)).alloc (.cells #[.slice (some ⟨w.heap.size + 1, 0, none⟩) 17 17, .slice (some ⟨w.heap.size, 0, none⟩) 25 25, .int .i64 d] 114)).drew := ⟨_, rfl⟩
    have hb : Below w.heap.size w W := by rw [gW]; exact (three_allocs w _ _ _).drew
    have hp : W.heap[w.heap.size + 2]? = some (.cells #[.slice (some ⟨w.heap.size + 1, 0, none⟩) 17 17, .slice (some ⟨w.heap.size, 0, none⟩) 25 25, .int .i64 d] 114 (0, 0)) := by
      rw [gW]
      have k := heap_alloc_new ((w.alloc (.cells D 4)).alloc (.cells C.toArray 117)) (.cells #[.slice (some ⟨w.heap.size + 1, 0, none⟩) 17 17, .slice (some ⟨w.heap.size, 0, none⟩) 25 25, .int .i64 d] 114)
      rw [show ((w.alloc (.cells D 4)).alloc (.cells C.toArray 117)).heap.size = w.heap.size + 2 by simp] at k
      exact k
    have hq : W.heap[w.heap.size + 1]? = some (.cells noR6.toArray 117 (0, 0)) := by rw [gW, ← HC.out]; exact second_block w C 117 _ _
    have hu : W.heap[w.heap.size]? = some (.cells noU6.toArray 4 (0, 0)) := by rw [gW, HD.out]; exact first_block w noU6 4 _ _
    rw [← gW]
    exact ⟨_, _, _, _, rfl, Rf.made hp hq hu ⟨by omega, by omega, by omega⟩ HN.out, hb.trans ((upd_setCells (w.heap.size + 1) _ _ _).below hb.size (fun x hx => by omega)), fun b h => by rcases root_foot h with h | h | h <;> omega⟩

end Go.Proofs.YtoknhcjneliboaaGreat

/- What Rmdir does to any system. -/
namespace Go.Proofs.YtoknhcjneliboaaGreat
open Go.RowKit Go.ChangeMaps Go.MapKept
set_option linter.unusedVariables false
set_option maxRecDepth 20000

set_option maxHeartbeats 8000000 in
theorem prmdir_err (p : Nat) (F : Fs) (G : Nat → Prop) (w : World) (H : Pf w p F G) (hF : FOk F) (t : ByteArray) (hs : t.size ≤ 140737488355328) (er : Int) (he : toNode (F.walk (bl t)) = .error er) :
    Calls Tryz.prog 105 #[.pointer (some ⟨p, 0, none⟩), .string t] w fun e w' => e = .returned (.int .i64 er) ∧ PfTo w p F G w' := by
  have HP := H
  obtain ⟨S, HS, R, hG⟩ := H
  have k0 := hid HS.usable
  have k1 := hid (tonode_any p S t w HS (R.tree hF) hs)
  rw [toNode_fs HS R, he] at k1
  have her : ¬ er = 0 := by
    cases hw : F.walk (bl t) with
    | error a => rw [hw] at he; have := Fs.walk_err hw; simp [toNode] at he; omega
    | ok q =>
      obtain ⟨y, s, n⟩ := q
      rw [hw] at he
      simp only [toNode] at he
      split at he
      · simp at he; omega
      · simp at he
  have HPP := hid HP
  clear HS R hG HP he

  go_enter Tryz.func105, Tryz.ntmps105
  go_wp2_with fail
  refine k0.out.mono ?_
  rintro e w1 ⟨rfl, rfl⟩
  clear k0
  go_wp2_with fail
  refine k1.out.mono ?_
  rintro e w2 ⟨v, rfl, hb2, hv⟩
  have HB2 := hid hb2
  clear k1 hb2
  obtain rfl : v = _ := hv
  go_wp2_with fail
  go_ret
  exact ⟨rfl, PfTo.same HPP.out (HB2.out.trans ((one_new w2 _).mono HB2.out.size))⟩

set_option maxHeartbeats 1000000 in
theorem maygo_any (p : Nat) (S : Sg) (F : Fs) (w : World) (H : Sy w p S) (R : Rel S F) (hF : FOk F) (i : Nat) (hi : i < 17) :
    Calls Tryz.prog 135 #[.pointer (some ⟨p, 1 + i * 107, none⟩)] w fun e w' => e = .returned (.int .i64 (F.stays i)) ∧ w' = w := by
  have c2 := H.h i hi
  have c6 := H.m i hi
  have hL := (H.nms i hi).len
  rw [(R.P i hi).h] at c2
  rw [R.L i hi] at hL
  have h0 := (hF.h i).1
  have h6 := hF.len i
  unfold Fs.stays
  obtain ⟨L, gL⟩ : ∃ L, L = (F.P i).Q.length := ⟨_, rfl⟩
  obtain ⟨h, gh⟩ : ∃ h, h = (F.P i).h := ⟨_, rfl⟩
  obtain ⟨m, gm⟩ : ∃ m, m = (S.P i).m := ⟨_, rfl⟩
  rw [← gL] at hL h6 ⊢
  rw [← gh] at c2 h0 ⊢
  rw [← gm] at c6 hL
  clear H R hF gL gh gm
  by_cases q : 0 < L
  · rw [if_pos q]
    have q' : (0 : Int) < (L : Int) := by omega
    clear q
    go_enter Tryz.func135, Tryz.ntmps135
    go_wp2_with fail
    go_ret
    exact ⟨rfl, rfl⟩
  · rw [if_neg q]
    have q' : ¬ (0 : Int) < (L : Int) := by omega
    clear q
    by_cases q2 : 0 < h
    · rw [if_pos q2]
      go_enter Tryz.func135, Tryz.ntmps135
      go_wp2_with fail
      go_ret
      exact ⟨rfl, rfl⟩
    · rw [if_neg q2]
      go_enter Tryz.func135, Tryz.ntmps135
      go_wp2_with fail
      go_ret
      exact ⟨rfl, rfl⟩

set_option maxHeartbeats 8000000 in
theorem prmdir_file (p : Nat) (F : Fs) (G : Nat → Prop) (w : World) (H : Pf w p F G) (hF : FOk F) (t : ByteArray) (hs : t.size ≤ 140737488355328) (y : List Nat) (s : List UInt8) (i : Nat) (hw : F.walk (bl t) = .ok (y, s, i)) (hi0 : i ≠ 0) (hk : (F.P i).k ≠ 2) :
    Calls Tryz.prog 105 #[.pointer (some ⟨p, 0, none⟩), .string t] w fun e w' => e = .returned (.int .i64 20) ∧ PfTo w p F G w' := by
  have HPf := H
  obtain ⟨S, HS0, R, hG⟩ := H
  have W := hF.walk_ok hw
  obtain ⟨d, gd⟩ : ∃ d, d = Fs.dirOf y := ⟨_, rfl⟩
  obtain ⟨hd17, hdk, hnd⟩ := W.sg R
  obtain ⟨i1, hi17, hik⟩ := W.to hi0
  have hlast := W.last
  have hsl := W.len
  rw [← gd] at hd17 hdk hnd hlast
  have k0 := hid HS0.usable
  have k1 := hid (tonode_any p S t w HS0 (R.tree hF) hs)
  rw [toNode_fs HS0 R, hw, show toNode (.ok (y, s, i)) = .ok (y, s, i) from if_neg hi0] at k1
  have HS := hid HS0
  have HD := hid (And.intro hdk hnd)
  have HY := hid hlast
  have HR := hid R
  have HG := hid hG
  have HW := hid W
  have HF := hid hF
  have HPP := hid HPf
  have GD := hid gd
  have HWK := hid hw
  clear HS0 HPf R hG W hF hdk hnd hlast gd hw

  go_enter Tryz.func105, Tryz.ntmps105
  go_wp2_with fail
  refine k0.out.mono ?_
  rintro e w1 ⟨rfl, rfl⟩
  clear k0
  go_wp2_with fail
  refine k1.out.mono ?_
  rintro e w2 ⟨v, rfl, hb2, hv⟩
  have HB2 := hid hb2
  clear k1 hb2
  obtain ⟨u, rfl, yv, nm, rfl, hnm, hown⟩ := hv
  obtain ⟨gy, cy, rfl, hy0, hgy, hcy, hyc, hcm⟩ := last_own hown HY.out
  have HNM := hid hnm
  have hgb := (hown.lt gy rfl).1
  obtain ⟨W3, g3⟩ : ∃ W3, W3 = w2.alloc (Obj.cells #[.slice (some ⟨gy, 0, none⟩) y.length cy, .string nm, .int .i64 (i : Int)] 184) := ⟨_, rfl⟩
  have hP3 : W3.heap[w2.heap.size]? = some (.cells #[.slice (some ⟨gy, 0, none⟩) y.length cy, .string nm, .int .i64 (i : Int)] 184 (0, 0)) := by rw [g3]; exact heap_alloc_new w2 _
  have hB3 : Below w1.heap.size w1 W3 := by rw [g3]; exact HB2.out.trans ((one_new w2 _).mono HB2.out.size)
  have hZ3 : w2.heap.size < W3.heap.size ∧ gy < W3.heap.size := by rw [g3]; simp; omega
  have hC3 : W3.cell? ⟨gy, y.length - 1, none⟩ = some (.int .i64 (d : Int)) := by rw [g3]; exact ((one_new w2 _).cell (p := ⟨gy, y.length - 1, none⟩) hgy).trans hcy
  have hS3 : Sy W3 p S := HS.out.grow hB3
  obtain ⟨a0, a1, a2, _, _, _⟩ := plc_cells hP3
  have hi1 : (0 : Int) ≤ (i : Int) := by omega
  have hi2 : (i : Int) < 17 := by omega
  have HB3 := hid hB3
  have HZ3 := hid hZ3
  have HC3 := hid hC3
  have HS3 := hid hS3
  have HP3 := hid hP3
  clear hown hcy hnm hgy hS3 hP3 hB3 hZ3 hC3
  go_wp2_with fail
  rw [← g3]
  clear g3
  go_region
  have hS4 : Sy W3.drew p S := HS3.out.hp rfl
  have hpl := HS.out.lt
  have hb1s := HB2.out.size
  have hnmz : nm.size ≤ 6 := by have := bl_len nm; rw [HNM.out] at this; omega
  have k2 : Hid (Calls Tryz.prog 123 #[.pointer (some ⟨p, 1 + i * 107, none⟩)] W3.drew fun e w' => e = .returned (.bool (decide ((S.P i).k = 2))) ∧ w' = W3.drew) := hid (isdir_any p _ _ W3.drew (hS4.k i hi17))
  have k3 := hid (tkname_any p S W3.drew hS4 gy y.length cy d nm (i : Int) hy0 HC3.out HZ3.out.2 hyc hcm hd17 HD.out.1 (by rw [HNM.out, ← HD.out.2]; exact hi0) (by omega))
  have HP4 : Hid (W3.drew.heap[w2.heap.size]? = some (.cells #[.slice (some ⟨gy, 0, none⟩) y.length cy, .string nm, .int .i64 (i : Int)] 184 (0, 0))) := hid HP3.out
  have HZ4 : Hid (w2.heap.size < W3.drew.heap.size) := hid HZ3.out.1
  have HS4 := hid hS4
  obtain ⟨W4, g4⟩ : ∃ W4, W4 = W3.drew := ⟨_, rfl⟩
  have HU4 : Hid (Below w1.heap.size w1 W4) := by rw [g4]; exact hid HB3.out.drew
  rw [← g4] at k2 k3 HP4 HZ4 HS4 ⊢
  clear a0 a1 a2
  obtain ⟨a0, a1, a2, _, _, _⟩ := plc_cells HP4.out
  clear hS4 g4 HS3 HC3 HP3 HB3
  rw [show decide ((S.P i).k = 2) = false by simp [(HR.out.P i hi17).k, hk]] at k2
  clear k3
  go_wp2_with fail
  refine k2.out.mono ?_
  rintro e w4 ⟨rfl, rfl⟩
  clear k2
  go_wp2_with fail
  go_ret
  exact ⟨rfl, PfTo.same HPP.out HU4.out⟩

set_option maxHeartbeats 8000000 in
theorem prmdir_dir (p : Nat) (F : Fs) (G : Nat → Prop) (w : World) (H : Pf w p F G) (hF : FOk F) (t : ByteArray) (hs : t.size ≤ 140737488355328) (y : List Nat) (s : List UInt8) (i : Nat) (hw : F.walk (bl t) = .ok (y, s, i)) (hi0 : i ≠ 0) (hk : (F.P i).k = 2) :
    Calls Tryz.prog 105 #[.pointer (some ⟨p, 0, none⟩), .string t] w fun e w' => e = .returned (.int .i64 (F.stays i)) ∧ PfTo w p (if F.stays i = 0 then (F.deln (Fs.dirOf y) s).less i else F) G w' := by
  have HPf := H
  obtain ⟨S, HS0, R, hG⟩ := H
  have W := hF.walk_ok hw
  obtain ⟨d, gd⟩ : ∃ d, d = Fs.dirOf y := ⟨_, rfl⟩
  obtain ⟨hd17, hdk, hnd⟩ := W.sg R
  obtain ⟨i1, hi17, hik⟩ := W.to hi0
  have hlast := W.last
  have hsl := W.len
  rw [← gd] at hd17 hdk hnd hlast
  have k0 := hid HS0.usable
  have k1 := hid (tonode_any p S t w HS0 (R.tree hF) hs)
  rw [toNode_fs HS0 R, hw, show toNode (.ok (y, s, i)) = .ok (y, s, i) from if_neg hi0] at k1
  have HS := hid HS0
  have HD := hid (And.intro hdk hnd)
  have HY := hid hlast
  have HR := hid R
  have HG := hid hG
  have HW := hid W
  have HF := hid hF
  have HPP := hid HPf
  have GD := hid gd
  have HWK := hid hw
  clear HS0 HPf R hG W hF hdk hnd hlast gd hw
  obtain ⟨E, gE⟩ : ∃ E, E = F.stays i := ⟨_, rfl⟩
  rw [← gE]
  obtain ⟨X, gX⟩ : ∃ X, X = (if E = 0 then (F.deln (Fs.dirOf y) s).less i else F) := ⟨_, rfl⟩
  rw [← gX]
  have GE := hid gE
  have GX := hid gX
  clear gX gE

  go_enter Tryz.func105, Tryz.ntmps105
  go_wp2_with fail
  refine k0.out.mono ?_
  rintro e w1 ⟨rfl, rfl⟩
  clear k0
  go_wp2_with fail
  refine k1.out.mono ?_
  rintro e w2 ⟨v, rfl, hb2, hv⟩
  have HB2 := hid hb2
  clear k1 hb2
  obtain ⟨u, rfl, yv, nm, rfl, hnm, hown⟩ := hv
  obtain ⟨gy, cy, rfl, hy0, hgy, hcy, hyc, hcm⟩ := last_own hown HY.out
  have HNM := hid hnm
  have hgb := (hown.lt gy rfl).1
  obtain ⟨W3, g3⟩ : ∃ W3, W3 = w2.alloc (Obj.cells #[.slice (some ⟨gy, 0, none⟩) y.length cy, .string nm, .int .i64 (i : Int)] 184) := ⟨_, rfl⟩
  have hP3 : W3.heap[w2.heap.size]? = some (.cells #[.slice (some ⟨gy, 0, none⟩) y.length cy, .string nm, .int .i64 (i : Int)] 184 (0, 0)) := by rw [g3]; exact heap_alloc_new w2 _
  have hB3 : Below w1.heap.size w1 W3 := by rw [g3]; exact HB2.out.trans ((one_new w2 _).mono HB2.out.size)
  have hZ3 : w2.heap.size < W3.heap.size ∧ gy < W3.heap.size := by rw [g3]; simp; omega
  have hC3 : W3.cell? ⟨gy, y.length - 1, none⟩ = some (.int .i64 (d : Int)) := by rw [g3]; exact ((one_new w2 _).cell (p := ⟨gy, y.length - 1, none⟩) hgy).trans hcy
  have hS3 : Sy W3 p S := HS.out.grow hB3
  obtain ⟨a0, a1, a2, _, _, _⟩ := plc_cells hP3
  have hi1 : (0 : Int) ≤ (i : Int) := by omega
  have hi2 : (i : Int) < 17 := by omega
  have HB3 := hid hB3
  have HZ3 := hid hZ3
  have HC3 := hid hC3
  have HS3 := hid hS3
  have HP3 := hid hP3
  clear hown hcy hnm hgy hS3 hP3 hB3 hZ3 hC3
  go_wp2_with fail
  rw [← g3]
  clear g3
  go_region
  have hS4 : Sy W3.drew p S := HS3.out.hp rfl
  have hpl := HS.out.lt
  have hb1s := HB2.out.size
  have hnmz : nm.size ≤ 6 := by have := bl_len nm; rw [HNM.out] at this; omega
  have k2 : Hid (Calls Tryz.prog 123 #[.pointer (some ⟨p, 1 + i * 107, none⟩)] W3.drew fun e w' => e = .returned (.bool (decide ((S.P i).k = 2))) ∧ w' = W3.drew) := hid (isdir_any p _ _ W3.drew (hS4.k i hi17))
  have k3 := hid (tkname_any p S W3.drew hS4 gy y.length cy d nm (i : Int) hy0 HC3.out HZ3.out.2 hyc hcm hd17 HD.out.1 (by rw [HNM.out, ← HD.out.2]; exact hi0) (by omega))
  have HP4 : Hid (W3.drew.heap[w2.heap.size]? = some (.cells #[.slice (some ⟨gy, 0, none⟩) y.length cy, .string nm, .int .i64 (i : Int)] 184 (0, 0))) := hid HP3.out
  have HZ4 : Hid (w2.heap.size < W3.drew.heap.size) := hid HZ3.out.1
  have HS4 := hid hS4
  obtain ⟨W4, g4⟩ : ∃ W4, W4 = W3.drew := ⟨_, rfl⟩
  have HU4 : Hid (Below w1.heap.size w1 W4) := by rw [g4]; exact hid HB3.out.drew
  rw [← g4] at k2 k3 HP4 HZ4 HS4 ⊢
  clear a0 a1 a2
  obtain ⟨a0, a1, a2, _, _, _⟩ := plc_cells HP4.out
  clear hS4 g4 HS3 HC3 HP3 HB3
  rw [show decide ((S.P i).k = 2) = true by simp [(HR.out.P i hi17).k, hk]] at k2
  have km := hid (maygo_any p S F W4 HS4.out HR.out HF.out i hi17)
  rw [← GE.out] at km
  by_cases hE : E = 0
  · have GX3 : Hid (X = (F.deln (Fs.dirOf y) s).less i) := hid (GX.out.trans (if_pos hE))
    have hE0 : F.stays i = 0 := by rw [← GE.out]; exact hE
    subst hE
    have HE0 := hid hE0
    clear hE0
    go_wp2_with fail
    refine k2.out.mono ?_
    rintro e w4 ⟨rfl, rfl⟩
    clear k2
    go_wp2_with fail
    refine km.out.mono ?_
    rintro e w4 ⟨rfl, rfl⟩
    clear km
    go_wp2_with fail
    refine k3.out.mono ?_
    rintro e w5 ⟨rfl, h5, u5⟩
    have d1 := h5.l i hi17
    have hne : (S.P d).m ≠ some w2.heap.size := fun e => by
      have := HS.out.foot_lt w2.heap.size (.inr ⟨d, hd17, e⟩)
      omega
    have d2 : w5.cell? ⟨w2.heap.size, 2, none⟩ = some (.int .i64 (i : Int)) := (World.cell?_of_block (a := ⟨w2.heap.size, 2, none⟩) (u5.block w2.heap.size HZ4.out hne)).trans a2
    have hR5 : Rel (S.drop d (bl nm)) (F.deln (Fs.dirOf y) s) := by
      rw [HNM.out, GD.out]
      exact HR.out.drop HF.out _ _ (by rw [← HW.out.nn]; exact hi0)
    have e5 : (F.deln (Fs.dirOf y) s).P i = { F.P i with Q := ((F.deln (Fs.dirOf y) s).P i).Q } := by rw [Fs.deln_P]
    have HU5 : Hid (Upd (S.foot p) w1 w5) := hid ((Upd.of_below HU4.out).trans u5 (fun x _ hx => .inr ⟨d, hd17, hx⟩))
    have ff5 : ∀ x, (S.drop d (bl nm)).foot p x → S.foot p x := fun x hx => hx
    have hE0 := HE0.out
    have hst : (F.P i).Q = [] ∧ (F.P i).h = 0 := by
      unfold Fs.stays at hE0
      split at hE0
      · simp at hE0
      rename_i hq
      split at hE0
      · simp at hE0
      rename_i hh
      exact ⟨List.eq_nil_of_length_eq_zero (by omega), by have := (HF.out.h i).1; omega⟩
    have hl1 := (HF.out.dir i hk).2.2
    have k5 := hid (ptklink p (S.drop d (bl nm)) (F.deln (Fs.dirOf y) s) w5 h5 hR5 i hi17 hi0 (by omega) (by rw [e5]; dsimp only; omega) (by rw [e5]; exact (HF.out.stl i).c) (by rw [e5]; exact (HF.out.stl i).B) (by rw [e5]; exact (HF.out.stl i).T) (fun _ => by
      rw [deln_Q]
      split
      · rename_i e; rw [← e, hst.1]; rfl
      · exact hst.1))
    clear k3 h5 u5 hne a0 a1 a2 hR5 e5 hst hl1 hE0
    go_wp2_with fail
    refine k5.out.mono ?_
    rintro e w7 ⟨rfl, h7⟩
    have H7 := hid h7
    clear k5 h7
    go_wp2_with fail
    go_ret
    rw [GX3.out]
    exact ⟨rfl, Into.to (Into.trans ff5 HU5.out H7.out) HG.out⟩
  · have GX3 : Hid (X = F) := hid (GX.out.trans (if_neg hE))
    clear k3
    go_wp2_with fail
    refine k2.out.mono ?_
    rintro e w4 ⟨rfl, rfl⟩
    clear k2
    go_wp2_with fail
    refine km.out.mono ?_
    rintro e w4 ⟨rfl, rfl⟩
    clear km
    go_wp2_with fail
    go_ret
    rw [GX3.out]
    exact ⟨rfl, PfTo.same HPP.out HU4.out⟩

theorem prmdir (p : Nat) (F : Fs) (G : Nat → Prop) (w : World) (H : Pf w p F G) (hF : FOk F) (t : ByteArray) (hs : t.size ≤ 140737488355328) :
    Calls Tryz.prog 105 #[.pointer (some ⟨p, 0, none⟩), .string t] w fun e w' => e = .returned (.int .i64 (F.rmdir (bl t)).2) ∧ PfTo w p (F.rmdir (bl t)).1 G w' := by
  cases hw : F.walk (bl t) with
  | error er =>
    have e : F.rmdir (bl t) = (F, er) := by unfold Fs.rmdir; rw [hw]
    rw [e]
    exact prmdir_err p F G w H hF t hs er (by rw [hw]; rfl)
  | ok q =>
    obtain ⟨y, s, i⟩ := q
    by_cases h0 : i = 0
    · have e : F.rmdir (bl t) = (F, 2) := by unfold Fs.rmdir; rw [hw]; exact if_pos h0
      rw [e]
      exact prmdir_err p F G w H hF t hs 2 (by rw [hw]; exact if_pos h0)
    by_cases hk : (F.P i).k = 2
    · have e : F.rmdir (bl t) = (if F.stays i = 0 then (F.deln (Fs.dirOf y) s).less i else F, F.stays i) := by
        unfold Fs.rmdir; rw [hw]; dsimp only; rw [if_neg h0, if_neg (fun q => q hk)]
        by_cases hs : F.stays i = 0
        · rw [if_neg (fun q => q hs), if_pos hs, hs]
        · rw [if_pos hs, if_neg hs]
      rw [e]
      exact prmdir_dir p F G w H hF t hs y s i hw h0 hk
    · have e : F.rmdir (bl t) = (F, 20) := by unfold Fs.rmdir; rw [hw]; dsimp only; rw [if_neg h0, if_pos hk]
      rw [e]
      exact prmdir_file p F G w H hF t hs y s i hw h0 hk

end Go.Proofs.YtoknhcjneliboaaGreat

/- What mayReplace and mayRename tell. -/
namespace Go.Proofs.YtoknhcjneliboaaGreat
open Go.RowKit Go.ChangeMaps Go.MapKept
set_option linter.unusedVariables false
set_option maxRecDepth 20000

set_option maxHeartbeats 2000000 in
theorem mayrep_any (p : Nat) (S : Sg) (F : Fs) (w : World) (H : Sy w p S) (R : Rel S F) (hF : FOk F) (n m : Nat) (hn : n < 17) (hm : m < 17) :
    Calls Tryz.prog 152 #[.pointer (some ⟨p, 1 + n * 107, none⟩), .pointer (some ⟨p, 1 + m * 107, none⟩)] w fun e w' => e = .returned (.int .i64 (F.over n m)) ∧ w' = w := by
  have cn := H.k n hn
  have cm := H.k m hm
  rw [(R.P n hn).k] at cn
  rw [(R.P m hm).k] at cm
  have kn := hid (isdir_any p (1 + n * 107) _ w cn)
  have km := hid (isdir_any p (1 + m * 107) _ w cm)
  have ks := hid (maygo_any p S F w H R hF m hm)
  unfold Fs.over
  obtain ⟨E, gE⟩ : ∃ E, E = F.stays m := ⟨_, rfl⟩
  rw [← gE] at ks ⊢
  clear H R hF cn cm gE
  by_cases q1 : (F.P m).k = 2 <;> by_cases q2 : (F.P n).k = 2
  · rw [if_pos q1, if_pos q2]
    rw [show decide ((F.P m).k = 2) = true by simp [q1]] at km
    rw [show decide ((F.P n).k = 2) = true by simp [q2]] at kn
    clear q1 q2
    go_enter Tryz.func152, Tryz.ntmps152
    go_wp2_with (first | (go_at_call 123; first | (refine km.out.mono ?_; rintro e w' ⟨rfl, rfl⟩) | (refine kn.out.mono ?_; rintro e w' ⟨rfl, rfl⟩)) | (go_at_call 135; refine ks.out.mono ?_; rintro e w' ⟨rfl, rfl⟩))
    go_ret
    exact ⟨rfl, rfl⟩
  · rw [if_pos q1, if_neg q2]
    rw [show decide ((F.P m).k = 2) = true by simp [q1]] at km
    rw [show decide ((F.P n).k = 2) = false by simp [q2]] at kn
    clear q1 q2
    go_enter Tryz.func152, Tryz.ntmps152
    go_wp2_with (first | (go_at_call 123; first | (refine km.out.mono ?_; rintro e w' ⟨rfl, rfl⟩) | (refine kn.out.mono ?_; rintro e w' ⟨rfl, rfl⟩)) | (go_at_call 135; refine ks.out.mono ?_; rintro e w' ⟨rfl, rfl⟩))
    go_ret
    exact ⟨rfl, rfl⟩
  · rw [if_neg q1, if_pos q2]
    rw [show decide ((F.P m).k = 2) = false by simp [q1]] at km
    rw [show decide ((F.P n).k = 2) = true by simp [q2]] at kn
    clear q1 q2
    go_enter Tryz.func152, Tryz.ntmps152
    go_wp2_with (first | (go_at_call 123; first | (refine km.out.mono ?_; rintro e w' ⟨rfl, rfl⟩) | (refine kn.out.mono ?_; rintro e w' ⟨rfl, rfl⟩)) | (go_at_call 135; refine ks.out.mono ?_; rintro e w' ⟨rfl, rfl⟩))
    go_ret
    exact ⟨rfl, rfl⟩
  · rw [if_neg q1, if_neg q2]
    rw [show decide ((F.P m).k = 2) = false by simp [q1]] at km
    rw [show decide ((F.P n).k = 2) = false by simp [q2]] at kn
    clear q1 q2
    go_enter Tryz.func152, Tryz.ntmps152
    go_wp2_with (first | (go_at_call 123; first | (refine km.out.mono ?_; rintro e w' ⟨rfl, rfl⟩) | (refine kn.out.mono ?_; rintro e w' ⟨rfl, rfl⟩)) | (go_at_call 135; refine ks.out.mono ?_; rintro e w' ⟨rfl, rfl⟩))
    go_ret
    exact ⟨rfl, rfl⟩

/-- A place as it is handed on: a way that lies in its own block, a name, a node. -/
def plcV (g n c : Nat) (nm : ByteArray) (i : Nat) : Value := .agg #[.slice (some ⟨g, 0, none⟩) n c, .string nm, .int .i64 (i : Int)]
structure Wy (w : World) (g n c : Nat) (y : List Nat) : Prop where
  at_ : ∀ j, j < n → w.cell? ⟨g, j, none⟩ = some (.int .i64 ((y.getD j 0 : Nat) : Int))
  len : y.length = n
  pos : 0 < n
  lt : g < w.heap.size
  cap : n ≤ c
  max : c ≤ 9223372036854775807
theorem Wy.grow {w w' : World} {g n c : Nat} {y : List Nat} (h : Wy w g n c y) (u : Below w.heap.size w w') : Wy w' g n c y :=
  ⟨fun j hj => (u.cell (p := ⟨g, j, none⟩) h.lt).trans (h.at_ j hj), h.len, h.pos, Nat.lt_of_lt_of_le h.lt u.size, h.cap, h.max⟩
theorem Wy.last {w : World} {g n c : Nat} {y : List Nat} (h : Wy w g n c y) : w.cell? ⟨g, n - 1, none⟩ = some (.int .i64 ((Fs.dirOf y : Nat) : Int)) := by
  rw [h.at_ (n - 1) (by have := h.pos; omega)]
  unfold Fs.dirOf
  have hl := h.len
  have hp := h.pos
  rw [List.getLastD_eq_getLast?, List.getLast?_eq_getElem?, hl, List.getD_eq_getElem?_getD]
theorem Wy.dir {w : World} {g n c : Nat} {y : List Nat} (h : Wy w g n c y) (nm : ByteArray) (i : Nat) :
    Calls Tryz.prog 146 #[plcV g n c nm i] w fun e w' => e = .returned (.int .i64 ((Fs.dirOf y : Nat) : Int)) ∧ Below w.heap.size w w' :=
  dir_any w g n c (Fs.dirOf y) nm (i : Int) h.pos h.last h.lt h.cap h.max

/-- What keeps a rename away. -/
def Fs.mayR (F : Fs) (y : List Nat) (i : Nat) (y2 : List Nat) (m : Nat) : Int :=
  if m ≠ 0 ∧ F.over i m ≠ 0 then F.over i m else if i ∈ y2 then 22 else if m = 0 ∧ Fs.dirOf y2 ≠ Fs.dirOf y ∧ 6 ≤ (F.P (Fs.dirOf y2)).Q.length then 28 else 0

theorem two_boxes {w : World} (a b : Obj) : Below w.heap.size w ((w.alloc a).alloc b) := ((Below.refl _ _).alloc (Nat.le_refl _) _).alloc (by simp) _

end Go.Proofs.YtoknhcjneliboaaGreat

/- What the program's New of nodes does, with any defects. (Written by gen_np22.py.) -/
namespace Go.Proofs.YtoknhcjneliboaaGreat
open Go.RowKit Go.ChangeMaps Go.MapKept
set_option linter.unusedVariables false
set_option maxRecDepth 20000

def sysZd (d : Int) : List Value := .int .i64 d :: ((List.replicate 17 (nodeC 0 0 (.map none))).flatten ++ List.replicate 25 (.bool false))
theorem sysZd_len (d : Int) : (sysZd d).length = 1845 := by
  simp [sysZd, nodeC_len]
theorem builtSysd (d : Int) : Tryz.prog.built 103 [(0, .int .i64 d)] = some (sysZd d).toArray := by kernel_rfl
theorem sysZd_up (d : Int) (j : Nat) : (sysZd d)[j + 1]? = sysZ[j + 1]? := by
  unfold sysZd sysZ
  rw [List.getElem?_cons_succ, List.getElem?_cons_succ]
def sysCd (d : Int) (m : Nat) : List Value := splice (sysZd d) 108 (nodeC 2 1 (.map (some m)))

set_option maxHeartbeats 2000000 in
set_option maxRecDepth 20000 in
theorem nnewd (w : World) (d : Int) :
    Calls Tryz.prog 12 #[.int .i64 d] w fun e w' => e = .returned (.pointer (some ⟨w.heap.size, 0, none⟩)) ∧ w'.heap[w.heap.size]? = some (.cells (sysCd d (w.heap.size + 3)).toArray 103 (0, 0)) ∧ w'.heap[w.heap.size + 3]? = some (.map #[] 0) ∧ Below w.heap.size w w' ∧ w'.heap.size = w.heap.size + 4 := by
  obtain ⟨Z, gZ⟩ : ∃ Z, Z = sysZd d := ⟨_, rfl⟩
  obtain ⟨N1, gN1⟩ : ∃ N1, N1 = nodeC 2 1 (.map (some (w.heap.size + 3))) := ⟨_, rfl⟩
  have HB : Hid (Tryz.prog.built 103 [(0, .int .i64 d)] = some Z.toArray) := by rw [gZ]; exact builtSysd d
  have lZ : Hid (Z.length = 1845) := by rw [gZ]; exact sysZd_len d
  have l1 : Hid (N1.length = 107) := by rw [gN1]; exact nodeC_len _ _ _
  have o1 : Hid (N1.toArray.all (·.oneCell') = true) := by rw [gN1]; exact nodeC_one _ _ _
  have S1 : Hid ((Tryz.prog.info? 99).map (·.size) = some N1.toArray.size) := by rw [csizeNode, List.size_toArray, l1.out]; exact hid rfl
  have hb1 : Below w.heap.size w (w.alloc (.cells Z.toArray 103)) := (Below.refl _ _).alloc (Nat.le_refl _) _
  have hs1 : (w.alloc (.cells Z.toArray 103)).heap.size = w.heap.size + 1 := by simp
  have hh1 : (w.alloc (.cells Z.toArray 103)).heap[w.heap.size]? = some (.cells Z.toArray 103 (0, 0)) := heap_alloc_new w _
  have k1 := newnode (w.alloc (.cells Z.toArray 103)).drew
  have kn : Hid (Calls Tryz.prog 51 #[.int .i64 2] (w.alloc (.cells Z.toArray 103)).drew fun e w' => e = .returned (.agg N1.toArray) ∧ Hid (w'.heap[w.heap.size]? = some (.cells Z.toArray 103 (0, 0))) ∧ Hid (Below w.heap.size w w') ∧ Hid (w'.heap.size = w.heap.size + 4) ∧ Hid (w'.heap[w.heap.size + 3]? = some (.map #[] 0))) := by
    refine hid (k1.mono ?_)
    rintro e w' ⟨rfl, h2, h3, h4⟩
    have hs2 : (w.alloc (.cells Z.toArray 103)).drew.heap.size = w.heap.size + 1 := by simp
    rw [hs2] at h2 h3 h4
    refine ⟨by rw [gN1, hs2], hid ((h2.block _ (by omega)).trans hh1), hid ?_, hid h3, hid h4⟩
    exact (hb1.drew).trans (h2.mono (by omega))
  have GZ := hid gZ
  have GN := hid gN1
  clear gZ gN1 k1 hb1 hh1
  go_enter Tryz.func12, Tryz.ntmps12
  go_wp2_with (refine wpList_build_is rfl 103 #[(0, .tmp 4)] rfl Z.toArray (by simpa [Act.eval] using HB.out) ?_)
  go_region_held3 (fun _ => True) (trivial) ((go_at_call 51; refine kn.out.mono ?_; rintro e w2 ⟨rfl, h2, h3, h4, h5⟩; have hst := run_cells_mid (P := Tryz.prog) w2 w.heap.size 108 N1 (there_of_block h2.out 108 _ (by rw [lZ.out, l1.out]; omega)) o1.out))
  go_wp2_with fail
  go_ret
  have u5 := upd_setCells w.heap.size N1 108 w2
  have h6 := heap_setCells w.heap.size 103 N1 108 w2 Z h2.out (by rw [lZ.out, l1.out]; omega)
  refine ⟨rfl, ?_, (u5.block _ (by have := h4.out; omega) (by omega)).trans h5.out, h3.out.trans (u5.below (by have := h4.out; omega) (fun x hx => by omega)), by rw [size_setCells]; exact h4.out⟩
  rw [sysCd, ← GZ.out, ← GN.out]
  exact h6


theorem Sy.freshd {w : World} {p m : Nat} {d : Int} (hb : w.heap[p]? = some (.cells (sysCd d m).toArray 103 (0, 0))) (hm : w.heap[m]? = some (.map #[] 0)) : Sy w p { rootG m with d := d } := by
  have hne : m ≠ p := by
    intro e; subst e; rw [hb] at hm; simp at hm
  have lz : 108 + (nodeC 2 1 (.map (some m))).length ≤ (sysZd d).length := by rw [sysZd_len, nodeC_len]; omega
  refine ⟨⟨_, hb, ⟨by unfold sysCd; rw [length_splice _ _ _ lz, sysZd_len], ?_, ?_, ?_, ?_⟩⟩, ?_, ?_, ?_, ?_, ?_, ?_, rfl, rfl⟩
  · unfold sysCd; rw [getElem?_splice_out _ _ _ _ lz (by omega)]; rfl
  · intro i hi j hj
    unfold sysCd
    by_cases e : i = 1
    · subst e
      rw [show 1 + 1 * 107 + j = 108 + j by omega, getElem?_splice_in _ _ _ _ lz (by rw [nodeC_len]; exact hj)]
      simp [rootG, ndC_new]
    · rw [getElem?_splice_out _ _ _ _ lz (by rw [nodeC_len]; omega), show 1 + i * 107 + j = (i * 107 + j) + 1 by omega, sysZd_up, show (i * 107 + j) + 1 = 1 + i * 107 + j by omega, sysZ_nd i hi j hj]
      simp [rootG, e, ndC_no]
  · intro b hb
    unfold sysCd
    rw [getElem?_splice_out _ _ _ _ lz (by rw [nodeC_len]; omega), show 1820 + b = (1819 + b) + 1 by omega, sysZd_up, show (1819 + b) + 1 = 1820 + b by omega, sysZ_mk b hb]
    rfl
  · intro i hi
    by_cases e : i = 1
    · simp [rootG, e, newNd_ok]
    · simp [rootG, e, noNd_ok]
  · intro i hi
    by_cases e : i = 1
    · subst e; exact nms_empty hm
    · simp only [rootG, if_neg e]; exact ⟨rfl, fun _ => rfl⟩
  · intro i s hi; simp [rootG]
  · intro i hi; simp [rootG]
  · intro i j b hi hj h1 h2
    by_cases e : i = 1 <;> by_cases e' : j = 1
    · omega
    · simp [rootG, e', noNd] at h2
    · simp [rootG, e, noNd] at h1
    · simp [rootG, e, noNd] at h1
  · intro i hi
    by_cases e : i = 1
    · simp [rootG, e, newNd]; exact hne
    · simp [rootG, e, noNd]
  · intro i hi h
    by_cases e : i = 1
    · simp [rootG, e, newNd]
    · simp [rootG, e, noNd] at h
theorem npnew_any (w : World) (d : Int) : Calls Tryz.prog 12 #[.int .i64 d] w fun e w' => ∃ p, e = .returned (.pointer (some ⟨p, 0, none⟩)) ∧ Pf w' p (rootF d) (fun x => w.heap.size ≤ x) ∧ Below w.heap.size w w' := by
  refine (nnewd w d).mono ?_
  rintro e w' ⟨rfl, h1, h2, h3, h4⟩
  refine ⟨_, rfl, ⟨_, Sy.freshd h1 h2, Rel.root _ d, fun x hx => ?_⟩, h3⟩
  rcases hx with rfl | ⟨i, hi, e⟩
  · exact Nat.le_refl _
  · have e' : (if i = 1 then newNd 2 (some (w.heap.size + 3)) else noNd).m = some x := e
    split at e'
    · simp only [newNd, Option.some.injEq] at e'
      omega
    · simp [noNd] at e'

end Go.Proofs.YtoknhcjneliboaaGreat
