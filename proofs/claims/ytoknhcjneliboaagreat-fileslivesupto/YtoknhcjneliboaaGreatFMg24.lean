/- Texts of this seat, merged. -/
import Derived.Test.YtoknhcjneliboaaGreatFMg10
import Derived.BigQuiet
import Derived.Test.YtoknhcjneliboaaGreatFMg4
import Derived.Test.YtoknhcjneliboaaGreatFMg18
import Derived.Test.YtoknhcjneliboaaGreatFMg17
import Derived.Test.YtoknhcjneliboaaGreatFMg16
import Derived.Test.YtoknhcjneliboaaGreatFMg3
import Derived.Test.YtoknhcjneliboaaGreatFMg22

/- The program's open files as they lie, over its file system and its pipes. -/
namespace Go.Proofs.YtoknhcjneliboaaGreat
open Go.RowKit Go.ChangeMaps Go.MapKept
set_option linter.unusedVariables false
set_option maxRecDepth 20000

/-- What is left of an open file that nobody holds. -/
def clF (x : Fl) : Fl := if x.h = 0 then noFl else x
theorem clF_h (x : Fl) : (clF x).h = x.h := by
  unfold clF; split
  · rename_i e; rw [e]; rfl
  · rfl
theorem clF_yes {x : Fl} (h : (clF x).h ≠ 0) : clF x = x := by
  rw [clF_h] at h
  unfold clF; rw [if_neg h]
theorem clF_of {x : Fl} (h : x.h ≠ 0) : clF x = x := by unfold clF; rw [if_neg h]

/-- Table t over system p and pipes q; what stands in its cells; the system's blocks. -/
structure Ts (w : World) (t p q : Nat) (O0 : Nat → Fl) (Gn : Nat → Prop) (T : Ft) : Prop where
  tf : Tf w t p q O0
  o : ∀ i, i < 11 → T.O i = clF (O0 i)
  pf : Pf w p T.F Gn
  tc : Pi.Tc w q T.kp T.P
  tq : t ≠ q
  gt : ¬ Gn t
  gq : ¬ Gn q
section
variable {w w' : World} {t p q : Nat} {O0 : Nat → Fl} {Gn : Nat → Prop} {T : Ft}
def Foot (t q : Nat) (Gn : Nat → Prop) (b : Nat) : Prop := b = t ∨ b = q ∨ Gn b
theorem Ts.upd {U : Nat → Prop} (h : Ts w t p q O0 Gn T) (u : Upd U w w') (hU : ∀ b, b < w.heap.size → Foot t q Gn b → ¬ U b) : Ts w' t p q O0 Gn T :=
  ⟨h.tf.upd u (hU t h.tf.lt (.inl rfl)), h.o, h.pf.upd u (fun b hb hG => hU b hb (.inr (.inr hG))), h.tc.upd u (hU q h.tc.lt (.inr (.inl rfl))), h.tq, h.gt, h.gq⟩
theorem Ts.grow (h : Ts w t p q O0 Gn T) (u : Below w.heap.size w w') : Ts w' t p q O0 Gn T := h.upd (Upd.of_below (F := fun _ => False) u) (fun _ _ _ h => h)
theorem Ts.hp (h : Ts w t p q O0 Gn T) (e : w'.heap = w.heap) : Ts w' t p q O0 Gn T := by
  obtain ⟨C, hb, hc⟩ := h.tf
  exact ⟨⟨C, by rw [e]; exact hb, hc⟩, h.o, h.pf.hp e, h.tc.hp e, h.tq, h.gt, h.gq⟩
theorem Ts.h0 (h : Ts w t p q O0 Gn T) (i : Nat) (hi : i < 11) : (O0 i).h = (T.O i).h := by rw [h.o i hi, clF_h]
theorem Ts.at (h : Ts w t p q O0 Gn T) (i : Nat) (hi : i < 11) (hh : (T.O i).h ≠ 0) : O0 i = T.O i := by
  rw [h.o i hi] at hh ⊢
  rw [clF_yes hh]
/-- The system turns. -/
theorem Ts.sys {F' : Fs} (h : Ts w t p q O0 Gn T) (k : PfTo w p F' Gn w') (hd : F'.d = T.F.d) : Ts w' t p q O0 (fun x => Gn x ∨ w.heap.size ≤ x) { T with F := F' } := by
  obtain ⟨k1, k2⟩ := k
  have l1 := h.tf.lt
  have l2 := h.tc.lt
  have e : Ft.kp { T with F := F' } = T.kp := by unfold Ft.kp; rw [hd]
  exact ⟨h.tf.upd k2 h.gt, h.o, k1, by rw [e]; exact h.tc.upd k2 h.gq, h.tq, fun e => by rcases e with e | e; exact h.gt e; omega, fun e => by rcases e with e | e; exact h.gq e; omega⟩
/-- The pipes turn. -/
theorem Ts.pip {P' : Nat → Pi.Pp} (h : Ts w t p q O0 Gn T) (k : Pi.Tc w' q T.kp P') (u : Upd (· = q) w w') : Ts w' t p q O0 Gn { T with P := P' } :=
  ⟨h.tf.upd u h.tq, h.o, h.pf.upd u (fun b _ hG e => h.gq (e ▸ hG)), k, h.tq, h.gt, h.gq⟩
/-- An open file turns. -/
theorem Ts.fil {x y : Fl} {i : Nat} (h : Ts w t p q O0 Gn T) (k : Tf w' t p q (updF O0 i y)) (hx : x = clF y) (u : Upd (· = t) w w') : Ts w' t p q (updF O0 i y) Gn { T with O := updF T.O i x } :=
  ⟨k, fun j hj => by
    show updF T.O i x j = _
    unfold updF
    split
    · exact hx
    · exact h.o j hj, h.pf.upd u (fun b _ hG e => h.gt (e ▸ hG)), h.tc.upd u (fun e => h.tq e.symm), h.tq, h.gt, h.gq⟩
end

theorem PfTo.ahead {w0 w w' : World} {p : Nat} {F : Fs} {G : Nat → Prop} (h : PfTo w p F G w') (u : Below w0.heap.size w0 w) : PfTo w0 p F G w' :=
  ⟨h.1.mono (fun x _ hx => by rcases hx with hx | hx; exact .inl hx; exact .inr (Nat.le_trans u.size hx)), (Upd.of_below u).trans h.2 (fun _ _ h => h)⟩

/-- The program's open files, in blocks G. -/
def Tp (w : World) (t : Nat) (T : Ft) (G : Nat → Prop) : Prop := ∃ p q O0 Gn, Ts w t p q O0 Gn T ∧ ∀ b, Foot t q Gn b → G b
theorem Tp.mono {w : World} {t : Nat} {T : Ft} {G G' : Nat → Prop} (h : Tp w t T G) (k : ∀ x, x < w.heap.size → G x → G' x) : Tp w t T G' := by
  obtain ⟨p, q, O0, Gn, h1, h2⟩ := h
  have l1 := h1.tf.lt
  have l2 := h1.tc.lt
  refine ⟨p, q, O0, fun b => Gn b ∧ b < w.heap.size, ⟨h1.tf, h1.o, h1.pf.mono (fun x hx hG => ⟨hG, hx⟩), h1.tc, h1.tq, fun e => h1.gt e.1, fun e => h1.gq e.1⟩, fun b hb => ?_⟩
  rcases hb with rfl | rfl | hb
  · exact k _ l1 (h2 _ (.inl rfl))
  · exact k _ l2 (h2 _ (.inr (.inl rfl)))
  · exact k _ hb.2 (h2 _ (.inr (.inr hb.1)))
theorem Tp.upd {w w' : World} {t : Nat} {T : Ft} {G U : Nat → Prop} (h : Tp w t T G) (u : Upd U w w') (k : ∀ x, x < w.heap.size → G x → ¬ U x) : Tp w' t T G := by
  obtain ⟨p, q, O0, Gn, h1, h2⟩ := h
  exact ⟨p, q, O0, Gn, h1.upd u (fun b hb hf => k b hb (h2 b hf)), h2⟩
theorem Tp.grow {w w' : World} {t : Nat} {T : Ft} {G : Nat → Prop} (h : Tp w t T G) (u : Below w.heap.size w w') : Tp w' t T G := h.upd (Upd.of_below (F := fun _ => False) u) (fun _ _ _ h => h)
theorem Tp.lt {w : World} {t : Nat} {T : Ft} {G : Nat → Prop} (h : Tp w t T G) : t < w.heap.size := by
  obtain ⟨p, q, O0, Gn, h1, h2⟩ := h; exact h1.tf.lt
def TpTo (w : World) (t : Nat) (T : Ft) (G : Nat → Prop) (w' : World) : Prop := Tp w' t T (fun x => G x ∨ w.heap.size ≤ x) ∧ Upd G w w'
theorem TpTo.same {w w' : World} {t : Nat} {T : Ft} {G : Nat → Prop} (h : Tp w t T G) (u : Below w.heap.size w w') : TpTo w t T G w' := ⟨(h.grow u).mono (fun _ _ h => .inl h), Upd.of_below u⟩
/-- What a call leaves, told of its parts: w0 is the world ahead of it. -/
theorem TpTo.of {w0 w' : World} {t q p : Nat} {O0 : Nat → Fl} {Gn Gm G : Nat → Prop} {T : Ft} (h : Ts w' t p q O0 Gm T) (hG : ∀ b, Foot t q Gn b → G b) (hm : ∀ b, Gm b → Gn b ∨ w0.heap.size ≤ b) (u : Upd (Foot t q Gn) w0 w') : TpTo w0 t T G w' :=
  ⟨⟨p, q, O0, Gm, h, fun b hb => by
    rcases hb with e | e | e
    · exact .inl (hG b (.inl e))
    · exact .inl (hG b (.inr (.inl e)))
    · rcases hm b e with e | e
      · exact .inl (hG b (.inr (.inr e)))
      · exact .inr e⟩, u.mono (fun b _ hb => hG b hb)⟩

end Go.Proofs.YtoknhcjneliboaaGreat

/- What usable, file, free, has, opened, bodyOf do (program). -/
namespace Go.Proofs.YtoknhcjneliboaaGreat
open Go.RowKit Go.ChangeMaps Go.MapKept
set_option linter.unusedVariables false
set_option maxRecDepth 20000

theorem fusable_yes (t s : Nat) (w : World) (h : w.cell? ⟨t, 0, none⟩ = some (.pointer (some ⟨s, 0, none⟩))) :
    Calls Tryz.prog 48 #[.pointer (some ⟨t, 0, none⟩)] w fun e w' => e = .returned (.bool true) ∧ w' = w := by
  go_enter Tryz.func48, Tryz.ntmps48
  go_wp2
  go_ret
  exact ⟨rfl, rfl⟩

/-- What 'file' tells. -/
def fileV (t : Nat) (T : Ft) (n : Int) : Value := if T.there n = true then .tuple #[.pointer (some ⟨t, 2 + n.toNat * 5, none⟩), .int .i64 0] else .tuple #[.pointer none, .int .i64 9]

set_option maxHeartbeats 1000000 in
theorem ffile_any (w : World) (t p q : Nat) (O0 : Nat → Fl) (Gn : Nat → Prop) (T : Ft) (H : Ts w t p q O0 Gn T) (n : Int) :
    Calls Tryz.prog 70 #[.pointer (some ⟨t, 0, none⟩), .int .i64 n] w fun e w' => e = .returned (fileV t T n) ∧ w' = w := by
  have k0 := hid (fusable_yes t p w H.tf.s)
  unfold fileV
  by_cases h1 : n < 1
  · rw [if_neg (by unfold Ft.there; simp; omega)]
    clear H
    go_enter Tryz.func70, Tryz.ntmps70
    go_wp2_with fail
    refine k0.out.mono ?_
    rintro e w1 ⟨rfl, rfl⟩
    clear k0
    go_wp2_with fail
    go_ret2
    exact ⟨rfl, rfl⟩
  by_cases h2 : 10 < n
  · rw [if_neg (by unfold Ft.there; simp; omega)]
    clear H
    go_enter Tryz.func70, Tryz.ntmps70
    go_wp2_with fail
    refine k0.out.mono ?_
    rintro e w1 ⟨rfl, rfl⟩
    clear k0
    go_wp2_with fail
    go_ret2
    exact ⟨rfl, rfl⟩
  obtain ⟨i, rfl⟩ : ∃ i : Nat, n = (i : Int) := ⟨n.toNat, by omega⟩
  have hi : i < 11 := by omega
  have c4 := H.tf.c4 i hi
  rw [H.h0 i hi] at c4
  have c3 : (0 : Int) ≤ (i : Int) := by omega
  have c5 : (i : Int) < 11 := by omega
  by_cases hh : (T.O i).h = 0
  · rw [hh] at c4
    rw [if_neg (by unfold Ft.there; simp [hh])]
    clear H hh
    go_enter Tryz.func70, Tryz.ntmps70
    go_wp2_with fail
    refine k0.out.mono ?_
    rintro e w1 ⟨rfl, rfl⟩
    clear k0
    go_wp2_with fail
    go_ret2
    exact ⟨rfl, rfl⟩
  · rw [if_pos (by unfold Ft.there; simp [hh]; omega), Int.toNat_natCast]
    obtain ⟨m, gm⟩ : ∃ m, m = (T.O i).h := ⟨_, rfl⟩
    rw [← gm] at c4 hh
    have hh' : (m == 0) = false := by simpa using hh
    clear H gm hh
    go_enter Tryz.func70, Tryz.ntmps70
    go_wp2_with fail
    refine k0.out.mono ?_
    rintro e w1 ⟨rfl, rfl⟩
    clear k0
    go_wp2_with fail
    go_ret2
    exact ⟨rfl, rfl⟩

/-- A bit of the flags. -/
theorem fhas_any (w : World) (t o : Nat) (fl b : Int) (r : Bool) (h : w.cell? ⟨t, o + 3, none⟩ = some (.int .i64 fl)) (hb : dfc fl b = r) :
    Calls Tryz.prog 100 #[.pointer (some ⟨t, o, none⟩), .int .i64 b] w fun e w' => e = .returned (.bool r) ∧ w' = w := by
  have HB : Hid ((bits BinOp.and IntKind.i64 fl b != 0) = r) := hid (by rw [← hb]; unfold dfc; cases h : (bits BinOp.and IntKind.i64 fl b != 0) <;> simp at h ⊢ <;> exact h)
  clear hb
  go_enter Tryz.func100, Tryz.ntmps100
  go_wp2_with fail
  go_ret
  refine ⟨?_, rfl⟩
  rw [← HB.out]
  rfl

def openedV (t : Nat) (T : Ft) (n b : Int) : Value := if T.has n b = true then .tuple #[.pointer (some ⟨t, 2 + n.toNat * 5, none⟩), .int .i64 0] else .tuple #[.pointer none, .int .i64 9]

set_option maxHeartbeats 1000000 in
theorem opened_any (w : World) (t p q : Nat) (O0 : Nat → Fl) (Gn : Nat → Prop) (T : Ft) (H : Ts w t p q O0 Gn T) (n b : Int) :
    Calls Tryz.prog 63 #[.pointer (some ⟨t, 0, none⟩), .int .i64 n, .int .i64 b] w fun e w' => e = .returned (openedV t T n b) ∧ w' = w := by
  have k0 := ffile_any w t p q O0 Gn T H n
  unfold fileV at k0
  unfold openedV Ft.has
  cases ht : T.there n
  · rw [ht, if_neg (by simp)] at k0
    rw [if_neg (by simp)]
    have k0 := hid k0
    clear H ht
    go_enter Tryz.func63, Tryz.ntmps63
    go_wp2_with fail
    refine k0.out.mono ?_
    rintro e w1 ⟨rfl, rfl⟩
    clear k0
    go_wp2_with fail
    go_ret2
    exact ⟨rfl, rfl⟩
  · rw [ht, if_pos rfl] at k0
    have k0 := hid k0
    obtain ⟨i, rfl, h1, h2, h3⟩ := Ft.there_lt ht
    rw [Int.toNat_natCast] at k0 ⊢
    have c3 := H.tf.c3 i h2
    rw [H.at i h2 h3] at c3
    have k1 := hid (fhas_any w t (2 + i * 5) (T.O i).fl b _ c3 rfl)
    clear H ht h3 c3
    generalize dfc (T.O i).fl b = r at k1 ⊢
    cases r
    · rw [if_neg (by simp)]
      go_enter Tryz.func63, Tryz.ntmps63
      go_wp2_with fail
      refine k0.out.mono ?_
      rintro e w1 ⟨rfl, rfl⟩
      clear k0
      go_wp2_with fail
      refine k1.out.mono ?_
      rintro e w1 ⟨rfl, rfl⟩
      clear k1
      go_wp2_with fail
      go_ret2
      exact ⟨rfl, rfl⟩
    · rw [if_pos (by simp)]
      go_enter Tryz.func63, Tryz.ntmps63
      go_wp2_with fail
      refine k0.out.mono ?_
      rintro e w1 ⟨rfl, rfl⟩
      clear k0
      go_wp2_with fail
      refine k1.out.mono ?_
      rintro e w1 ⟨rfl, rfl⟩
      clear k1
      go_wp2_with fail
      go_ret2
      exact ⟨rfl, rfl⟩

/-- What lies below an open file: a node, or a pipe's end. -/
def bodyV (p q : Nat) (k of : Int) : Value := if k = 3 then .iface 161 (.agg #[.pointer (some ⟨q, 0, none⟩), .int .i64 of, .bool true]) else if k = 2 then .iface 161 (.agg #[.pointer (some ⟨q, 0, none⟩), .int .i64 of, .bool false]) else .iface 163 (.agg #[.pointer (some ⟨p, 0, none⟩), .int .i64 of])

set_option maxHeartbeats 2000000 in
theorem body_any (w : World) (t p q o : Nat) (k of : Int) (cs : w.cell? ⟨t, 0, none⟩ = some (.pointer (some ⟨p, 0, none⟩))) (cp : w.cell? ⟨t, 1, none⟩ = some (.pointer (some ⟨q, 0, none⟩))) (c0 : w.cell? ⟨t, o, none⟩ = some (.int .i64 k)) (c1 : w.cell? ⟨t, o + 1, none⟩ = some (.int .i64 of)) (hk : k = 1 ∨ k = 2 ∨ k = 3) :
    Calls Tryz.prog 64 #[.pointer (some ⟨t, 0, none⟩), .pointer (some ⟨t, o, none⟩)] w fun e w' => e = .returned (bodyV p q k of) ∧ Below w.heap.size w w' := by
  unfold bodyV
  rcases hk with rfl | rfl | rfl
  · go_enter Tryz.func64, Tryz.ntmps64
    go_wp2_with fail
    go_quiet (fail)
    go_wp2_with fail
    go_ret
    exact ⟨rfl, ⟨rfl, rfl, rfl, Nat.le_refl _, fun _ _ => rfl⟩⟩
  · go_enter Tryz.func64, Tryz.ntmps64
    go_wp2_with fail
    go_quiet (fail)
    go_wp2_with fail
    go_ret
    exact ⟨rfl, ⟨rfl, rfl, rfl, Nat.le_refl _, fun _ _ => rfl⟩⟩
  · go_enter Tryz.func64, Tryz.ntmps64
    go_wp2_with fail
    go_quiet (fail)
    go_wp2_with fail
    go_ret
    exact ⟨rfl, ⟨rfl, rfl, rfl, Nat.le_refl _, fun _ _ => rfl⟩⟩

end Go.Proofs.YtoknhcjneliboaaGreat

/- Words for calls: rows of bytes, reads, what Stat tells. -/
namespace Go.Proofs.YtoknhcjneliboaaGreat
open Go.RowKit Go.ChangeMaps Go.MapKept
set_option linter.unusedVariables false
set_option maxRecDepth 20000

theorem clone_opt (ab : Option Addr) (lb cb : Nat) (zs : List Int) (w : World) (hs : Src w ab lb zs) (hr : lb ≤ 140737488355328) (hn : ab = none → lb = 0 ∧ cb = 0) :
    Calls Tryz.prog 16 #[.slice ab lb cb] w fun e w' => ∃ (av : Option Addr) (cv : Nat), e = .returned (.slice av lb cv) ∧ w'.ownsRow w.heap.size 5 1 (.slice av lb cv) lb (zs.map (Value.int .u8)) ∧ Below w.heap.size w w' := by
  cases ab with
  | none =>
    obtain ⟨rfl, rfl⟩ := hn rfl
    have hz : zs = [] := List.eq_nil_of_length_eq_zero hs.1
    subst hz
    refine (clone_nil 0 0 w).mono ?_
    rintro e w' ⟨rfl, rfl⟩
    exact ⟨none, 0, rfl, World.ownsRow_nil _ _ _ _, Below.refl _ _⟩
  | some a =>
    refine (clone_any a lb cb zs w hs hr).mono ?_
    rintro e w' ⟨g, c, rfl, h1, h2⟩
    exact ⟨some ⟨g, 0, none⟩, c, rfl, h1, h2⟩

theorem pread2 (p : Nat) (F : Fs) (G : Nat → Prop) (w : World) (H : Pf w p F G) (hF : FOk F) (n off cnt : Int) (ho : off ≤ 9223372036854775807) (hc : cnt ≤ 9223372036854775807) :
    Calls Tryz.prog 219 #[.pointer (some ⟨p, 0, none⟩), .int .i64 n, .int .i64 off, .int .i64 cnt] w fun e w' => (∃ v, e = .returned (.tuple #[v, .int .i64 (F.read n off cnt).2]) ∧ w'.ownsRow w.heap.size 5 1 v (F.read n off cnt).1.length ((F.read n off cnt).1.map (Value.int .u8))) ∧ Below w.heap.size w w' := by
  have HP := H
  obtain ⟨S, HS, R, hG⟩ := H
  by_cases hf : F.file n ≠ 0
  · have e : F.read n off cnt = ([], F.file n) := by unfold Fs.read; rw [if_pos hf]
    rw [e]
    refine (read_err p S F w HS R n off cnt _ hf rfl).mono ?_
    rintro e w' ⟨rfl, rfl⟩
    exact ⟨⟨_, rfl, World.ownsRow_nil _ _ _ _⟩, Below.refl _ _⟩
  have hf0 := Decidable.not_not.1 hf
  obtain ⟨fk, f1, f2⟩ := Fs.file_ok hF hf0
  obtain ⟨i, rfl⟩ : ∃ i : Nat, n = (i : Int) := ⟨n.toNat, by omega⟩
  have hi : i < 17 := by omega
  have fk : (F.P i).k = 1 := fk
  have r := R.P i hi
  have hk : (S.P i).k = 1 := r.k.trans fk
  by_cases h0 : off < 0 ∨ cnt < 0
  · have e : F.read (i : Int) off cnt = ([], 22) := by unfold Fs.read; rw [if_neg hf, if_pos h0]
    rw [e]
    refine (read_neg p S w HS i (by omega) hi hk off cnt h0).mono ?_
    rintro e w' ⟨rfl, rfl⟩
    exact ⟨⟨_, rfl, World.ownsRow_nil _ _ _ _⟩, Below.refl _ _⟩
  obtain ⟨o, rfl⟩ : ∃ o : Nat, off = (o : Int) := ⟨off.toNat, by omega⟩
  obtain ⟨m, rfl⟩ : ∃ m : Nat, cnt = (m : Int) := ⟨cnt.toNat, by omega⟩
  have e : F.read (i : Int) (o : Int) (m : Int) = (((F.P i).c.drop o).take m, 0) := by unfold Fs.read; rw [if_neg hf, if_neg h0]; rfl
  rw [e]
  have hcl := (hF.c i).1
  refine (read_ok p S w i (by omega) hi (S.P i) S.T (by rw [S.bl_self]; exact HS) hk (by rw [r.s]; exact hcl) o m (by omega) (by omega)).mono ?_
  rintro e w' ⟨⟨g, c, rfl, h⟩, hb⟩
  have er : rd (S.P i) o m = ((F.P i).c.drop o).take m := by unfold rd; rw [r.b]
  have el : min m ((S.P i).s - o) = (((F.P i).c.drop o).take m).length := by rw [List.length_take, List.length_drop, r.s]
  rw [er, el] at h
  rw [el]
  exact ⟨⟨_, rfl, h⟩, hb⟩

set_option maxHeartbeats 1000000 in
theorem spoil_any (v : Value) (n c : Nat) (ad : Option Addr) (xs : List Int) (w : World) (B : Nat) (hv : v = .slice ad n c) (ho : w.ownsRow B 5 1 v n (xs.map (Value.int .u8))) (hn : n ≤ 140737488355328) :
    Calls Tryz.prog 24 #[v] w fun e w' => e = .returned (.tuple #[]) ∧ Upd (fun x => v.ownBlock = some x) w w' := by
  rcases ho.2 with ⟨h1, h2⟩ | ⟨g, cap, cur, h1, _⟩
  · subst h1
    subst h2
    clear hv
    go_enter Tryz.func24, Tryz.ntmps24
    go_wp2_with fail
    go_loop [5] (fun s => s = .int .i64 0) (fun _ => 0)
    case atStart => rfl
    case round =>
      subst hrel
      go_wp2_with fail
      go_end0
      exact ⟨rfl, Upd.refl _ _⟩
  · subst h1
    have HO := hid ho
    clear ho hv
    go_enter Tryz.func24, Tryz.ntmps24
    go_wp2_with fail
    go_loopw [5] (fun s wr => ∃ (i : Nat) (ys : List Int), i ≤ n ∧ s = .int .i64 i ∧ Hid (wr.ownsRow B 5 1 (.slice (some ⟨g, 0, none⟩) n cap) n (ys.map (Value.int .u8))) ∧ Upd (fun x => (Value.slice (some ⟨g, 0, none⟩) n cap).ownBlock = some x) w wr) (fun s _ => n - (intOf s).toNat)
    case atStart => exact ⟨0, xs, by omega, rfl, HO, Upd.refl _ _⟩
    case round =>
      obtain ⟨i, ys, hi, rfl, HW, hu⟩ := hrel
      by_cases h : i < n
      · have hl : ys.length = n := by have := HW.out.1; simpa using this
        have hcell : wr.cell? ⟨g, i, none⟩ = some (.int .u8 (ys.getD i 0)) := by
          rw [HW.out.cellAt i (by omega), List.getElem?_map, List.getD_eq_getElem?_getD, List.getElem?_eq_getElem (by omega)]; rfl
        have hfr : wr.frozen? ⟨g, i, none⟩ = false := HW.out.frozenAt i
        obtain ⟨z, gz⟩ : ∃ z, z = ys.getD i 0 := ⟨_, rfl⟩
        rw [← gz] at hcell
        have HN : Hid (∀ y, (wr.setCell ⟨g, i, none⟩ (.int .u8 y)).ownsRow B 5 1 (.slice (some ⟨g, 0, none⟩) n cap) n ((ys.set i y).map (Value.int .u8))) := by
          refine hid (fun y => ?_)
          rw [List.map_set]
          exact (HW.out.stored i (.int .u8 y)).1
        clear gz
        go_wp2_with fail
        go_roundw
        case rel => exact ⟨i + 1, _, by omega, by go_num, hid (HN.out _), hu.trans (Upd.setCell (F := fun x => (Value.slice (some ⟨g, 0, none⟩) n cap).ownBlock = some x) wr ⟨g, i, none⟩ _ rfl) (fun _ _ h => h)⟩
        case measure => simp [intOf]; omega
      · obtain rfl : i = n := by omega
        go_wp2_with fail
        go_end0
        exact ⟨rfl, hu⟩

theorem own_src {w : World} {B : Nat} {a : Option Addr} {n c : Nat} {zs : List Int} (h : w.ownsRow B 5 1 (.slice a n c) n (zs.map (Value.int .u8))) : Src w a n zs := by
  have hl : zs.length = n := by have := h.1; simpa using this
  rcases h.2 with ⟨e, h0⟩ | ⟨g, cap, cur, e, rest⟩
  · subst h0
    exact ⟨hl, fun h => absurd h (Nat.lt_irrefl 0)⟩
  · injection e with e1 e2 e3
    subst e1
    exact Src.own h

theorem Src.updL {F : Nat → Prop} {w w' : World} {a : Option Addr} {n : Nat} {zs : List Int} (u : Upd F w w') (h : Src w a n zs) (hF : 0 < n → ∀ b o, a = some ⟨b, o, none⟩ → ¬ F b) : Src w' a n zs :=
  ⟨h.1, fun hl => by
    obtain ⟨b, o, e, hlt, hc⟩ := h.2 hl
    exact ⟨b, o, e, Nat.lt_of_lt_of_le hlt u.size, fun j hj => (World.cell?_of_block (a := ⟨b, o + j, none⟩) (u.block b hlt (hF hl b o e))).trans (hc j hj)⟩⟩

theorem own_at {w : World} {B n c : Nat} {a : Option Addr} {xs : List Value} (h : w.ownsRow B 5 1 (.slice a n c) n xs) : ∀ b o, a = some ⟨b, o, none⟩ → B ≤ b ∧ b < w.heap.size := by
  intro b o e
  rcases h.2 with ⟨e1, _⟩ | ⟨g, cap, cur, e1, h2, h3, _⟩
  · injection e1 with e2
    rw [e2] at e
    cases e
  · injection e1 with e2
    rw [e2] at e
    injection e with e
    injection e with e3 e4
    exact ⟨e3 ▸ h2, e3 ▸ (Array.getElem?_eq_some_iff.1 h3).1⟩

theorem read_len {F : Fs} (H : FOk F) (n off cnt : Int) : (F.read n off cnt).1.length ≤ 96 := by
  unfold Fs.read
  split
  · exact Nat.zero_le _
  · split
    · exact Nat.zero_le _
    · have := (H.c n.toNat).1
      rw [List.length_take, List.length_drop]
      omega

theorem pstat2 (p : Nat) (F : Fs) (G : Nat → Prop) (w : World) (H : Pf w p F G) (hF : FOk F) (n : Int) :
    Calls Tryz.prog 83 #[.pointer (some ⟨p, 0, none⟩), .int .i64 n] w fun e w' => e = .returned (.tuple #[.agg #[.int .i64 (F.stat n).1, .int .i64 (F.stat n).2.1, .int .i64 (F.stat n).2.2.1], .int .i64 (F.stat n).2.2.2]) ∧ Below w.heap.size w w' := by
  have HP := H
  obtain ⟨S, HS, R, hG⟩ := H
  by_cases ht : F.there n = false
  · have e : F.stat n = (0, 0, 0, 2) := by unfold Fs.stat; rw [if_pos ht]
    rw [e]
    refine (stat_no p S w HS n (there_no R ht)).mono ?_
    rintro e w' ⟨rfl, h⟩
    exact ⟨rfl, h⟩
  · obtain ⟨i, rfl, h1, h2, hk⟩ := there_yes (by simpa using ht : F.there n = true)
    have e : F.stat (i : Int) = ((F.P i).k, (F.P i).l, (F.size i : Int), 0) := by unfold Fs.stat; rw [if_neg ht]; rfl
    rw [e]
    have r := R.P i h2
    refine (stat_any p S w i h1 h2 HS (by rw [r.k]; exact hk) (F.size i) ?_).mono ?_
    · rw [r.k, R.L i h2, r.s]
      unfold Fs.size
      by_cases q : (F.P i).k = 2
      · rw [if_pos q, (hF.dir i q).1]; simp
      · rw [if_neg q, hF.file i q]; simp
    · rintro e w' ⟨rfl, h⟩
      rw [r.k, r.l]
      exact ⟨rfl, h⟩


end Go.Proofs.YtoknhcjneliboaaGreat

/- What the methods of nodes and of pipes' ends do (program). -/
namespace Go.Proofs.YtoknhcjneliboaaGreat
open Go.RowKit Go.ChangeMaps Go.MapKept
set_option linter.unusedVariables false
set_option maxRecDepth 20000

set_option maxHeartbeats 1000000 in
theorem feread (w : World) (q : Nat) (of c : Int) (wr : Bool) (a : Value) (k : Bool) (P : Nat → Pi.Pp) (H : Pi.Tc w q k P) :
    Calls Tryz.prog 204 #[.agg #[.pointer (some ⟨q, 0, none⟩), .int .i64 of, .bool wr], a, .int .i64 c] w fun e w' => (∃ v, e = .returned (.tuple #[v, .bool (Pi.readW P of c), .int .i64 (Pi.readE P of c)]) ∧ w'.ownsRow w.heap.size 5 1 v (Pi.readL P of c).length ((Pi.readL P of c).map (Value.int .u8))) ∧ Pi.Tc w' q k (Pi.readP P of c) ∧ Upd (· = q) w w' := by
  have k1 := hid (fun W (hb : Below w.heap.size w W) => Pi.read_spec q of c k P W (H.below hb H.lt))
  clear H
  generalize Pi.readW P of c = b1 at k1 ⊢
  generalize Pi.readE P of c = b2 at k1 ⊢
  generalize Pi.readL P of c = b3 at k1 ⊢
  go_enter Tryz.func204, Tryz.ntmps204
  go_wp2_with fail
  have hb := one_new w (Obj.cells #[.pointer (some ⟨q, 0, none⟩), .int .i64 of, .bool wr] 161)
  refine (k1.out _ hb).mono ?_
  rintro e w1 ⟨v, rfl, hO, hT, hU⟩
  have HQ := hid (And.intro (own_base hO hb.size) (And.intro hT ((Upd.of_below hb).trans hU (fun _ _ h => h))))
  clear hO hT hU hb k1
  go_wp2_with fail
  go_ret3
  exact ⟨⟨v, rfl, HQ.out.1⟩, HQ.out.2.1, HQ.out.2.2⟩

set_option maxHeartbeats 1000000 in
theorem fewrite (w : World) (q : Nat) (of : Int) (wr : Bool) (a : Value) (k : Bool) (P : Nat → Pi.Pp) (H : Pi.Tc w q k P) (ab : Option Addr) (len cap : Nat) (zs : List Int) (hs : Src w ab len zs) :
    Calls Tryz.prog 205 #[.agg #[.pointer (some ⟨q, 0, none⟩), .int .i64 of, .bool wr], a, .slice ab len cap] w fun e w' => e = .returned (.tuple #[.int .i64 (Pi.writeN P of len), .bool (Pi.writeW P of len), .int .i64 (Pi.writeE P of)]) ∧ Pi.Tc w' q k (Pi.writeP P of zs) ∧ Upd (· = q) w w' := by
  have k1 := hid (fun W (hb : Below w.heap.size w W) => Pi.write_spec q len cap of ab k P zs W (H.below hb H.lt) (hs.below hb))
  clear H hs
  generalize Pi.writeN P of len = b1 at k1 ⊢
  generalize Pi.writeE P of = b2 at k1 ⊢
  generalize Pi.writeW P of len = b3 at k1 ⊢
  go_enter Tryz.func205, Tryz.ntmps205
  go_wp2_with fail
  have hb := one_new w (Obj.cells #[.pointer (some ⟨q, 0, none⟩), .int .i64 of, .bool wr] 161)
  refine (k1.out _ hb).mono ?_
  rintro e w1 ⟨rfl, hT, hU⟩
  have HQ := hid (And.intro hT ((Upd.of_below hb).trans hU (fun _ _ h => h)))
  clear hT hU hb k1
  go_wp2_with fail
  go_ret3
  exact ⟨rfl, HQ.out.1, HQ.out.2⟩

theorem fefrom (w : World) (q : Nat) (of wh : Int) (wr : Bool) (a : Value) :
    Calls Tryz.prog 203 #[.agg #[.pointer (some ⟨q, 0, none⟩), .int .i64 of, .bool wr], a, .int .i64 wh] w fun e w' => e = .returned (.tuple #[.int .i64 0, .int .i64 29]) ∧ Below w.heap.size w w' := by
  go_enter Tryz.func203, Tryz.ntmps203
  go_wp2_with fail
  go_ret2
  exact ⟨rfl, one_new _ _⟩

set_option maxHeartbeats 1000000 in
theorem fedrop (w : World) (q : Nat) (of : Int) (wr k : Bool) (P : Nat → Pi.Pp) (H : Pi.Tc w q k P) :
    Calls Tryz.prog 202 #[.agg #[.pointer (some ⟨q, 0, none⟩), .int .i64 of, .bool wr]] w fun e w' => e = .returned (.int .i64 (Pi.dropE P of wr)) ∧ Pi.Tc w' q k (Pi.dropP k P of wr) ∧ Upd (· = q) w w' := by
  have k1 := hid (fun W (hb : Below w.heap.size w W) => Pi.drop_spec q of k wr P W (H.below hb H.lt))
  clear H
  generalize Pi.dropE P of wr = b1 at k1 ⊢
  go_enter Tryz.func202, Tryz.ntmps202
  go_wp2_with fail
  have hb := one_new w (Obj.cells #[.pointer (some ⟨q, 0, none⟩), .int .i64 of, .bool wr] 161)
  refine (k1.out _ hb).mono ?_
  rintro e w1 ⟨rfl, hT, hU⟩
  have HQ := hid (And.intro hT ((Upd.of_below hb).trans hU (fun _ _ h => h)))
  clear hT hU hb k1
  go_wp2_with fail
  go_ret
  exact ⟨rfl, HQ.out.1, HQ.out.2⟩

set_option maxHeartbeats 1000000 in
theorem fndrop (w : World) (p : Nat) (F : Fs) (G : Nat → Prop) (H : Pf w p F G) (hF : FOk F) (of : Int) :
    Calls Tryz.prog 213 #[.agg #[.pointer (some ⟨p, 0, none⟩), .int .i64 of]] w fun e w' => e = .returned (.int .i64 (F.drop of).2) ∧ PfTo w p (F.drop of).1 G w' := by
  have k1 := hid (fun W (hb : Below w.heap.size w W) => pdrop p F G W (H.grow hb) hF of)
  clear H
  generalize (F.drop of).2 = b1 at k1 ⊢
  go_enter Tryz.func213, Tryz.ntmps213
  go_wp2_with fail
  have hb := one_new w (Obj.cells #[.pointer (some ⟨p, 0, none⟩), .int .i64 of] 163)
  refine (k1.out _ hb).mono ?_
  rintro e w1 ⟨rfl, hT⟩
  have HQ := hid (hT.ahead hb)
  clear hT hb k1
  go_wp2_with fail
  go_ret
  exact ⟨rfl, HQ.out⟩

set_option maxHeartbeats 1000000 in
theorem fnsize (w : World) (p : Nat) (F : Fs) (G : Nat → Prop) (H : Pf w p F G) (hF : FOk F) (of : Int) :
    Calls Tryz.prog 218 #[.agg #[.pointer (some ⟨p, 0, none⟩), .int .i64 of]] w fun e w' => e = .returned (.tuple #[.int .i64 (F.stat of).2.2.1, .int .i64 (F.stat of).2.2.2]) ∧ Below w.heap.size w w' := by
  have k1 := hid (fun W (hb : Below w.heap.size w W) => pstat2 p F G W (H.grow hb) hF of)
  clear H
  generalize F.stat of = s at k1 ⊢
  obtain ⟨a1, a2, a3, a4⟩ := s
  go_enter Tryz.func218, Tryz.ntmps218
  go_wp2_with fail
  have hb := one_new w (Obj.cells #[.pointer (some ⟨p, 0, none⟩), .int .i64 of] 163)
  refine (k1.out _ hb).mono ?_
  rintro e w1 ⟨rfl, hT⟩
  have HQ := hid (hb.trans (hT.mono hb.size))
  clear hT hb k1
  go_wp2_with fail
  go_ret2
  exact ⟨rfl, HQ.out.trans ((one_new w1 _).mono HQ.out.size)⟩

/-- What 'from' of a node tells: where a seek counts from. -/
def fromV (F : Fs) (of off wh : Int) : Value := if wh = 0 then .tuple #[.int .i64 0, .int .i64 0] else if wh = 1 then .tuple #[.int .i64 off, .int .i64 0] else if wh = 2 then .tuple #[.int .i64 (F.stat of).2.2.1, .int .i64 (F.stat of).2.2.2] else .tuple #[.int .i64 0, .int .i64 22]

set_option maxHeartbeats 1000000 in
theorem fnfrom (w : World) (p : Nat) (F : Fs) (G : Nat → Prop) (H : Pf w p F G) (hF : FOk F) (of wh off : Int) (t o : Nat) (c2 : w.cell? ⟨t, o + 2, none⟩ = some (.int .i64 off)) (ht : t < w.heap.size) :
    Calls Tryz.prog 214 #[.agg #[.pointer (some ⟨p, 0, none⟩), .int .i64 of], .pointer (some ⟨t, o, none⟩), .int .i64 wh] w fun e w' => e = .returned (fromV F of off wh) ∧ Below w.heap.size w w' := by
  have hb := one_new w (Obj.cells #[.pointer (some ⟨p, 0, none⟩), .int .i64 of] 163)
  have d2 := (hb.cell (p := ⟨t, o + 2, none⟩) ht).trans c2
  unfold fromV
  by_cases h0 : wh = 0
  · subst h0
    rw [if_pos rfl]
    clear H
    go_enter Tryz.func214, Tryz.ntmps214
    go_wp2_with fail
    go_ret2
    exact ⟨rfl, one_new _ _⟩
  rw [if_neg h0]
  by_cases h1 : wh = 1
  · subst h1
    rw [if_pos rfl]
    clear H
    go_enter Tryz.func214, Tryz.ntmps214
    go_wp2_with fail
    go_ret2
    exact ⟨rfl, one_new _ _⟩
  rw [if_neg h1]
  by_cases h2 : wh = 2
  · subst h2
    rw [if_pos rfl]
    have k1 := hid (fun W (hb : Below w.heap.size w W) => fnsize W p F G (H.grow hb) hF of)
    clear H d2 c2
    generalize F.stat of = s at k1 ⊢
    obtain ⟨a1, a2, a3, a4⟩ := s
    have HB := hid hb
    clear hb
    go_enter Tryz.func214, Tryz.ntmps214
    go_wp2_with fail
    refine (k1.out _ HB.out).mono ?_
    rintro e w1 ⟨rfl, hT⟩
    have HQ := hid (HB.out.trans (hT.mono HB.out.size))
    clear hT k1
    go_wp2_with fail
    go_ret2
    exact ⟨rfl, HQ.out⟩
  rw [if_neg h2]
  clear H
  go_enter Tryz.func214, Tryz.ntmps214
  go_wp2_with fail
  go_ret2
  exact ⟨rfl, one_new _ _⟩

end Go.Proofs.YtoknhcjneliboaaGreat

/- What read and write of a node do (program). -/
namespace Go.Proofs.YtoknhcjneliboaaGreat
open Go.RowKit Go.ChangeMaps Go.MapKept
set_option linter.unusedVariables false
set_option maxRecDepth 20000

theorem updF_off {w : World} {t p q : Nat} {O0 : Nat → Fl} {Gn : Nat → Prop} {T : Ft} (H : Ts w t p q O0 Gn T) (j : Nat) (hj : j < 11) (hh : (T.O j).h ≠ 0) (v : Int) :
    Ts (w.setCell ⟨t, 2 + j * 5 + 2, none⟩ (.int .i64 v)) t p q (updF O0 j { T.O j with off := v }) Gn (T.at_ j { T.O j with off := v }) := by
  have k := H.tf.offTo j hj v
  rw [H.at j hj hh] at k
  exact H.fil k (clF_of (x := { T.O j with off := v }) hh).symm (Upd.setCell (F := (· = t)) w ⟨t, _, none⟩ _ rfl)

set_option maxHeartbeats 4000000 in
theorem fnread (w : World) (t p q : Nat) (O0 : Nat → Fl) (Gn : Nat → Prop) (T : Ft) (H : Ts w t p q O0 Gn T) (hT : TOk T) (j : Nat) (hj : j < 11) (hh : (T.O j).h ≠ 0) (c : Int) (hc : c ≤ 9223372036854775807) :
    Calls Tryz.prog 215 #[.agg #[.pointer (some ⟨p, 0, none⟩), .int .i64 (T.O j).of], .pointer (some ⟨t, 2 + j * 5, none⟩), .int .i64 c] w fun e w' => (∃ v, e = .returned (.tuple #[v, .bool false, .int .i64 (T.F.read (T.O j).of (T.O j).off c).2]) ∧
      w'.ownsRow w.heap.size 5 1 v (T.F.read (T.O j).of (T.O j).off c).1.length ((T.F.read (T.O j).of (T.O j).off c).1.map (Value.int .u8))) ∧
      Ts w' t p q (updF O0 j { T.O j with off := (T.O j).off + ((T.F.read (T.O j).of (T.O j).off c).1.length : Int) }) Gn (T.at_ j { T.O j with off := (T.O j).off + ((T.F.read (T.O j).of (T.O j).off c).1.length : Int) }) ∧ Upd (· = t) w w' := by
  obtain ⟨W, gW⟩ : ∃ W, W = w.alloc (Obj.cells #[.pointer (some ⟨p, 0, none⟩), .int .i64 (T.O j).of] 163) := ⟨_, rfl⟩
  have hB : Below w.heap.size w W := by rw [gW]; exact one_new _ _
  have hF := H.grow hB
  have a0 : W.cell? ⟨w.heap.size, 0, none⟩ = some (.pointer (some ⟨p, 0, none⟩)) := by rw [gW]; simp [go_sem]
  have a1 : W.cell? ⟨w.heap.size, 1, none⟩ = some (.int .i64 (T.O j).of) := by rw [gW]; simp [go_sem]
  have a2 := hF.tf.c2 j hj
  rw [H.at j hj hh] at a2
  have hZ : w.heap.size < W.heap.size := by rw [gW]; simp
  have hZt : t < W.heap.size := hF.tf.lt
  have hle := read_le hT.F (T.O j).of (T.O j).off c (hT.off j)
  have hof := hT.off j
  have k1 := pread2 p T.F Gn W.drew (hF.pf.hp rfl) hT.F (T.O j).of (T.O j).off c (by omega) hc
  have HS : Hid (∀ X, Below W.heap.size W X → Ts X t p q O0 Gn T) := hid (fun X hX => hF.grow hX)
  have HHH := hid hh
  obtain ⟨r, gr⟩ : ∃ r, r = T.F.read (T.O j).of (T.O j).off c := ⟨_, rfl⟩
  rw [← gr] at k1 hle ⊢
  obtain ⟨L, E⟩ := r
  have HOF : Hid (∀ X v, Ts X t p q O0 Gn T → Ts (X.setCell ⟨t, 2 + j * 5 + 2, none⟩ (.int .i64 v)) t p q (updF O0 j { T.O j with off := v }) Gn (T.at_ j { T.O j with off := v })) := hid (fun X v h => updF_off h j hj hh v)
  obtain ⟨off, goff⟩ : ∃ off, off = (T.O j).off := ⟨_, rfl⟩
  rw [← goff] at a2 k1 hle hof ⊢
  have hl0 : (0 : Int) ≤ ((L.length : Nat) : Int) := by omega
  obtain ⟨n, gn⟩ : ∃ n, n = L.length := ⟨_, rfl⟩
  have k1 : Hid (Calls Tryz.prog 219 #[.pointer (some ⟨p, 0, none⟩), .int .i64 (T.O j).of, .int .i64 off, .int .i64 c] W.drew fun e w' => ∃ a c, e = .returned (.tuple #[.slice a n c, .int .i64 E]) ∧ Hid (w'.ownsRow W.heap.size 5 1 (.slice a n c) n (L.map (Value.int .u8)) ∧ Below W.heap.size W w')) := by
    rw [gn]
    refine hid (k1.mono ?_)
    rintro e w' ⟨⟨v, rfl, h2⟩, h3⟩
    obtain ⟨a, c, rfl, _⟩ := own_shp h2
    exact ⟨a, c, rfl, hid ⟨h2, (Below.refl _ W).drew.trans h3⟩⟩
  rw [← gn] at hle hl0 ⊢
  generalize (T.O j).of = of at a1 k1 gW ⊢
  have HB := hid hB
  have HZ := hid (And.intro hZ hZt)
  clear H hT hB hF hZ hZt gr goff gn hh
  go_enter Tryz.func215, Tryz.ntmps215
  go_wp2_with fail
  rw [← gW]
  clear gW
  go_region_held3 (fun X => X.cell? ⟨w.heap.size, 0, none⟩ = some (.pointer (some ⟨p, 0, none⟩)) ∧ X.cell? ⟨w.heap.size, 1, none⟩ = some (.int .i64 of) ∧ X.cell? ⟨t, 2 + j * 5 + 2, none⟩ = some (.int .i64 off)) (go_keep) ((go_at_call 219; refine k1.out.mono ?_; rintro e w3 ⟨g, c, rfl, H3⟩; have x0 := (H3.out.2.cell (p := ⟨w.heap.size, 0, none⟩) HZ.out.1).trans a0; have x1 := (H3.out.2.cell (p := ⟨w.heap.size, 1, none⟩) HZ.out.1).trans a1; have x2 := (H3.out.2.cell (p := ⟨t, 2 + j * 5 + 2, none⟩) HZ.out.2).trans a2))
  have hS3 := HS.out w3 H3.out.2
  have f3 : w3.frozen? ⟨t, 2 + j * 5 + 2, none⟩ = false := hS3.tf.fz _
  have u3 : Upd (· = t) w3 (w3.setCell ⟨t, 2 + j * 5 + 2, none⟩ (.int .i64 (off + (n : Int)))) := Upd.setCell (F := (· = t)) w3 ⟨t, _, none⟩ _ rfl
  have H4 : Hid (Ts (w3.setCell ⟨t, 2 + j * 5 + 2, none⟩ (.int .i64 (off + (n : Int)))) t p q (updF O0 j { T.O j with off := off + (n : Int) }) Gn (T.at_ j { T.O j with off := off + (n : Int) }) ∧ Upd (· = t) w (w3.setCell ⟨t, 2 + j * 5 + 2, none⟩ (.int .i64 (off + (n : Int)))) ∧ (w3.setCell ⟨t, 2 + j * 5 + 2, none⟩ (.int .i64 (off + (n : Int)))).ownsRow w.heap.size 5 1 (.slice g n c) n (L.map (Value.int .u8))) := by
    refine hid ⟨HOF.out w3 _ hS3, (Upd.of_below (HB.out.trans (H3.out.2.mono HB.out.size))).trans u3 (fun _ _ h => h), own_base (u3.own H3.out.1 (fun k hk e => ?_)) HB.out.size⟩
    have := (H3.out.1.lt k hk).1
    have := HZ.out.2
    omega
  have w64 : IntKind.i64.wrap (off + (n : Int)) = off + (n : Int) := by rw [IntKind.wrap_i64]; omega
  clear H3 k1 x0 x1 a0 a1 a2 hS3 u3 HS HOF HB
  go_wp2_with fail
  go_ret3
  exact ⟨⟨_, rfl, H4.out.2.2⟩, H4.out.1, H4.out.2.1⟩

end Go.Proofs.YtoknhcjneliboaaGreat

/- What write of a node does (program). -/
namespace Go.Proofs.YtoknhcjneliboaaGreat
open Go.RowKit Go.ChangeMaps Go.MapKept
set_option linter.unusedVariables false
set_option maxRecDepth 20000

/-- The node of an open file is there. -/
theorem TOk.node {T : Ft} (H : TOk T) (j : Nat) (hj : j < 11) (hh : (T.O j).h ≠ 0) (hk : (T.O j).k = 1) : ∃ m : Nat, (T.O j).of = (m : Int) ∧ (T.F.P m).k ≠ 0 ∧ T.F.there m = true ∧ 0 < (T.F.P m).h := by
  obtain ⟨m, hm⟩ := H.of j
  have hc := cF_mem hj hh m hm
  rw [hk] at hc
  have hp : 0 < (T.F.P m).h := by rw [H.hc m]; omega
  have hk : (T.F.P m).k ≠ 0 := fun e => by rw [H.F.none m e] at hp; exact absurd hp (by decide)
  have hl := H.F.lt hk
  refine ⟨m, hm, hk, ?_, hp⟩
  unfold Fs.there
  simp only [Int.toNat_natCast, decide_eq_true_eq]
  exact ⟨by omega, by omega, hk⟩
theorem stat_there {F : Fs} {n : Int} (h : F.there n = true) : (F.stat n).2.2.1 = (F.size n.toNat : Int) ∧ (F.stat n).2.2.2 = 0 ∧ (F.stat n).1 = (F.P n.toNat).k := by
  unfold Fs.stat
  rw [if_neg (by rw [h]; simp)]
  exact ⟨rfl, rfl, rfl⟩
theorem write_d (F : Fs) (n off : Int) (b : List Int) : (F.write n off b).1.d = F.d := (SH.write F n off b).1
theorem fwrite_err {F : Fs} {n off : Int} {b : List Int} (h : (F.write n off b).2.2 ≠ 0) : (F.write n off b).1 = F ∧ (F.write n off b).2.1 = 0 := by
  unfold Fs.write at h ⊢
  split
  · exact ⟨rfl, rfl⟩
  split
  · exact ⟨rfl, rfl⟩
  split
  · exact ⟨rfl, rfl⟩
  split
  · exact ⟨rfl, rfl⟩
  split
  · exact ⟨rfl, rfl⟩
  · rename_i a b c d e
    rw [if_neg a, if_neg b, if_neg c, if_neg d, if_neg e] at h
    exact absurd rfl h

/-- What a node's write leaves. -/
def WrT (T : Ft) (j : Nat) (zs : List Int) : Ft := if (T.F.write (T.O j).of (T.from_ (T.O j)) zs).2.2 ≠ 0 then T else { T with F := (T.F.write (T.O j).of (T.from_ (T.O j)) zs).1, O := updF T.O j { T.O j with off := T.from_ (T.O j) + (T.F.write (T.O j).of (T.from_ (T.O j)) zs).2.1 } }
def WrP (w : World) (t p q : Nat) (Gn : Nat → Prop) (T : Ft) (w' : World) : Prop := ∃ O1 Gm, Ts w' t p q O1 Gm T ∧ (∀ b, Gm b → Gn b ∨ w.heap.size ≤ b) ∧ Upd (Foot t q Gn) w w'

set_option maxHeartbeats 4000000 in
theorem fnwrite (w : World) (t p q : Nat) (O0 : Nat → Fl) (Gn : Nat → Prop) (T : Ft) (H : Ts w t p q O0 Gn T) (hT : TOk T) (j : Nat) (hj : j < 11) (hh : (T.O j).h ≠ 0) (hk : (T.O j).k = 1) (ab : Option Addr) (len cap : Nat) (zs : List Int) (hs : Src w ab len zs) (ha : ∀ b o, ab = some ⟨b, o, none⟩ → ¬ Gn b) :
    Calls Tryz.prog 216 #[.agg #[.pointer (some ⟨p, 0, none⟩), .int .i64 (T.O j).of], .pointer (some ⟨t, 2 + j * 5, none⟩), .slice ab len cap] w fun e w' => e = .returned (.tuple #[.int .i64 (T.F.write (T.O j).of (T.from_ (T.O j)) zs).2.1, .bool false, .int .i64 (T.F.write (T.O j).of (T.from_ (T.O j)) zs).2.2]) ∧ WrP w t p q Gn (WrT T j zs) w' := by
  obtain ⟨W, gW⟩ : ∃ W, W = w.alloc (Obj.cells #[.pointer (some ⟨p, 0, none⟩), .int .i64 (T.O j).of] 163) := ⟨_, rfl⟩
  have hB : Below w.heap.size w W := by rw [gW]; exact one_new _ _
  have hF := H.grow hB
  have a0 : W.cell? ⟨w.heap.size, 0, none⟩ = some (.pointer (some ⟨p, 0, none⟩)) := by rw [gW]; simp [go_sem]
  have a1 : W.cell? ⟨w.heap.size, 1, none⟩ = some (.int .i64 (T.O j).of) := by rw [gW]; simp [go_sem]
  have a2 := hF.tf.c2 j hj
  have c3 := hF.tf.c3 j hj
  rw [H.at j hj hh] at a2 c3
  have hZ : w.heap.size < W.heap.size := by rw [gW]; simp
  have k1 := hid (fhas_any W t (2 + j * 5) (T.O j).fl 4 _ c3 rfl)
  obtain ⟨m, hm, hmk, hth, _⟩ := hT.node j hj hh hk
  have hst := stat_there hth
  rw [Int.toNat_natCast] at hst
  have hle := write_le (F := T.F) (T.O j).of (T.from_ (T.O j)) zs (Ft.from_le hT j)
  have hfr := Ft.from_le hT j
  have ks : Hid (Calls Tryz.prog 218 #[.agg #[.pointer (some ⟨p, 0, none⟩), .int .i64 (T.O j).of]] W fun e w' => e = .returned (.tuple #[.int .i64 (T.F.size m : Int), .int .i64 0]) ∧ Hid (Below W.heap.size W w')) := by
    refine hid ((fnsize W p T.F Gn hF.pf hT.F (T.O j).of).mono ?_)
    rintro e w' ⟨rfl, h⟩
    rw [hm, hst.1, hst.2.1]
    exact ⟨rfl, hid h⟩
  have kw : Hid (∀ X, Hid (Below W.heap.size W X) → Calls Tryz.prog 220 #[.pointer (some ⟨p, 0, none⟩), .int .i64 (T.O j).of, .int .i64 (T.from_ (T.O j)), .slice ab len cap] X fun e w' => e = .returned (.tuple #[.int .i64 (T.F.write (T.O j).of (T.from_ (T.O j)) zs).2.1, .int .i64 (T.F.write (T.O j).of (T.from_ (T.O j)) zs).2.2]) ∧ Hid (PfTo X p (T.F.write (T.O j).of (T.from_ (T.O j)) zs).1 Gn w')) := by
    refine hid (fun X hX => ?_)
    refine (pwrite p T.F Gn X (hF.grow hX.out).pf hT.F (T.O j).of (T.from_ (T.O j)) ab len cap zs ((hs.below hB).below hX.out) ha).mono ?_
    rintro e w' ⟨rfl, h⟩
    exact ⟨rfl, hid h⟩
  have HJ : Hid (∀ X w4, Hid (Below W.heap.size W X) → PfTo X p (T.F.write (T.O j).of (T.from_ (T.O j)) zs).1 Gn w4 →
      ((T.F.write (T.O j).of (T.from_ (T.O j)) zs).2.2 ≠ 0 → WrP w t p q Gn (WrT T j zs) w4 ∧ (T.F.write (T.O j).of (T.from_ (T.O j)) zs).2.1 = 0) ∧
      ((T.F.write (T.O j).of (T.from_ (T.O j)) zs).2.2 = 0 → w4.cell? ⟨t, 2 + j * 5 + 2, none⟩ = some (.int .i64 (T.O j).off) ∧ w4.frozen? ⟨t, 2 + j * 5 + 2, none⟩ = false ∧ WrP w t p q Gn (WrT T j zs) (w4.setCell ⟨t, 2 + j * 5 + 2, none⟩ (.int .i64 (T.from_ (T.O j) + (T.F.write (T.O j).of (T.from_ (T.O j)) zs).2.1))))) := by
    refine hid (fun X w4 hX h => ?_)
    have hSX := hF.grow hX.out
    have hS4 := hSX.sys h (write_d _ _ _ _)
    have hs1 := hB.size
    have hs2 := hX.out.size
    have hm4 : ∀ b, (Gn b ∨ X.heap.size ≤ b) → Gn b ∨ w.heap.size ≤ b := fun b hb => by
      rcases hb with hb | hb
      · exact .inl hb
      · exact .inr (by omega)
    have hU4 : Upd (Foot t q Gn) w w4 := (Upd.of_below (hB.trans (hX.out.mono hB.size))).trans h.2 (fun b _ hb => .inr (.inr hb))
    refine ⟨fun he => ?_, fun he => ⟨?_, hS4.tf.fz _, ?_⟩⟩
    · refine ⟨⟨O0, _, ?_, hm4, hU4⟩, (fwrite_err he).2⟩
      rw [(fwrite_err he).1] at hS4
      unfold WrT
      rw [if_pos he]
      exact hS4
    · rw [hS4.tf.c2 j hj, H.at j hj hh]
    · refine ⟨updF O0 j { T.O j with off := T.from_ (T.O j) + (T.F.write (T.O j).of (T.from_ (T.O j)) zs).2.1 }, _, ?_, hm4, hU4.trans (Upd.setCell (F := Foot t q Gn) w4 ⟨t, _, none⟩ _ (.inl rfl)) (fun _ _ h => h)⟩
      have := updF_off hS4 j hj hh (T.from_ (T.O j) + (T.F.write (T.O j).of (T.from_ (T.O j)) zs).2.1)
      unfold WrT
      rw [if_neg (by rw [he]; simp)]
      exact this
  have e_ap : T.from_ (T.O j) = if dfc (T.O j).fl 4 = true then (T.F.size m : Int) else (T.O j).off := by unfold Ft.from_; rw [hm, Int.toNat_natCast]
  have a3 := a2
  rw [gW] at a3
  have HZ := hid hZ
  clear H hT hB hF c3 hZ hm hmk hth hst hs ha hh hk
  generalize WrT T j zs = T' at HJ ⊢
  generalize T.F.write (T.O j).of (T.from_ (T.O j)) zs = r at kw HJ hle ⊢
  obtain ⟨F', n, E⟩ := r
  dsimp only at kw HJ hle ⊢
  generalize T.from_ (T.O j) = fr at kw HJ hle hfr e_ap ⊢
  generalize dfc (T.O j).fl 4 = ap at k1 e_ap
  generalize (T.F.size m : Int) = sz at ks e_ap
  generalize (T.O j).off = off at a2 a3 HJ e_ap
  generalize (T.O j).of = of at a1 a3 gW ks kw ⊢
  generalize (T.O j).fl = fl at k1
  have w64 : IntKind.i64.wrap (fr + n) = fr + n := by rw [IntKind.wrap_i64]; omega
  go_enter Tryz.func216, Tryz.ntmps216
  go_wp2_with fail
  rw [← gW]
  clear gW a3
  refine k1.out.mono ?_
  rintro e w1 ⟨rfl, rfl⟩
  clear k1
  cases ap with
  | true =>
    obtain rfl : fr = sz := by simpa using e_ap
    clear e_ap
    go_wp2_with fail
    refine ks.out.mono ?_
    rintro e w2 ⟨rfl, hb2⟩
    have k3 := hid (kw.out w2 hb2)
    have x0 := (hb2.out.cell (p := ⟨w.heap.size, 0, none⟩) HZ.out).trans a0
    have x1 := (hb2.out.cell (p := ⟨w.heap.size, 1, none⟩) HZ.out).trans a1
    clear ks a0 a1 a2
    go_wp2_with fail
    refine k3.out.mono ?_
    rintro e w3 ⟨rfl, H3⟩
    obtain ⟨j1, j2⟩ := HJ.out w2 w3 hb2 H3.out
    by_cases hE : E = 0
    · subst hE
      obtain ⟨c3, f3, h4⟩ := j2 rfl
      have H4 := hid h4
      clear k3 H3 x0 x1 j1 j2 h4 HJ kw hb2
      go_wp2_with fail
      go_ret3
      exact ⟨rfl, H4.out⟩
    · obtain ⟨j3, rfl⟩ := j1 hE
      have H4 := hid j3
      have hE' : (E == 0) = false := by simpa using hE
      clear k3 H3 x0 x1 j1 j2 j3 HJ kw hb2
      go_wp2_with fail
      go_ret3
      exact ⟨rfl, H4.out⟩
  | false =>
    obtain rfl : fr = off := by simpa using e_ap
    clear e_ap ks
    have k3 := hid (kw.out w1 (hid (Below.refl _ _)))
    go_wp2_with fail
    refine k3.out.mono ?_
    rintro e w3 ⟨rfl, H3⟩
    obtain ⟨j1, j2⟩ := HJ.out w1 w3 (hid (Below.refl _ _)) H3.out
    by_cases hE : E = 0
    · subst hE
      obtain ⟨c3, f3, h4⟩ := j2 rfl
      have H4 := hid h4
      clear k3 H3 a0 a1 a2 j1 j2 h4 HJ kw
      go_wp2_with fail
      go_ret3
      exact ⟨rfl, H4.out⟩
    · obtain ⟨j3, rfl⟩ := j1 hE
      have H4 := hid j3
      have hE' : (E == 0) = false := by simpa using hE
      clear k3 H3 a0 a1 a2 j1 j2 j3 HJ kw
      go_wp2_with fail
      go_ret3
      exact ⟨rfl, H4.out⟩

end Go.Proofs.YtoknhcjneliboaaGreat

/- What Read, Write of open files do (program). -/
namespace Go.Proofs.YtoknhcjneliboaaGreat
open Go.RowKit Go.ChangeMaps Go.MapKept
set_option linter.unusedVariables false
set_option maxRecDepth 20000

theorem meth_nread : (fun (v : Value) (W : World) => (method 349 163 v "dredger/files.read").run Tryz.prog W) = (fun (v : Value) (W : World) => .ok (215, v) W) := by kernel_rfl
theorem meth_nwrite : (fun (v : Value) (W : World) => (method 349 163 v "dredger/files.write").run Tryz.prog W) = (fun (v : Value) (W : World) => .ok (216, v) W) := by kernel_rfl
theorem meth_nfrom : (fun (v : Value) (W : World) => (method 349 163 v "dredger/files.from").run Tryz.prog W) = (fun (v : Value) (W : World) => .ok (214, v) W) := by kernel_rfl
theorem meth_ndrop : (fun (v : Value) (W : World) => (method 349 163 v "dredger/files.drop").run Tryz.prog W) = (fun (v : Value) (W : World) => .ok (213, v) W) := by kernel_rfl
theorem meth_eread : (fun (v : Value) (W : World) => (method 349 161 v "dredger/files.read").run Tryz.prog W) = (fun (v : Value) (W : World) => .ok (204, v) W) := by kernel_rfl
theorem meth_ewrite : (fun (v : Value) (W : World) => (method 349 161 v "dredger/files.write").run Tryz.prog W) = (fun (v : Value) (W : World) => .ok (205, v) W) := by kernel_rfl
theorem meth_efrom : (fun (v : Value) (W : World) => (method 349 161 v "dredger/files.from").run Tryz.prog W) = (fun (v : Value) (W : World) => .ok (203, v) W) := by kernel_rfl
theorem meth_edrop : (fun (v : Value) (W : World) => (method 349 161 v "dredger/files.drop").run Tryz.prog W) = (fun (v : Value) (W : World) => .ok (202, v) W) := by kernel_rfl

theorem bodyV_node (p q : Nat) (of : Int) : bodyV p q 1 of = .iface 163 (.agg #[.pointer (some ⟨p, 0, none⟩), .int .i64 of]) := by unfold bodyV; rw [if_neg (by decide), if_neg (by decide)]
theorem bodyV_end (p q : Nat) (k of : Int) (h : k = 2 ∨ k = 3) : bodyV p q k of = .iface 161 (.agg #[.pointer (some ⟨q, 0, none⟩), .int .i64 of, .bool (decide (k = 3))]) := by
  unfold bodyV
  rcases h with rfl | rfl
  · rw [if_neg (by decide), if_pos rfl]; rfl
  · rw [if_pos rfl]; rfl
theorem k23 {T : Ft} (hT : TOk T) {i : Nat} (hh : (T.O i).h ≠ 0) (hk : (T.O i).k ≠ 1) : (T.O i).k = 2 ∨ (T.O i).k = 3 := by
  rcases hT.k i hh with h | h | h
  · exact absurd h hk
  · exact .inl h
  · exact .inr h

theorem Ts.body {w : World} {t p q : Nat} {O0 : Nat → Fl} {Gn : Nat → Prop} {T : Ft} (H : Ts w t p q O0 Gn T) (hT : TOk T) (i : Nat) (hi : i < 11) (hh : (T.O i).h ≠ 0) :
    Calls Tryz.prog 64 #[.pointer (some ⟨t, 0, none⟩), .pointer (some ⟨t, 2 + i * 5, none⟩)] w fun e w' => e = .returned (bodyV p q (T.O i).k (T.O i).of) ∧ Below w.heap.size w w' := by
  have c0 := H.tf.c0 i hi
  have c1 := H.tf.c1 i hi
  rw [H.at i hi hh] at c0 c1
  exact body_any w t p q (2 + i * 5) (T.O i).k (T.O i).of H.tf.s H.tf.p c0 c1 (hT.k i hh)

/-- What a call leaves that lays nothing new below. -/
def TpIn (w : World) (t : Nat) (T : Ft) (G : Nat → Prop) (w' : World) : Prop := Tp w' t T G ∧ Upd G w w'
theorem TpIn.same {w w' : World} {t : Nat} {T : Ft} {G : Nat → Prop} (h : Tp w t T G) (u : Below w.heap.size w w') : TpIn w t T G w' := ⟨h.grow u, Upd.of_below u⟩
theorem TpIn.of {w0 w' : World} {t q p : Nat} {O0 : Nat → Fl} {Gn G : Nat → Prop} {T : Ft} (h : Ts w' t p q O0 Gn T) (hG : ∀ b, Foot t q Gn b → G b) (u : Upd (Foot t q Gn) w0 w') : TpIn w0 t T G w' :=
  ⟨⟨p, q, O0, Gn, h, hG⟩, u.mono (fun b _ hb => hG b hb)⟩

set_option maxHeartbeats 4000000 in
theorem tpread (w : World) (t : Nat) (T : Ft) (G : Nat → Prop) (HP : Tp w t T G) (hT : TOk T) (n c : Int) (hc : c ≤ 9223372036854775807) :
    Calls Tryz.prog 21 #[.pointer (some ⟨t, 0, none⟩), .int .i64 n, .int .i64 c] w fun e w' => (∃ v, e = .returned (.tuple #[v, .bool (T.read n c).2.2.1, .int .i64 (T.read n c).2.2.2]) ∧ w'.ownsRow w.heap.size 5 1 v (T.read n c).2.1.length ((T.read n c).2.1.map (Value.int .u8))) ∧ TpIn w t (T.read n c).1 G w' := by
  have HP0 := HP
  obtain ⟨p, q, O0, Gn, H, hG⟩ := HP
  have k1 := opened_any w t p q O0 Gn T H n 1
  unfold openedV at k1
  unfold Ft.read
  cases hh : T.has n 1
  · rw [hh, if_neg (by simp)] at k1
    rw [if_pos rfl]
    have K1 := hid k1
    have HQ := hid (TpIn.same HP0 (Below.refl _ w))
    clear k1 H hG HP0 hT hh
    dsimp only
    go_enter Tryz.func21, Tryz.ntmps21
    go_wp2_with fail
    refine K1.out.mono ?_
    rintro e w1 ⟨rfl, rfl⟩
    clear K1
    go_wp2_with fail
    go_ret3
    exact ⟨⟨_, rfl, World.ownsRow_nil _ _ _ _⟩, HQ.out⟩
  · rw [hh, if_pos rfl] at k1
    rw [if_neg (by simp)]
    obtain ⟨i, rfl, h1, hi, h0, _⟩ := Ft.has_lt hh
    rw [Int.toNat_natCast] at k1 ⊢
    have K1 := hid k1
    have k2 := H.body hT i hi h0
    by_cases hk : (T.O i).k = 1
    · rw [if_neg (by rw [hk]; simp)]
      rw [hk, bodyV_node] at k2
      have K2 := hid k2
      have k3 : Hid (∀ X, Below w.heap.size w X → Calls Tryz.prog 215 #[.agg #[.pointer (some ⟨p, 0, none⟩), .int .i64 (T.O i).of], .pointer (some ⟨t, 2 + i * 5, none⟩), .int .i64 c] X fun e w' => ∃ v, e = .returned (.tuple #[v, .bool false, .int .i64 (T.F.read (T.O i).of (T.O i).off c).2]) ∧ Hid (w'.ownsRow w.heap.size 5 1 v (T.F.read (T.O i).of (T.O i).off c).1.length ((T.F.read (T.O i).of (T.O i).off c).1.map (Value.int .u8)) ∧ TpIn w t (T.at_ i { T.O i with off := (T.O i).off + ((T.F.read (T.O i).of (T.O i).off c).1.length : Int) }) G w')) := by
        refine hid (fun X hX => (fnread X t p q O0 Gn T (H.grow hX) hT i hi h0 c hc).mono ?_)
        rintro e w' ⟨⟨v, rfl, hO⟩, hS, hU⟩
        exact ⟨v, rfl, hid ⟨own_base hO hX.size, TpIn.of hS hG ((Upd.of_below hX).trans hU (fun b _ hb => .inl hb))⟩⟩
      dsimp only
      clear k1 k2 H hG HP0 hT hh
      generalize T.at_ i _ = T' at k3 ⊢
      generalize T.F.read (T.O i).of (T.O i).off c = r at k3 ⊢
      obtain ⟨L, E⟩ := r
      dsimp only at k3 ⊢
      generalize (T.O i).of = of at K2 k3
      go_enter Tryz.func21, Tryz.ntmps21
      go_wp2_with fail
      refine K1.out.mono ?_
      rintro e w1 ⟨rfl, rfl⟩
      clear K1
      go_wp2_with fail
      refine K2.out.mono ?_
      rintro e w2 ⟨rfl, hb2⟩
      have K3 := hid (k3.out w2 hb2)
      clear K2 k3 hb2
      have hm := congrFun (congrFun meth_nread (.agg #[.pointer (some ⟨p, 0, none⟩), .int .i64 of])) w2
      go_wp2_with fail
      refine K3.out.mono ?_
      rintro e w3 ⟨v, rfl, H3⟩
      clear K3 hm
      go_wp2_with fail
      go_ret3
      exact ⟨⟨v, rfl, H3.out.1⟩, H3.out.2⟩
    · rw [if_pos hk]
      rw [bodyV_end _ _ _ _ (k23 hT h0 hk)] at k2
      have K2 := hid k2
      have k3 : Hid (∀ X, Below w.heap.size w X → Calls Tryz.prog 204 #[.agg #[.pointer (some ⟨q, 0, none⟩), .int .i64 (T.O i).of, .bool (decide ((T.O i).k = 3))], .pointer (some ⟨t, 2 + i * 5, none⟩), .int .i64 c] X fun e w' => ∃ v, e = .returned (.tuple #[v, .bool (Pi.readW T.P (T.O i).of c), .int .i64 (Pi.readE T.P (T.O i).of c)]) ∧ Hid (w'.ownsRow w.heap.size 5 1 v (Pi.readL T.P (T.O i).of c).length ((Pi.readL T.P (T.O i).of c).map (Value.int .u8)) ∧ TpIn w t { T with P := Pi.readP T.P (T.O i).of c } G w')) := by
        refine hid (fun X hX => ?_)
        have hX' := H.grow hX
        refine (feread X q (T.O i).of c _ _ T.kp T.P hX'.tc).mono ?_
        rintro e w' ⟨⟨v, rfl, hO⟩, hS, hU⟩
        exact ⟨v, rfl, hid ⟨own_base hO hX.size, TpIn.of (hX'.pip hS hU) hG ((Upd.of_below hX).trans hU (fun b _ hb => .inr (.inl hb)))⟩⟩
      clear k1 k2 H hG HP0 hT hh hk
      generalize Pi.readP T.P (T.O i).of c = P' at k3 ⊢
      generalize Pi.readL T.P (T.O i).of c = L at k3 ⊢
      generalize Pi.readW T.P (T.O i).of c = W at k3 ⊢
      generalize Pi.readE T.P (T.O i).of c = E at k3 ⊢
      dsimp only
      generalize (T.O i).of = of at K2 k3
      generalize decide ((T.O i).k = 3) = wr at K2 k3
      go_enter Tryz.func21, Tryz.ntmps21
      go_wp2_with fail
      refine K1.out.mono ?_
      rintro e w1 ⟨rfl, rfl⟩
      clear K1
      go_wp2_with fail
      refine K2.out.mono ?_
      rintro e w2 ⟨rfl, hb2⟩
      have K3 := hid (k3.out w2 hb2)
      clear K2 k3 hb2
      have hm := congrFun (congrFun meth_eread (.agg #[.pointer (some ⟨q, 0, none⟩), .int .i64 of, .bool wr])) w2
      go_wp2_with fail
      refine K3.out.mono ?_
      rintro e w3 ⟨v, rfl, H3⟩
      clear K3 hm
      go_wp2_with fail
      go_ret3
      exact ⟨⟨v, rfl, H3.out.1⟩, H3.out.2⟩

end Go.Proofs.YtoknhcjneliboaaGreat

/- What Write of open files does (program). -/
namespace Go.Proofs.YtoknhcjneliboaaGreat
open Go.RowKit Go.ChangeMaps Go.MapKept
set_option linter.unusedVariables false
set_option maxRecDepth 20000

set_option maxHeartbeats 4000000 in
theorem tpwrite (w : World) (t : Nat) (T : Ft) (G : Nat → Prop) (HP : Tp w t T G) (hT : TOk T) (n : Int) (ab : Option Addr) (len cap : Nat) (zs : List Int) (hs : Src w ab len zs) (ha : ∀ b o, ab = some ⟨b, o, none⟩ → ¬ G b) :
    Calls Tryz.prog 25 #[.pointer (some ⟨t, 0, none⟩), .int .i64 n, .slice ab len cap] w fun e w' => e = .returned (.tuple #[.int .i64 (T.write n zs).2.1, .bool (T.write n zs).2.2.1, .int .i64 (T.write n zs).2.2.2]) ∧ TpTo w t (T.write n zs).1 G w' := by
  have HP0 := HP
  obtain ⟨p, q, O0, Gn, H, hG⟩ := HP
  have k1 := opened_any w t p q O0 Gn T H n 2
  unfold openedV at k1
  unfold Ft.write
  cases hh : T.has n 2
  · rw [hh, if_neg (by simp)] at k1
    rw [if_pos rfl]
    have K1 := hid k1
    have HQ := hid (TpTo.same HP0 (Below.refl _ w))
    clear k1 H hG HP0 hT hh hs ha
    dsimp only
    go_enter Tryz.func25, Tryz.ntmps25
    go_wp2_with fail
    refine K1.out.mono ?_
    rintro e w1 ⟨rfl, rfl⟩
    clear K1
    go_wp2_with fail
    go_ret3
    exact ⟨rfl, HQ.out⟩
  · rw [hh, if_pos rfl] at k1
    rw [if_neg (by simp)]
    obtain ⟨i, rfl, h1, hi, h0, _⟩ := Ft.has_lt hh
    rw [Int.toNat_natCast] at k1 ⊢
    have K1 := hid k1
    have k2 := H.body hT i hi h0
    by_cases hk : (T.O i).k = 1
    · rw [if_neg (by rw [hk]; simp)]
      rw [hk, bodyV_node] at k2
      have K2 := hid k2
      have k3 : Hid (∀ X, Below w.heap.size w X → Calls Tryz.prog 216 #[.agg #[.pointer (some ⟨p, 0, none⟩), .int .i64 (T.O i).of], .pointer (some ⟨t, 2 + i * 5, none⟩), .slice ab len cap] X fun e w' => e = .returned (.tuple #[.int .i64 (T.F.write (T.O i).of (T.from_ (T.O i)) zs).2.1, .bool false, .int .i64 (T.F.write (T.O i).of (T.from_ (T.O i)) zs).2.2]) ∧ Hid (TpTo w t (WrT T i zs) G w')) := by
        refine hid (fun X hX => ?_)
        refine (fnwrite X t p q O0 Gn T (H.grow hX) hT i hi h0 hk ab len cap zs (hs.below hX) (fun b o e hb => ha b o e (hG b (.inr (.inr hb))))).mono ?_
        rintro e w' ⟨rfl, O1, Gm, hS, hm, hU⟩
        exact ⟨rfl, hid (TpTo.of hS hG (fun b hb => (hm b hb).imp id (fun h => Nat.le_trans hX.size h)) ((Upd.of_below hX).trans hU (fun b _ hb => hb)))⟩
      have eW : ∀ (Q : Ft × Int × Bool × Int → Prop), Q (WrT T i zs, (T.F.write (T.O i).of (T.from_ (T.O i)) zs).2.1, false, (T.F.write (T.O i).of (T.from_ (T.O i)) zs).2.2) → Q (if (T.F.write (T.O i).of (T.from_ (T.O i)) zs).2.2 ≠ 0 then (T, 0, false, (T.F.write (T.O i).of (T.from_ (T.O i)) zs).2.2) else ({ T with F := (T.F.write (T.O i).of (T.from_ (T.O i)) zs).1, O := updF T.O i { T.O i with off := T.from_ (T.O i) + (T.F.write (T.O i).of (T.from_ (T.O i)) zs).2.1 } }, (T.F.write (T.O i).of (T.from_ (T.O i)) zs).2.1, false, 0)) := by
        intro Q hQ
        unfold WrT at hQ
        by_cases he : (T.F.write (T.O i).of (T.from_ (T.O i)) zs).2.2 ≠ 0
        · rw [if_pos he] at hQ ⊢
          rw [(fwrite_err he).2] at hQ
          exact hQ
        · rw [if_neg he] at hQ ⊢
          rw [Decidable.not_not.1 he] at hQ
          exact hQ
      refine eW (fun r => Calls Tryz.prog 25 #[.pointer (some ⟨t, 0, none⟩), .int .i64 (i : Int), .slice ab len cap] w fun e w' => e = .returned (.tuple #[.int .i64 r.2.1, .bool r.2.2.1, .int .i64 r.2.2.2]) ∧ TpTo w t r.1 G w') ?_
      clear eW
      dsimp only
      clear k1 k2 H hG HP0 hT hh hs ha
      generalize WrT T i zs = T' at k3 ⊢
      generalize T.F.write (T.O i).of (T.from_ (T.O i)) zs = r at k3 ⊢
      obtain ⟨F', m, E⟩ := r
      dsimp only at k3 ⊢
      generalize (T.O i).of = of at K2 k3
      go_enter Tryz.func25, Tryz.ntmps25
      go_wp2_with fail
      refine K1.out.mono ?_
      rintro e w1 ⟨rfl, rfl⟩
      clear K1
      go_wp2_with fail
      refine K2.out.mono ?_
      rintro e w2 ⟨rfl, hb2⟩
      have K3 := hid (k3.out w2 hb2)
      clear K2 k3 hb2
      have hm := congrFun (congrFun meth_nwrite (.agg #[.pointer (some ⟨p, 0, none⟩), .int .i64 of])) w2
      go_wp2_with fail
      refine K3.out.mono ?_
      rintro e w3 ⟨rfl, H3⟩
      clear K3 hm
      go_wp2_with fail
      go_ret3
      exact ⟨rfl, H3.out⟩
    · rw [if_pos hk]
      rw [bodyV_end _ _ _ _ (k23 hT h0 hk)] at k2
      have K2 := hid k2
      have hzl := hs.1
      have k3 : Hid (∀ X, Below w.heap.size w X → Calls Tryz.prog 205 #[.agg #[.pointer (some ⟨q, 0, none⟩), .int .i64 (T.O i).of, .bool (decide ((T.O i).k = 3))], .pointer (some ⟨t, 2 + i * 5, none⟩), .slice ab len cap] X fun e w' => e = .returned (.tuple #[.int .i64 (Pi.writeN T.P (T.O i).of zs.length : Int), .bool (Pi.writeW T.P (T.O i).of zs.length), .int .i64 (Pi.writeE T.P (T.O i).of)]) ∧ Hid (TpTo w t { T with P := Pi.writeP T.P (T.O i).of zs } G w')) := by
        refine hid (fun X hX => ?_)
        have hX' := H.grow hX
        rw [hzl]
        refine (fewrite X q (T.O i).of _ _ T.kp T.P hX'.tc ab len cap zs (hs.below hX)).mono ?_
        rintro e w' ⟨rfl, hS, hU⟩
        exact ⟨rfl, hid (TpTo.of (hX'.pip hS hU) hG (fun b hb => .inl hb) ((Upd.of_below hX).trans hU (fun b _ hb => .inr (.inl hb))))⟩
      clear k1 k2 H hG HP0 hT hh hk hs ha hzl
      generalize Pi.writeP T.P (T.O i).of zs = P' at k3 ⊢
      generalize Pi.writeN T.P (T.O i).of zs.length = L at k3 ⊢
      generalize Pi.writeW T.P (T.O i).of zs.length = W at k3 ⊢
      generalize Pi.writeE T.P (T.O i).of = E at k3 ⊢
      dsimp only
      generalize (T.O i).of = of at K2 k3
      generalize decide ((T.O i).k = 3) = wr at K2 k3
      go_enter Tryz.func25, Tryz.ntmps25
      go_wp2_with fail
      refine K1.out.mono ?_
      rintro e w1 ⟨rfl, rfl⟩
      clear K1
      go_wp2_with fail
      refine K2.out.mono ?_
      rintro e w2 ⟨rfl, hb2⟩
      have K3 := hid (k3.out w2 hb2)
      clear K2 k3 hb2
      have hm := congrFun (congrFun meth_ewrite (.agg #[.pointer (some ⟨q, 0, none⟩), .int .i64 of, .bool wr])) w2
      go_wp2_with fail
      refine K3.out.mono ?_
      rintro e w3 ⟨rfl, H3⟩
      clear K3 hm
      go_wp2_with fail
      go_ret3
      exact ⟨rfl, H3.out⟩

end Go.Proofs.YtoknhcjneliboaaGreat
