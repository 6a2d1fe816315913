/- Texts of this seat, merged. -/
import Derived.WalkKit
import Derived.WalkSpells
import Derived.WalkLawsBesides
import Derived.Outline
import Derived.Laws.CopyOwn
import Derived.Laws.MakeOwn
import Derived.Lib.EndianBits
import Derived.RowKit
import Derived.Test.YtoknhcjneliboaaGreatRows
import Derived.ProofKit
import Derived.OpenShut
import Derived.ShutString
import Derived.ChangeOld
import Derived.SizedLaws
import Derived.Deep.Slices
import Derived.ChangeSame

/- Laws of the walk, for whatever program: 'make([]T, n, c)' with both numbers variables, and small facts on rows of bytes. -/
namespace Go.Proofs.YtoknhcjneliboaaGreat
open Go.RowKit
set_option maxRecDepth 20000

theorem hid {p : Prop} (h : p) : Hid p := h

/-- 'make([]T, n, c)': a new row of c cells; the world is known. -/
theorem wpList_make_lc {P : Program} (w : World) {ops : Array Oper} {rest : List Oper} {o : Oper} {a : Act} {Q : Exit → Act → World → Prop}
    (hg : o.guard = none) (l c : Operand) (t : TypeId) (hop : o.op = Op.makeSlice t l c)
    (e : TypeId) (i : TypeInfo) (z : Value) (size : Nat) (h1 : P.underlying t = some (.slice e)) (h2 : P.info? e = some i) (h3 : i.zero = some z) (h4 : i.size = size)
    (kl kc : IntKind) (L C : Int) (n m : Nat) (hl : a.eval l = .int kl L) (hc : a.eval c = .int kc C) (hL : L = (n : Int)) (hC : C = (m : Int)) (hnm : n ≤ m) (b2 : i.bytes * m ≤ 281474976710656) (b3 : m ≤ maxLen)
    (hK : wpList P ops Q rest (a.put o.dst (.slice (some ⟨w.heap.size, 0, none⟩) n m)) (w.alloc (.cells (madeCells z.cells (m * size)) e))) :
    wpList P ops Q (o :: rest) a w := by
  refine wpList_plain hg fun K hK' => ?_
  subst h4
  have b3' : (m : Int) ≤ 9223372036854775807 := by simp [maxLen] at b3; omega
  have hb' : (i.bytes : Int) * (m : Int) ≤ 281474976710656 := by
    have h : ((i.bytes * m : Nat) : Int) ≤ 281474976710656 := by omega
    rwa [Int.natCast_mul] at h
  have hrun := run_make (P := P) w t e i z h1 h2 h3 kl kc n m (by omega) (by omega) hb' b3'
  simp only [Int.toNat_natCast] at hrun
  subst hL
  subst hC
  unfold Oper.wp
  simp [execOp, hop, hl, hc, hrun, Result.andThen]
  exact hK' _ _ hK

theorem below_drewN {B : Nat} {w a : World} (h : Below B w a) (n : Nat) : Below B w (a.drewN n) := ⟨h.os, h.tape, h.output, h.size, h.block⟩

/-- Bytes that lie somewhere in memory (nil and empty ones too): the numbers 'zs'. -/
def Src (w : World) (a0 : Option Addr) (len : Nat) (zs : List Int) : Prop :=
  zs.length = len ∧ (0 < len → ∃ b o, a0 = some ⟨b, o, none⟩ ∧ b < w.heap.size ∧ ∀ j, j < len → w.cell? ⟨b, o + j, none⟩ = some (.int .u8 (zs.getD j 0)))

theorem Src.nil (w : World) (a0 : Option Addr) : Src w a0 0 [] := ⟨rfl, fun h => absurd h (Nat.lt_irrefl 0)⟩

theorem Src.below {w w' : World} {a0 : Option Addr} {len : Nat} {zs : List Int} (h : Src w a0 len zs) (hb : Below w.heap.size w w') : Src w' a0 len zs :=
  ⟨h.1, fun hl => by
    obtain ⟨b, o, e, hlt, hc⟩ := h.2 hl
    exact ⟨b, o, e, Nat.lt_of_lt_of_le hlt hb.size, fun j hj => (hb.cell (p := ⟨b, o + j, none⟩) hlt).trans (hc j hj)⟩⟩

/-- A row that is owned is bytes that lie somewhere. -/
theorem Src.own {w : World} {B e g n cap : Nat} {zs : List Int} (h : w.ownsRow B e 1 (.slice (some ⟨g, 0, none⟩) n cap) n (zs.map (Value.int .u8))) : Src w (some ⟨g, 0, none⟩) n zs := by
  have hl : zs.length = n := by have := h.1; simpa using this
  refine ⟨hl, fun hn => ⟨g, 0, rfl, (h.lt g rfl).2, fun j hj => ?_⟩⟩
  have := h.cellAt j (by omega)
  rw [Nat.zero_add, this]
  simp [List.getD, List.getElem?_eq_getElem (show j < zs.length by omega)]

/-- Whoever owns a row owns it behind whatever leaves old memory. -/
theorem own_below {w w' : World} {B e size : Nat} {v : Value} {n : Nat} {xs : List Value} (h : w.ownsRow B e size v n xs) (hb : Below w.heap.size w w') : w'.ownsRow B e size v n xs := by
  obtain ⟨h1, h2⟩ := h
  refine ⟨h1, ?_⟩
  rcases h2 with h2 | ⟨g, cap, cur, hv, hg, hh, r⟩
  · exact .inl h2
  · refine .inr ⟨g, cap, cur, hv, hg, ?_, r⟩
    have hlt : g < w.heap.size := by
      rcases Nat.lt_or_ge g w.heap.size with h | h
      · exact h
      · rw [Array.getElem?_eq_none h] at hh; cases hh
    rw [hb.block g hlt]; exact hh

theorem own_base {w : World} {B B' e size n : Nat} {v : Value} {xs : List Value} (h : w.ownsRow B' e size v n xs) (hB : B ≤ B') : w.ownsRow B e size v n xs := by
  obtain ⟨h1, h2⟩ := h
  refine ⟨h1, ?_⟩
  rcases h2 with h2 | ⟨g, cap, cur, a, b, c⟩
  · exact .inl h2
  · exact .inr ⟨g, cap, cur, a, Nat.le_trans hB b, c⟩

end Go.Proofs.YtoknhcjneliboaaGreat

/- Which blocks a call turns: words for it, for whatever program; and 'copy' of elements of two cells. -/
namespace Go.Proofs.YtoknhcjneliboaaGreat
open Go.RowKit
set_option maxRecDepth 20000
set_option linter.unusedVariables false

/-- Nothing but the blocks of F turns; there may be new ones. -/
structure Upd (F : Nat → Prop) (w w' : World) : Prop where
  os : w'.os = w.os
  tape : w'.tape = w.tape
  output : w'.output = w.output
  size : w.heap.size ≤ w'.heap.size
  block : ∀ k, k < w.heap.size → ¬ F k → w'.heap[k]? = w.heap[k]?

theorem Upd.refl (F : Nat → Prop) (w : World) : Upd F w w := ⟨rfl, rfl, rfl, Nat.le_refl _, fun _ _ _ => rfl⟩

theorem Upd.trans {F G : Nat → Prop} {a b c : World} (h : Upd F a b) (k : Upd G b c) (hG : ∀ x, x < a.heap.size → G x → F x) : Upd F a c :=
  ⟨k.os.trans h.os, k.tape.trans h.tape, k.output.trans h.output, Nat.le_trans h.size k.size, fun x hx hF =>
    (k.block x (Nat.lt_of_lt_of_le hx h.size) (fun g => hF (hG x hx g))).trans (h.block x hx hF)⟩

theorem Upd.mono {F G : Nat → Prop} {a b : World} (h : Upd F a b) (hF : ∀ x, x < a.heap.size → F x → G x) : Upd G a b :=
  ⟨h.os, h.tape, h.output, h.size, fun x hx hG => h.block x hx (fun f => hG (hF x hx f))⟩

theorem Upd.of_below {F : Nat → Prop} {w w' : World} (h : Below w.heap.size w w') : Upd F w w' := ⟨h.os, h.tape, h.output, h.size, fun k hk _ => h.block k hk⟩

theorem Upd.below {F : Nat → Prop} {B : Nat} {w w' : World} (h : Upd F w w') (hB : B ≤ w.heap.size) (hF : ∀ x, F x → B ≤ x) : Below B w w' :=
  ⟨h.os, h.tape, h.output, h.size, fun k hk => h.block k (Nat.lt_of_lt_of_le hk hB) (fun f => by have := hF k f; omega)⟩

theorem Upd.of_grown {w w' : World} {row : Option Nat} (h : w.grownBy w' row) : Upd (fun k => some k = row) w w' := ⟨h.os, h.tape, h.output, h.size, fun k hk hn => h.block k hk hn⟩

theorem Upd.alloc (F : Nat → Prop) (w : World) (o : Obj) : Upd F w (w.alloc o) := Upd.of_below ((Below.refl _ _).alloc (Nat.le_refl _) o)

theorem Upd.setCell {F : Nat → Prop} (w : World) (p : Addr) (u : Value) (hp : F p.block) : Upd F w (w.setCell p u) :=
  ⟨rfl, rfl, rfl, by simp, fun k _ hk => heap_setCell_other w p k u (fun e => hk (e ▸ hp))⟩

theorem Upd.setRow {F : Nat → Prop} (w : World) (g : Nat) (cs : Array Value) (hp : F g) : Upd F w (w.setRow g cs) :=
  ⟨rfl, rfl, rfl, by simp, fun k _ hk => setRow_other w g k cs (fun e => hk (e ▸ hp))⟩

theorem Upd.drewN {F : Nat → Prop} {w a : World} (h : Upd F w a) (n : Nat) : Upd F w (a.drewN n) := ⟨h.os, h.tape, h.output, h.size, h.block⟩

theorem Upd.own {F : Nat → Prop} {w w' : World} {B e size n : Nat} {v : Value} {xs : List Value} (u : Upd F w w') (h : w.ownsRow B e size v n xs) (hF : ∀ k, v.ownBlock = some k → ¬ F k) : w'.ownsRow B e size v n xs := by
  refine ⟨h.1, ?_⟩
  rcases h.2 with hn | ⟨g, cap, cur, rfl, hb, hgg, rest⟩
  · exact .inl hn
  · refine .inr ⟨g, cap, cur, rfl, hb, ?_, rest⟩
    rw [u.block g (Array.getElem?_eq_some_iff.1 hgg).1 (hF g rfl)]
    exact hgg

theorem Upd.src {F : Nat → Prop} {w w' : World} {a : Option Addr} {n : Nat} {zs : List Int} (u : Upd F w w') (h : Src w a n zs) (hF : ∀ b o, a = some ⟨b, o, none⟩ → ¬ F b) : Src w' a n zs :=
  ⟨h.1, fun hl => by
    obtain ⟨b, o, e, hlt, hc⟩ := h.2 hl
    exact ⟨b, o, e, Nat.lt_of_lt_of_le hlt u.size, fun j hj => (World.cell?_of_block (a := ⟨b, o + j, none⟩) (u.block b hlt (hF b o e))).trans (hc j hj)⟩⟩

theorem Upd.heap {F : Nat → Prop} {w w' : World} (u : Upd F w w') {k : Nat} {o : Obj} (h : w.heap[k]? = some o) (hF : ¬ F k) : w'.heap[k]? = some o := by
  rw [u.block k (Array.getElem?_eq_some_iff.1 h).1 hF]; exact h

/-- 'copy' of elements of so many cells: all of the source are read first. -/
theorem run_copy_row2 {P : Program} (w : World) (dT sT ty elem : TypeId) (size g o dLen dCap : Nat) (a : Addr) (sLen sCap m : Nat) (cur : Array Value) (t : TypeId) (cs : List Value)
    (hu : P.underlying dT = some (.slice elem)) (hs : (P.info? elem).map (·.size) = some size)
    (hg : w.heap[g]? = some (.cells cur t (0, 0))) (hm : m = Nat.min sLen dLen) (hn : cs.length = m * size)
    (hsrc : ∀ j v, cs[j]? = some v → w.cell? (a.add j) = some v) (hfit : o + cs.length ≤ cur.size) (h1 : ∀ v ∈ cs, v.oneCell' = true) :
    (Builtin.copy_ #[dT, sT] ty #[.slice (some ⟨g, o, none⟩) dLen dCap, .slice (some a) sLen sCap]).run P w =
      .ok (goInt m) (w.setRow g (cur.toList.take o ++ cs ++ cur.toList.drop (o + cs.length)).toArray) := by
  have hl := run_loadCells_list (P := P) w a cs hsrc
  have hst := run_storeCells_at P g o t cs 0 cur w hg (by simpa using hfit) h1
  cases hq : P.info? elem with
  | none => simp [hq] at hs
  | some i =>
    have hi : i.size = size := by simpa [hq] using hs
    rw [hn] at hl
    simp [Builtin.copy_, run_underlying hu, Builtin.lenOf, Builtin.firstCells, sizeOf, typeInfo, hq, hi, ← hm, hl, hst]

theorem run_copy_none2 {P : Program} (w : World) (dT sT ty elem : TypeId) (size : Nat) (dp sp : Option Addr) (dLen dCap sLen sCap : Nat)
    (hu : P.underlying dT = some (.slice elem)) (hs : (P.info? elem).map (·.size) = some size) (hn : Nat.min sLen dLen = 0) (hsp : sp.isSome = true) (hdp : dp.isSome = true) :
    (Builtin.copy_ #[dT, sT] ty #[.slice dp dLen dCap, .slice sp sLen sCap]).run P w = .ok (goInt 0) w := by
  obtain ⟨a, rfl⟩ := Option.isSome_iff_exists.1 hsp
  obtain ⟨b, rfl⟩ := Option.isSome_iff_exists.1 hdp
  cases hq : P.info? elem with
  | none => simp [hq] at hs
  | some i =>
    have hi : i.size = size := by simpa [hq] using hs
    simp [Builtin.copy_, run_underlying hu, Builtin.lenOf, Builtin.firstCells, sizeOf, typeInfo, hq, hn, loadCells, loadCellsFrom, storeCells]

/-- 'copy' as a step of the walk: so many elements of so many cells go over, from 'off' cells on. -/
theorem wpList_copy2 {P : Program} {w : World} {ops : Array Oper} {rest : List Oper} {o : Oper} {a : Act} {Q : Exit → Act → World → Prop} (hgd : o.guard = none) (d s : Operand) (dT sT : TypeId)
    (ho : o.op = .call { callee := .builtin .copy, args := #[d, s], argTypes := #[dT, sT] }) (elem : TypeId) (size : Nat) (hu : P.underlying dT = some (.slice elem)) (hsz : (P.info? elem).map (·.size) = some size)
    (dp : Option Addr) (dLen dCap : Nat) (ad : Addr) (sLen sCap : Nat) (hd : a.eval d = .slice dp dLen dCap) (hs : a.eval s = .slice (some ad) sLen sCap)
    (m g off : Nat) (hm : m = Nat.min sLen dLen) (hdp : dp = some ⟨g, off, none⟩) (cur : List Value) (t : TypeId) (hg : w.heap[g]? = some (.cells cur.toArray t (0, 0))) (cs : List Value) (hn : cs.length = m * size)
    (hsrc : ∀ j v, cs[j]? = some v → w.cell? (ad.add j) = some v)
    (hfit : off + cs.length ≤ cur.length) (h1 : ∀ v ∈ cs, v.oneCell' = true)
    (h : ∀ w', Hid (w'.heap[g]? = some (.cells (splice cur off cs).toArray t (0, 0))) → Upd (· = g) w w' → wpList P ops Q rest (a.put o.dst (goInt m)) w') :
    wpList P ops Q (o :: rest) a w := by
  subst hdp
  refine wpList_plain hgd fun K hK => ?_
  have hrun := run_copy_row2 (P := P) w dT sT o.type elem size g off dLen dCap ad sLen sCap m cur.toArray t cs hu hsz hg hm hn hsrc (by simpa using hfit) h1
  unfold Oper.wp
  simp [execOp, ho, resolve, invoke, builtin, hd, hs, hrun, Result.andThen]
  refine hK _ _ (h _ (show _ = _ by simpa [splice] using setRow_heap w g _ _ t _ hg) ?_)
  exact Upd.setRow w g _ rfl

/-- 'append' to a row that is owned: it stays where it was, or is new. -/
theorem run_append_where {P : Program} (w : World) (t ty e : TypeId) (i : TypeInfo) (z : Value) (size bytes : Nat) (ht : P.underlying t = some (.slice e)) (hi : P.info? e = some i) (hz : i.zero = some z)
    (hsize : i.size = size) (hby : i.bytes = bytes) (hzs : z.cells.size = size) (hsz : 0 < size)
    (v : Value) (n : Nat) (xs : List Value) (hown : w.ownsRow 0 e size v n xs)
    (a : Addr) (m c : Nat) (news : List Value) (hl : news.length = m * size) (hnews : ∀ j u, news[j]? = some u → w.cell? (a.add j) = some u) (h1 : ∀ u ∈ news, u.oneCell' = true)
    (h63 : n + m ≤ maxLen) (hbytes : (n + m) * bytes ≤ 140737488355328) :
    ∃ v' w', (Builtin.append_ #[t, t] ty #[v, .slice (some a) m c]).run P w = .ok v' w' ∧ w'.ownsRow 0 e size v' (n + m) (xs ++ news) ∧ w.grownBy w' v.ownBlock ∧
      (v' = .slice none 0 0 ↔ v = .slice none 0 0 ∧ m = 0) ∧ (v'.ownBlock = v.ownBlock ∨ ∀ x, v'.ownBlock = some x → w.heap.size ≤ x) := by
  obtain ⟨v', w', hr, h2, h3, h4⟩ := run_append_own (P := P) w 0 t ty e i z size bytes ht hi hz hsize hby hzs hsz v n xs hown a m c news hl hnews h1 h63 hbytes (Nat.zero_le _)
  refine ⟨v', w', hr, h2, h3, h4, ?_⟩
  rcases hown.2 with ⟨rfl, rfl⟩ | ⟨g, cap, cur, rfl, hbg, hg, hnc, hcm, hcs, htake⟩
  · have hx : xs = [] := List.eq_nil_of_length_eq_zero (by simpa using hown.1)
    subst hx
    obtain ⟨v2, w2, hr2, k2, _⟩ := run_append_own (P := P) w w.heap.size t ty e i z size bytes ht hi hz hsize hby hzs hsz _ 0 [] (World.ownsRow_nil w w.heap.size e size) a m c news hl hnews h1 h63 hbytes (Nat.le_refl _)
    rw [hr] at hr2
    injection hr2 with e1 e2
    subst e1
    exact .inr fun x hx => (k2.lt x hx).1
  · by_cases hroom : n + m ≤ cap
    · obtain ⟨w2, hr2, _⟩ := run_append_fits (P := P) w 0 t ty e i size ht hi hsize g n cap xs hown a m c news hl hnews h1 hroom
      rw [hr] at hr2
      injection hr2 with e1 e2
      subst e1
      exact .inl rfl
    · subst hsize
      have hr2 := run_append_grow (P := P) w t ty e i z ht hi hz ⟨g, 0, none⟩ n cap xs hown.1 (hown.cells (g := g) rfl) a m c news hl hnews (by omega) (by simp only [maxLen] at h63; omega) (by rw [hby]; exact growslice_fits (by omega) hbytes)
      rw [hr] at hr2
      injection hr2 with e1 e2
      subst e1
      refine .inr fun x hx => ?_
      simp [Value.ownBlock] at hx
      omega

theorem wpList_append_where {P : Program} {w : World} {ops : Array Oper} {rest : List Oper} {o : Oper} {a : Act} {Q : Exit → Act → World → Prop} (hgd : o.guard = none) (s x : Operand) (t : TypeId)
    (ho : o.op = .call { callee := .builtin .append, args := #[s, x], argTypes := #[t, t] })
    (e : TypeId) (i : TypeInfo) (z : Value) (size bytes : Nat) (ht : P.underlying t = some (.slice e)) (hi : P.info? e = some i) (hz : i.zero = some z)
    (hsize : i.size = size) (hby : i.bytes = bytes) (hzs : z.cells.size = size) (hsz : 0 < size)
    (v : Value) (n : Nat) (xs : List Value) (hs : a.eval s = v) (hown : w.ownsRow 0 e size v n xs)
    (ad : Addr) (m c : Nat) (news : List Value) (hx : a.eval x = .slice (some ad) m c) (hl : news.length = m * size) (hnews : ∀ j u, news[j]? = some u → w.cell? (ad.add j) = some u) (h1 : ∀ u ∈ news, u.oneCell' = true)
    (h63 : n + m ≤ maxLen) (hbytes : (n + m) * bytes ≤ 140737488355328)
    (h : ∀ v' w', Hid (w'.ownsRow 0 e size v' (n + m) (xs ++ news)) → Upd (fun x => v.ownBlock = some x) w w' → Hid (v' = .slice none 0 0 ↔ v = .slice none 0 0 ∧ m = 0) → Hid (v'.ownBlock = v.ownBlock ∨ ∀ x, v'.ownBlock = some x → w.heap.size ≤ x) → wpList P ops Q rest (a.put o.dst v') w') :
    wpList P ops Q (o :: rest) a w := by
  refine wpList_plain hgd fun K hK => ?_
  obtain ⟨v', w', hr, h2, h3, h4, h5⟩ := run_append_where (P := P) w t o.type e i z size bytes ht hi hz hsize hby hzs hsz v n xs hown ad m c news hl hnews h1 h63 hbytes
  unfold Oper.wp execOp
  simp only [ho, resolve, invoke, builtin, Sem.run_bind, Sem.run_pure, Result.andThen_ok, List.map_toArray, List.map_cons, List.map_nil, hs, hx, hr]
  exact hK _ _ (h v' w' h2 ((Upd.of_grown h3).mono fun x _ hx => hx.symm) h4 h5)

end Go.Proofs.YtoknhcjneliboaaGreat

/- A list of calls of a file system, as it lies. -/
namespace Go.Proofs.YtoknhcjneliboaaGreat
open Go.RowKit
set_option linter.unusedVariables false

structure Doat (w : World) (b o i : Nat) (x0 x1 x2 x3 : Int) (t4 t5 : ByteArray) (ab : Option Addr) (lb cb : Nat) (zs : List Int) : Prop where
  c0 : w.cell? ⟨b, o + i * 7, none⟩ = some (.int .i64 x0)
  c1 : w.cell? ⟨b, o + i * 7 + 1, none⟩ = some (.int .i64 x1)
  c2 : w.cell? ⟨b, o + i * 7 + 2, none⟩ = some (.int .i64 x2)
  c3 : w.cell? ⟨b, o + i * 7 + 3, none⟩ = some (.int .i64 x3)
  c4 : w.cell? ⟨b, o + i * 7 + 4, none⟩ = some (.string t4)
  c5 : w.cell? ⟨b, o + i * 7 + 5, none⟩ = some (.string t5)
  c6 : w.cell? ⟨b, o + i * 7 + 6, none⟩ = some (.slice ab lb cb)
  b0 : -9223372036854775808 ≤ x0 ∧ x0 ≤ 9223372036854775807
  b2 : -9223372036854775808 ≤ x2 ∧ x2 ≤ 9223372036854775807
  b3 : -9223372036854775808 ≤ x3 ∧ x3 ≤ 9223372036854775807
  src : Src w ab lb zs
  le : lb ≤ cb
  lt : b < w.heap.size
  reach : lb ≤ 140737488355328
  nil : ab = none → lb = 0 ∧ cb = 0

def Dos (w : World) (al : Option Addr) (ll : Nat) : Prop :=
  0 < ll → ∃ b o, al = some ⟨b, o, none⟩ ∧ ∀ i, i < ll → ∃ x0 x1 x2 x3 t4 t5 ab lb cb zs, Doat w b o i x0 x1 x2 x3 t4 t5 ab lb cb zs

theorem Doat.below {w w' : World} {b o i : Nat} {x0 x1 x2 x3 : Int} {t4 t5 : ByteArray} {ab : Option Addr} {lb cb : Nat} {zs : List Int} (h : Doat w b o i x0 x1 x2 x3 t4 t5 ab lb cb zs) (u : Below w.heap.size w w') : Doat w' b o i x0 x1 x2 x3 t4 t5 ab lb cb zs :=
  ⟨(u.cell (p := ⟨b, _, none⟩) h.lt).trans h.c0, (u.cell (p := ⟨b, _, none⟩) h.lt).trans h.c1, (u.cell (p := ⟨b, _, none⟩) h.lt).trans h.c2, (u.cell (p := ⟨b, _, none⟩) h.lt).trans h.c3, (u.cell (p := ⟨b, _, none⟩) h.lt).trans h.c4, (u.cell (p := ⟨b, _, none⟩) h.lt).trans h.c5, (u.cell (p := ⟨b, _, none⟩) h.lt).trans h.c6, h.b0, h.b2, h.b3, h.src.below u, h.le, Nat.lt_of_lt_of_le h.lt u.size, h.reach, h.nil⟩

end Go.Proofs.YtoknhcjneliboaaGreat

/- A list of calls of a file system, as it lies, with short paths. -/
namespace Go.Proofs.YtoknhcjneliboaaGreat
open Go.RowKit
set_option linter.unusedVariables false

/-- A list of calls as it lies, with short paths. -/
def DosS (w : World) (al : Option Addr) (ll : Nat) : Prop :=
  0 < ll → ∃ b o, al = some ⟨b, o, none⟩ ∧ b < w.heap.size ∧ ∀ i, i < ll → ∃ x0 x1 x2 x3 t4 t5 ab lb cb zs, Doat w b o i x0 x1 x2 x3 t4 t5 ab lb cb zs ∧ t4.size ≤ 1048576 ∧ t5.size ≤ 1048576 ∧ (∀ z ∈ zs, 0 ≤ z ∧ z < 256) ∧ cb ≤ 9223372036854775807

end Go.Proofs.YtoknhcjneliboaaGreat

/- Plain facts about numbers as bytes, the lowest first (no program in sight): the bytes of a number, the number of bytes, and that one is the other's way back. -/
namespace Go.Proofs.YtoknhcjneliboaaGreat.Lend

/-- All of them are bytes. -/
def Bytes (zs : List Int) : Prop := ∀ z ∈ zs, 0 ≤ z ∧ z ≤ 255
theorem Bytes.at {zs : List Int} (h : Bytes zs) (i : Nat) : 0 ≤ zs.getD i 0 ∧ zs.getD i 0 ≤ 255 := by
  rcases Nat.lt_or_ge i zs.length with hi | hi
  · rw [List.getD_eq_getElem?_getD, List.getElem?_eq_getElem hi]; exact h _ (List.getElem_mem hi)
  · rw [List.getD_eq_getElem?_getD, List.getElem?_eq_none hi]; simp
theorem Bytes.drop {zs : List Int} (h : Bytes zs) (i : Nat) : Bytes (zs.drop i) := fun z hz => h z (List.mem_of_mem_drop hz)
theorem Bytes.take {zs : List Int} (h : Bytes zs) (i : Nat) : Bytes (zs.take i) := fun z hz => h z (List.mem_of_mem_take hz)
theorem Bytes.nil : Bytes [] := fun z hz => by cases hz
theorem Bytes.append {zs ys : List Int} (h : Bytes zs) (k : Bytes ys) : Bytes (zs ++ ys) := fun z hz => (List.mem_append.1 hz).elim (h z) (k z)

/-- The lowest k bytes of a number, the lowest first. -/
def le (u : Nat) : Nat → List Int
  | 0 => []
  | k + 1 => le u k ++ [((u / 256 ^ k % 256 : Nat) : Int)]
theorem length_le (u : Nat) : ∀ k, (le u k).length = k
  | 0 => rfl
  | k + 1 => by simp [le, length_le u k]
theorem le_bytes (u : Nat) : ∀ k, Bytes (le u k)
  | 0 => Bytes.nil
  | k + 1 => (le_bytes u k).append (by intro z hz; rcases List.mem_singleton.1 hz with rfl; omega)

/-- The number that bytes are, the lowest first. -/
def num : List Int → Nat
  | [] => 0
  | z :: r => z.toNat + 256 * num r
theorem num_append (xs : List Int) : ∀ ys : List Int, num (xs ++ ys) = num xs + 256 ^ xs.length * num ys := by
  induction xs with
  | nil => simp [num]
  | cons a r ih =>
    intro ys
    rw [List.cons_append, num, ih, num, List.length_cons, Nat.pow_succ, Nat.mul_add]
    have : 256 * (256 ^ r.length * num ys) = 256 ^ r.length * 256 * num ys := by rw [Nat.mul_comm (256 ^ r.length) 256, Nat.mul_assoc]
    omega
theorem num_snoc (xs : List Int) (z : Int) : num (xs ++ [z]) = num xs + 256 ^ xs.length * z.toNat := by
  rw [num_append]; simp [num]
theorem num_lt : ∀ {zs : List Int}, Bytes zs → num zs < 256 ^ zs.length
  | [], _ => by simp [num]
  | z :: r, h => by
    have h1 := h z (by simp)
    have h2 := num_lt (zs := r) (fun y hy => h y (by simp [hy]))
    rw [num, List.length_cons, Nat.pow_succ]
    omega
theorem num_le (u : Nat) : ∀ k, num (le u k) = u % 256 ^ k
  | 0 => by simp [le, num, Nat.mod_one]
  | k + 1 => by
    rw [le, num_snoc, num_le u k, length_le, Nat.pow_succ, Nat.mod_mul, Int.toNat_natCast]
theorem take_step (zs : List Int) (i : Nat) (h : i < zs.length) : zs.take (i + 1) = zs.take i ++ [zs.getD i 0] := by
  rw [List.take_add_one, List.getD_eq_getElem?_getD, List.getElem?_eq_getElem h]; rfl
theorem drop_step (zs : List Int) (i : Nat) (h : i < zs.length) : zs.drop i = zs.getD i 0 :: zs.drop (i + 1) := by
  rw [List.getD_eq_getElem?_getD, List.getElem?_eq_getElem h, List.drop_eq_getElem_cons h]; rfl
theorem pow_256 (i : Nat) : (256 : Nat) ^ i = 2 ^ (8 * i) := by rw [Nat.pow_mul]

/-- 'n | c << (8 i)' where n has i bytes: the sum. -/
theorem or_step (a i : Nat) (c : Int) (ha : a < 256 ^ i) (hc0 : 0 ≤ c) (hc : c ≤ 255) (hi : i < 8) :
    bits BinOp.or IntKind.u64 (a : Int) (c * 2 ^ (8 * i)) = ((a + 256 ^ i * c.toNat : Nat) : Int) := by
  obtain ⟨d, rfl⟩ := Int.eq_ofNat_of_zero_le hc0
  have hd : d ≤ 255 := by omega
  have h0 : ((d : Int) * 2 ^ (8 * i)) = ((2 ^ (8 * i) * d : Nat) : Int) := by rw [Int.natCast_mul, Int.natCast_pow, Int.mul_comm]; rfl
  rw [h0, pow_256] at *
  have hle : 2 ^ (8 * i) * 256 ≤ 2 ^ 64 := by
    rw [show (256 : Nat) = 2 ^ 8 by rfl, ← Nat.pow_add]; exact Nat.pow_le_pow_right (by omega) (by omega)
  have hm : 2 ^ (8 * i) * d ≤ 2 ^ (8 * i) * 255 := Nat.mul_le_mul_left _ hd
  have hp : 0 < 2 ^ (8 * i) := Nat.pow_pos (by omega)
  have h := bits_join_low .u64 64 (by decide) wraps_u64 (8 * i) (a : Int) ((2 ^ (8 * i) * d : Nat) : Int) (by omega) (by exact_mod_cast ha) (by omega) (by omega)
    (by
      rw [show ((2 : Int) ^ (8 * i)) = ((2 ^ (8 * i) : Nat) : Int) by simp, ← Int.natCast_emod, Nat.mul_mod_right]; rfl) (by omega)
  rw [h]
  simp

/-- The number as an unsigned one of 64 bits. -/
def un (n : Int) : Nat := (n % 18446744073709551616).toNat
theorem un_lt (n : Int) : un n < 18446744073709551616 := by unfold un; omega
theorem un_cast (n : Int) : (un n : Int) = n % 18446744073709551616 := by unfold un; omega
/-- An unsigned number as one with a sign. -/
theorem back (n : Int) (h0 : -9223372036854775808 ≤ n) (h1 : n ≤ 9223372036854775807) : IntKind.i64.wrap (un n : Int) = n := by
  rw [un_cast, IntKind.wrap_i64]; omega

end Go.Proofs.YtoknhcjneliboaaGreat.Lend

/- An argument of type []byte, opened: the numbers that it holds, how they lie, and how many there can be. -/
namespace Go.Proofs.YtoknhcjneliboaaGreat
open Go.ChangeShapes Go.WideShapes Go.ChangeAt Go.RowKit Lend

theorem own : ownKnob Tryz.prog.godebug = none := by kernel_rfl
theorem laidOut : laidOutB Tryz.prog = true := by kernel_rfl
theorem bytes5 : Tryz.prog.bytesOf 5 = 1 := by kernel_rfl

theorem open_bytes {H : Type} {enc : TypeId × Value → H} {W : World} {a0 : Option Addr} {len cap : Nat} {d : DataW H} {p : List MemPlace}
    (h : DataW.Trod enc Tryz.prog W 0 (fun _ => true) true 30 (.slice a0 len cap) d p) :
    ∃ zs : List Int, Src W a0 len zs ∧ Bytes zs ∧ len ≤ cap ∧ (a0 = none → cap = 0) ∧ ((cap = 0) ∨ ∃ elems spare, d = .slice elems spare ∧ elems.length + spare.length = cap) := by
  have lt : ∀ x ∈ p, x.block < W.heap.size := by obtain ⟨m, hm⟩ := h; exact DataW.trod_lt m _ _ _ hm
  obtain ⟨fuel, hf⟩ := h
  rcases open_ints Tryz.underlying30 Tryz.underlying5 (by kernel_rfl) hf with ⟨hcs, _⟩ | ⟨x, l, c, zs, hcs, _, hl, hm, hz, hx, hcell, hwz⟩
  · simp [Value.cells] at hcs
    obtain ⟨rfl, rfl, rfl⟩ := hcs
    exact ⟨[], Src.nil _ _, Bytes.nil, Nat.le_refl _, fun _ => rfl, .inl rfl⟩
  · simp [Value.cells] at hcs
    obtain ⟨rfl, rfl, rfl⟩ := hcs
    simp only [Prod.mk.injEq] at hx
    obtain ⟨rfl, rfl⟩ := hx
    simp only [if_true] at hz
    refine ⟨zs.take len, ⟨by simp; omega, fun h0 => ?_⟩, fun z hz' => ?_, hl, fun h => (by cases h), .inr ⟨_, _, rfl, by simp [lits]; omega⟩⟩
    · obtain ⟨b, off, spot⟩ := x
      have hspot : spot = none := by simpa [Addr.add] using World.cell?_spot (hcell 0 (by omega))
      subst hspot
      refine ⟨b, off, rfl, lt (.cell b off) (MemPlace.mem_row.2 ⟨0, by omega, by simp⟩), fun j hj => ?_⟩
      rw [← add_plain, hcell j (by omega)]
      simp [List.getD, hj]
    · have := bounds_u8 (hwz z (List.mem_of_mem_take hz'))
      omega

theorem reach_bytes {H : Type} {ts : List TypeId} {ds : List (DataW H)} {cap : Nat} {d : DataW H} (hsz : (DataW.weightsEach Tryz.prog ts ds).all (· ≤ reachBytes) = true) (j : Nat) (ht : ts[j]? = some 30) (hd : ds[j]? = some d)
    (h : (cap = 0) ∨ ∃ elems spare, d = .slice elems spare ∧ elems.length + spare.length = cap) : cap ≤ 140737488351232 := by
  rcases h with rfl | ⟨elems, spare, rfl, h⟩
  · omega
  · have := sized_slice hsz (j := j) (t := 30) (e := 5) ht hd Tryz.underlying30
    rw [bytes5] at this
    simp only [reachBytes] at this
    omega

end Go.Proofs.YtoknhcjneliboaaGreat

/- A list of calls of a file system, opened: with paths that are short. -/
namespace Go.Proofs.YtoknhcjneliboaaGreat
open Go.ChangeShapes Go.WideShapes Go.ChangeAt Go.RowKit Lend
set_option linter.unusedVariables false

theorem cellsDo : Tryz.prog.cellsOf 32 = 7 := by kernel_rfl

theorem one_bulk {H : Type} (d : DataW H) : 1 ≤ Rows.uptoBulk d := by
  cases d with
  | lit x => cases x <;> simp [Rows.uptoBulk]
  | _ => simp [Rows.uptoBulk]
theorem len_bulk {H : Type} : ∀ l : List (DataW H), l.length ≤ Rows.uptoBulkAll l
  | [] => Nat.zero_le _
  | d :: l => by
    rw [Rows.uptoBulkAll, List.length_cons]
    have := one_bulk d
    have := len_bulk l
    omega

theorem bulk_mem {H : Type} {d : DataW H} : ∀ {l : List (DataW H)}, d ∈ l → Rows.uptoBulk d ≤ Rows.uptoBulkAll l
  | d0 :: l, h => by
    rw [Rows.uptoBulkAll]
    rcases List.mem_cons.1 h with rfl | h
    · omega
    · have := bulk_mem h; omega

/-- Bytes within a datum. -/
theorem open_inner {H : Type} {enc : TypeId × Value → H} {W : World} {fuel : Nat} {v : Value} {y : DataW H × List MemPlace} (h : DataW.trod enc Tryz.prog W 0 (fun _ => true) true fuel 30 [v] = some y) (hbk : Rows.uptoBulk y.1 ≤ 1048576) :
    ∃ (ab : Option Addr) (lb cb : Nat) (zs : List Int), v = .slice ab lb cb ∧ Src W ab lb zs ∧ Bytes zs ∧ lb ≤ cb ∧ lb ≤ 140737488355328 ∧ (ab = none → lb = 0 ∧ cb = 0) ∧ cb ≤ 9223372036854775807 := by
  have lt : ∀ x ∈ y.2, x.block < W.heap.size := DataW.trod_lt fuel _ _ _ h
  rcases open_ints Tryz.underlying30 Tryz.underlying5 (by kernel_rfl) h with ⟨hcs, _⟩ | ⟨x, l, c, zs, hcs, _, hl, hm, hz, hx, hcell, hwz⟩
  · simp at hcs
    subst hcs
    exact ⟨none, 0, 0, [], rfl, Src.nil _ _, Bytes.nil, Nat.le_refl _, by omega, fun _ => ⟨rfl, rfl⟩, by omega⟩
  · simp at hcs
    subst hcs
    subst hx
    simp only [if_true] at hz
    simp only [Rows.uptoBulk] at hbk
    have q1 := len_bulk (H := H) (lits .u8 (zs.take l))
    have q2 : (lits .u8 (zs.take l) : List (DataW H)).length = (zs.take l).length := by simp [lits]
    rw [List.length_take] at q2
    refine ⟨some x, l, c, zs.take l, rfl, ⟨by simp; omega, fun h0 => ?_⟩, fun z hz' => ?_, hl, by omega, fun h => (by cases h), by unfold maxLen at hm; omega⟩
    · obtain ⟨b, off, spot⟩ := x
      have hspot : spot = none := by simpa [Addr.add] using World.cell?_spot (hcell 0 (by omega))
      subst hspot
      refine ⟨b, off, rfl, lt (.cell b off) (MemPlace.mem_row.2 ⟨0, by omega, by simp⟩), fun j hj => ?_⟩
      rw [← add_plain, hcell j (by omega)]
      simp [List.getD, hj]
    · have := bounds_u8 (hwz z (List.mem_of_mem_take hz'))
      omega

set_option maxRecDepth 20000 in
theorem open_dos {H : Type} {enc : TypeId × Value → H} {W : World} {al : Option Addr} {ll cl : Nat} {d : DataW H} {p : List MemPlace}
    (h : DataW.Trod enc Tryz.prog W 0 (fun _ => true) true 22 (.slice al ll cl) d p) (hbk : Rows.uptoBulk d ≤ 1048576) :
    DosS W al ll ∧ ll ≤ cl ∧ cl ≤ 9223372036854775807 := by
  have lt : ∀ x ∈ p, x.block < W.heap.size := by obtain ⟨m, hm⟩ := h; exact DataW.trod_lt m _ _ _ hm
  obtain ⟨fuel, hf⟩ := h
  rcases Deep.open_slice Tryz.underlying22 hf with ⟨hcs, _⟩ | ⟨a, l, c, m, n, D, Pl, hcs, _, hl, hm, hmm, hx, hv⟩
  · simp [Value.cells] at hcs
    obtain ⟨rfl, rfl, rfl⟩ := hcs
    exact ⟨fun h => absurd h (Nat.lt_irrefl 0), Nat.le_refl _, by omega⟩
  · simp [Value.cells] at hcs
    obtain ⟨rfl, rfl, rfl⟩ := hcs
    simp only [Prod.mk.injEq] at hx
    obtain ⟨rfl, rfl⟩ := hx
    simp only [if_true] at hmm
    have hB : ∀ i, i < ll → Rows.uptoBulk (D i) ≤ 1048576 := fun i hi => by
      have h1 := bulk_mem (List.mem_map.2 ⟨i, List.mem_range.2 hi, rfl⟩ : D i ∈ List.map D (List.range ll))
      simp only [Rows.uptoBulk] at hbk
      omega
    have each : ∀ i, i < ll → ∃ (x0 x1 x2 x3 : Int) (t4 t5 : ByteArray) (ab : Option Addr) (lb cb : Nat) (zs : List Int), W.cell? (a.add (i * 7)) = some (.int .i64 x0) ∧ W.cell? (a.add (i * 7 + 1)) = some (.int .i64 x1) ∧ W.cell? (a.add (i * 7 + 2)) = some (.int .i64 x2) ∧ W.cell? (a.add (i * 7 + 3)) = some (.int .i64 x3) ∧ W.cell? (a.add (i * 7 + 4)) = some (.string t4) ∧ W.cell? (a.add (i * 7 + 5)) = some (.string t5) ∧
        W.cell? (a.add (i * 7 + 6)) = some (.slice ab lb cb) ∧
        (-9223372036854775808 ≤ x0 ∧ x0 ≤ 9223372036854775807) ∧ (-9223372036854775808 ≤ x2 ∧ x2 ≤ 9223372036854775807) ∧ (-9223372036854775808 ≤ x3 ∧ x3 ≤ 9223372036854775807) ∧ Src W ab lb zs ∧ Bytes zs ∧ lb ≤ cb ∧ lb ≤ 140737488355328 ∧ (ab = none → lb = 0 ∧ cb = 0) ∧ t4.size ≤ 1048576 ∧ t5.size ≤ 1048576 ∧ cb ≤ 9223372036854775807 := by
      intro i hi
      obtain ⟨cs', h1, h2⟩ := hv i (by omega)
      rw [cellsDo] at h1
      obtain ⟨_, hlen, hcell⟩ := World.cells?_some h1
      have hBi := hB i hi
      obtain ⟨xs, k, hk, hxy, _, hxl, hf⟩ := DataW.trod_struct Tryz.underlying32 h2
      match xs, hxl, cs', hlen with
      | [y0, y1, y2, y3, y4, y5, y6], _, [v0, v1, v2, v3, v4, v5, v6], _ =>
        have g0 := hf 0 _ rfl
        have g1 := hf 1 _ rfl
        have g2 := hf 2 _ rfl
        have g3 := hf 3 _ rfl
        have g4 := hf 4 _ rfl
        have g5 := hf 5 _ rfl
        have g6 := hf 6 _ rfl
        have c3 : Tryz.prog.cellsOf 3 = 1 := by kernel_rfl
        have c9 : Tryz.prog.cellsOf 9 = 1 := by kernel_rfl
        have cb : Tryz.prog.cellsOf 30 = 1 := by kernel_rfl
        simp [c3, c9, cb] at g0 g1 g2 g3 g4 g5 g6
        have e0 := hcell 0 (by omega)
        have e1 := hcell 1 (by omega)
        have e2 := hcell 2 (by omega)
        have e3 := hcell 3 (by omega)
        have e4 := hcell 4 (by omega)
        have e5 := hcell 5 (by omega)
        have e6 := hcell 6 (by omega)
        rw [Deep.add_add] at e0 e1 e2 e3 e4 e5 e6
        obtain ⟨x0, r0, _, w0⟩ := DataW.trod_int Tryz.underlying3 g0
        obtain ⟨x1, r1, _, w1⟩ := DataW.trod_int Tryz.underlying3 g1
        obtain ⟨x2, r2, _, w2⟩ := DataW.trod_int Tryz.underlying3 g2
        obtain ⟨x3, r3, _, w3⟩ := DataW.trod_int Tryz.underlying3 g3
        obtain ⟨t4, r4, q4⟩ := DataW.trod_string Tryz.underlying9 g4
        obtain ⟨t5, r5, q5⟩ := DataW.trod_string Tryz.underlying9 g5
        simp at r0 r1 r2 r3 r4 r5
        simp only [Prod.mk.injEq] at hxy
        rw [hxy.1] at hBi
        rw [q4.1, q5.1] at hBi
        simp only [List.map_cons, List.map_nil, Rows.uptoBulk, Rows.uptoBulkAll] at hBi
        have s4 : t4.data.toList.length = t4.size := by simp
        have s5 : t5.data.toList.length = t5.size := by simp
        obtain ⟨ab, lb, cb', zs, r6, hs, hby, hl1, hl2, hl3, hl4⟩ := open_inner g6 (by omega)
        subst r0; subst r1; subst r2; subst r3; subst r4; subst r5; subst r6
        exact ⟨x0, x1, x2, x3, t4, t5, ab, lb, cb', zs, by simpa using e0, by simpa using e1, by simpa using e2, by simpa using e3, by simpa using e4, by simpa using e5, by simpa using e6, bounds_i64 w0, bounds_i64 w2, bounds_i64 w3, hs, hby, hl1, hl2, hl3, by omega, by omega, hl4⟩
    refine ⟨fun h0 => ?_, hl, by unfold maxLen at hm; omega⟩
    obtain ⟨b, o, spot⟩ := a
    have hspot : spot = none := by
      obtain ⟨x0, _, _, _, _, _, _, _, _, _, h1, _⟩ := each 0 h0
      simpa [Addr.add] using World.cell?_spot h1
    subst hspot
    have hlt := lt (.cell b o) (List.mem_append.2 (.inl (MemPlace.mem_row.2 ⟨0, by rw [cellsDo]; omega, by simp⟩)))
    refine ⟨b, o, rfl, hlt, fun i hi => ?_⟩
    obtain ⟨x0, x1, x2, x3, t4, t5, ab, lb, cb, zs, h0, h1, h2, h3, h4, h5, h6, b0, b2, b3, hs, hby, hl1, hl2, hl3, hs4, hs5, hl4⟩ := each i hi
    rw [add_plain] at h0 h1 h2 h3 h4 h5 h6
    exact ⟨x0, x1, x2, x3, t4, t5, ab, lb, cb, zs, ⟨h0, h1, h2, h3, h4, h5, h6, b0, b2, b3, hs, hl1, hlt, hl2, hl3⟩, hs4, hs5, fun z hz => by have := hby z hz; omega, hl4⟩

end Go.Proofs.YtoknhcjneliboaaGreat

/- Paths and file systems without memory: a path's names; what a walk along them comes to. -/
namespace Go.Proofs.YtoknhcjneliboaaGreat
set_option linter.unusedVariables false

/-- A text's pieces between slashes. -/
def spl : List UInt8 → List (List UInt8)
  | [] => [[]]
  | c :: r => if c = 47 then [] :: spl r else match spl r with
    | x :: xs => (c :: x) :: xs
    | [] => [[c]]
theorem spl_ne : ∀ l, spl l ≠ []
  | [] => by simp [spl]
  | c :: r => by
    unfold spl
    split
    · simp
    · split <;> simp
/-- How many bytes stand ahead of the first slash. -/
def upto : List UInt8 → Nat
  | [] => 0
  | c :: r => if c = 47 then 0 else upto r + 1
theorem upto_le : ∀ l, upto l ≤ l.length
  | [] => by simp [upto]
  | c :: r => by
    have := upto_le r
    unfold upto
    split <;> simp <;> omega
theorem spl_no : ∀ l, upto l = l.length → spl l = [l]
  | [], _ => rfl
  | c :: r, h => by
    unfold upto at h
    unfold spl
    split at h
    · simp at h
    · rename_i hc
      rw [if_neg hc, spl_no r (by simpa using h)]
theorem spl_yes : ∀ l, upto l < l.length → spl l = l.take (upto l) :: spl (l.drop (upto l + 1))
  | [], h => by simp [upto] at h
  | c :: r, h => by
    by_cases hc : c = 47
    · simp [upto, spl, hc]
    · have e : upto (c :: r) = upto r + 1 := by simp [upto, hc]
      rw [e] at h ⊢
      have h2 := spl_yes r (by simpa using h)
      simp [spl, hc, h2]
theorem mem_spl : ∀ l, ∀ s ∈ spl l, (47 : UInt8) ∉ s
  | [], s, h => by simp [spl] at h; subst h; simp
  | c :: r, s, h => by
    have ih := mem_spl r
    unfold spl at h
    split at h
    · rcases List.mem_cons.1 h with e | h
      · subst e; simp
      · exact ih s h
    · rename_i hc
      split at h
      · rename_i x xs e
        rcases List.mem_cons.1 h with e' | h
        · subst e'
          have := ih x (by rw [e]; simp)
          simp only [List.mem_cons, not_or]
          exact ⟨fun e => hc e.symm, this⟩
        · exact ih s (by rw [e]; simp [h])
      · rename_i e
        exact absurd e (spl_ne r)
/-- Two texts with the same pieces are one. -/
theorem spl_inj : ∀ l m, spl l = spl m → l = m
  | [], [], _ => rfl
  | [], d :: t, h => by
    unfold spl at h
    split at h
    · rename_i hd
      have := spl_ne t
      simp at h
      exact absurd h this
    · split at h <;> simp at h
  | c :: r, [], h => by
    unfold spl at h
    split at h
    · have := spl_ne r
      simp at h
      exact absurd h this
    · split at h <;> simp at h
  | c :: r, d :: t, h => by
    by_cases hc : c = 47 <;> by_cases hd : d = 47
    · subst hc; subst hd
      simp [spl] at h
      rw [spl_inj r t h]
    · exfalso
      have := spl_ne t
      simp only [spl, hc, hd, if_true, if_false] at h
      split at h <;> simp at h
    · exfalso
      simp only [spl, hc, hd, if_true, if_false] at h
      split at h <;> simp at h
    · simp only [spl, hc, hd, if_false] at h
      split at h
      · split at h
        · rename_i x xs e1 _ y ys e2
          simp at h
          obtain ⟨⟨h1, h2⟩, h3⟩ := h
          rw [h1, spl_inj r t (by rw [e1, e2, h2, h3])]
        · rename_i e
          exact absurd e (spl_ne t)
      · rename_i e
        exact absurd e (spl_ne r)

/-- A walk: the kinds of nodes, what names name, where it stands, the way there, the names that are left. An error; or the way, the last name, what it names. -/
def wk (K : Nat → Int) (N : Nat → List UInt8 → Nat) : Nat → List Nat → List (List UInt8) → Except Int (List Nat × List UInt8 × Nat)
  | _, _, [] => .error 0
  | n, y, s :: r =>
    if K n = 0 then .error 2 else if K n ≠ 2 then .error 20 else if s = [] then .error 22 else if 6 < s.length then .error 36 else
    match r with
    | [] => .ok (y ++ [n], s, N n s)
    | q :: t => wk K N (N n s) (y ++ [n]) (q :: t)

/-- Another mark at a number; how many of the first numbers are marked. -/
def updT (T : Nat → Bool) (i : Nat) (x : Bool) : Nat → Bool := fun j => if j = i then x else T j
theorem updT_same (T : Nat → Bool) (i : Nat) (x : Bool) : updT T i x i = x := by simp [updT]
theorem updT_ne (T : Nat → Bool) (i j : Nat) (x : Bool) (h : j ≠ i) : updT T i x j = T j := by simp [updT, h]
def cnt (T : Nat → Bool) : Nat → Nat
  | 0 => 0
  | n + 1 => cnt T n + if T n then 1 else 0
theorem cnt_out (T : Nat → Bool) (b : Nat) (x : Bool) : ∀ n, n ≤ b → cnt (updT T b x) n = cnt T n
  | 0, _ => rfl
  | n + 1, h => by
    unfold cnt
    rw [cnt_out T b x n (by omega), updT_ne _ _ _ _ (by omega)]
theorem cnt_set (T : Nat → Bool) (b : Nat) (hb : T b = false) : ∀ n, b < n → cnt (updT T b true) n = cnt T n + 1
  | 0, h => by omega
  | n + 1, h => by
    unfold cnt
    by_cases e : n = b
    · subst e; rw [cnt_out _ _ _ _ (Nat.le_refl _), updT_same, hb]; simp
    · rw [cnt_set T b hb n (by omega), updT_ne _ _ _ _ e]; omega
theorem cnt_clr (T : Nat → Bool) (b : Nat) (hb : T b = true) : ∀ n, b < n → cnt (updT T b false) n + 1 = cnt T n
  | 0, h => by omega
  | n + 1, h => by
    unfold cnt
    by_cases e : n = b
    · subst e; rw [cnt_out _ _ _ _ (Nat.le_refl _), updT_same, hb]; simp
    · have := cnt_clr T b hb n (by omega)
      rw [updT_ne _ _ _ _ e]; omega
theorem cnt_full (T : Nat → Bool) : ∀ n, (∀ c, 1 ≤ c → c < n → T c = true) → n ≤ cnt T n + 1
  | 0, _ => by omega
  | n + 1, h => by
    have := cnt_full T n (fun c h1 h2 => h c h1 (by omega))
    unfold cnt
    by_cases e : n = 0
    · subst e; omega
    · rw [h n (by omega) (by omega)]; simp; omega
theorem cnt_le (T : Nat → Bool) : ∀ n, cnt T n ≤ n
  | 0 => Nat.le_refl _
  | n + 1 => by
    have := cnt_le T n
    unfold cnt
    split <;> omega

end Go.Proofs.YtoknhcjneliboaaGreat

/- A file system without memory: what each call of it comes to. -/
namespace Go.Proofs.YtoknhcjneliboaaGreat
open Go.RowKit
set_option linter.unusedVariables false

/-- A file or a directory: its kind, links, who holds it, its bytes, its blocks, its names in order. -/
structure Fn where
  k : Int
  l : Int
  h : Int
  c : List Int
  B : List Nat
  Q : List (List UInt8 × Nat)
def Fn.no : Fn := ⟨0, 0, 0, [], [], []⟩
def Fn.nu (k : Int) : Fn := ⟨k, 1, 0, [], [], []⟩

/-- Its defects, its nodes by their numbers, which blocks are allocated. -/
structure Fs where
  d : Int
  P : Nat → Fn
  T : Nat → Bool

/-- What a list of names says of a name; with one more; without one. -/
def lk : List (List UInt8 × Nat) → List UInt8 → Nat
  | [], _ => 0
  | x :: r, s => if x.1 = s then x.2 else lk r s
def gtB (a b : List UInt8) : Bool := !(Op.bytesLess a b || a == b)
def ins (s : List UInt8) (n : Nat) : List (List UInt8 × Nat) → List (List UInt8 × Nat)
  | [] => [(s, n)]
  | x :: r => if gtB x.1 s = true then (s, n) :: x :: r else x :: ins s n r
def del (s : List UInt8) (Q : List (List UInt8 × Nat)) : List (List UInt8 × Nat) := Q.filter (fun x => decide (x.1 ≠ s))

/-- Whether a defect is there. -/
def dfc (d b : Int) : Bool := decide (bits .and .i64 d b ≠ 0)

namespace Fs
def at_ (F : Fs) (i : Nat) (x : Fn) : Fs := { F with P := fun j => if j = i then x else F.P j }
def nq (F : Fs) (i : Nat) (Q : List (List UInt8 × Nat)) : Fs := F.at_ i { F.P i with Q := Q }
def addn (F : Fs) (i : Nat) (s : List UInt8) (n : Nat) : Fs := F.nq i (ins s n (F.P i).Q)
def deln (F : Fs) (i : Nat) (s : List UInt8) : Fs := F.nq i (del s (F.P i).Q)
def lnk (F : Fs) (i : Nat) (l : Int) : Fs := F.at_ i { F.P i with l := l }
def hld (F : Fs) (i : Nat) (h : Int) : Fs := F.at_ i { F.P i with h := h }
def relB (F : Fs) (B : List Nat) : Fs := if dfc F.d 2 = true then F else { F with T := fun b => if b ∈ B then false else F.T b }
/-- A node goes that nothing keeps. -/
def gone (F : Fs) (n : Nat) : Fs := if 0 < (F.P n).l ∨ 0 < (F.P n).h then F else (F.relB (F.P n).B).at_ n Fn.no
/-- A link less. -/
def less (F : Fs) (n : Nat) : Fs := (F.lnk n ((F.P n).l - 1)).gone n

def dirOf (y : List Nat) : Nat := y.getLastD 0
def K (F : Fs) (i : Nat) : Int := (F.P i).k
def N (F : Fs) (i : Nat) (s : List UInt8) : Nat := lk (F.P i).Q s
def walk (F : Fs) (l : List UInt8) : Except Int (List Nat × List UInt8 × Nat) := if l.head? = some 47 ∧ l ≠ [47] then wk F.K F.N 1 [] (spl (l.drop 1)) else .error 22
def find (F : Fs) (l : List UInt8) : Nat × Int := if l = [47] then (1, 0) else match F.walk l with
  | .error e => (0, e)
  | .ok (_, _, n) => if n = 0 then (0, 2) else (n, 0)

/-- The lowest number of 1 to 16 that no node has; 0: there is none. -/
def free (F : Fs) : Nat := ((List.range' 1 16).find? (fun i => decide ((F.P i).k = 0))).getD 0

def make (F : Fs) (l : List UInt8) (kind : Int) : Fs × Nat × Int :=
  if kind ≠ 1 ∧ kind ≠ 2 then (F, 0, 22) else match F.walk l with
  | .error e => (F, 0, e)
  | .ok (y, s, n) => if n ≠ 0 then (F, 0, 17) else if 6 ≤ (F.P (dirOf y)).Q.length then (F, 0, 28) else if F.free = 0 then (F, 0, 28) else
    ((F.at_ F.free (Fn.nu kind)).addn (dirOf y) s F.free, F.free, 0)

def unlink (F : Fs) (l : List UInt8) : Fs × Int := match F.walk l with
  | .error e => (F, e)
  | .ok (y, s, n) => if n = 0 then (F, 2) else if (F.P n).k = 2 then (F, 21) else if 1 < (F.P n).l ∧ dfc F.d 1 = true then (F.deln (dirOf y) s, 0) else ((F.deln (dirOf y) s).less n, 0)

/-- What keeps a directory from being taken away. -/
def stays (F : Fs) (n : Nat) : Int := if 0 < (F.P n).Q.length then 39 else if 0 < (F.P n).h then 22 else 0

def rmdir (F : Fs) (l : List UInt8) : Fs × Int := match F.walk l with
  | .error e => (F, e)
  | .ok (y, s, n) => if n = 0 then (F, 2) else if (F.P n).k ≠ 2 then (F, 20) else if F.stays n ≠ 0 then (F, F.stays n) else ((F.deln (dirOf y) s).less n, 0)

def link (F : Fs) (l m : List UInt8) : Fs × Int :=
  if (F.find l).2 ≠ 0 then (F, (F.find l).2) else if (F.P (F.find l).1).k = 2 then (F, 1) else match F.walk m with
  | .error e => (F, e)
  | .ok (y, s, n) => if n ≠ 0 then (F, 17) else if 6 ≤ (F.P (dirOf y)).Q.length then (F, 28) else
    ((F.lnk (F.find l).1 ((F.P (F.find l).1).l + 1)).addn (dirOf y) s (F.find l).1, 0)

/-- What keeps a node from taking another one's name. -/
def over (F : Fs) (n m : Nat) : Int := if (F.P m).k = 2 then (if (F.P n).k = 2 then F.stays m else 21) else if (F.P n).k = 2 then 20 else 0

def rename (F : Fs) (l m : List UInt8) : Fs × Int := match F.walk l with
  | .error e => (F, e)
  | .ok (y, s, n) => if n = 0 then (F, 2) else match F.walk m with
    | .error e => (F, e)
    | .ok (y2, s2, n2) => if n2 = n then (F, 0) else if n2 ≠ 0 ∧ F.over n n2 ≠ 0 then (F, F.over n n2) else if n ∈ y2 then (F, 22) else
      if n2 = 0 ∧ dirOf y2 ≠ dirOf y ∧ 6 ≤ (F.P (dirOf y2)).Q.length then (F, 28) else
      if n2 ≠ 0 ∧ dfc F.d 4 = false then ((((F.deln (dirOf y) s).deln (dirOf y2) s2).addn (dirOf y2) s2 n).less n2, 0)
      else (((F.deln (dirOf y) s).deln (dirOf y2) s2).addn (dirOf y2) s2 n, 0)

def there (F : Fs) (n : Int) : Bool := decide (1 ≤ n ∧ n ≤ 16 ∧ (F.P n.toNat).k ≠ 0)
def size (F : Fs) (n : Nat) : Nat := (F.P n).c.length + (F.P n).Q.length
/-- The error of a number that must be a file's. -/
def file (F : Fs) (n : Int) : Int := if F.there n = false then 2 else if (F.P n.toNat).k = 2 then 21 else 0

def stat (F : Fs) (n : Int) : Int × Int × Int × Int := if F.there n = false then (0, 0, 0, 2) else ((F.P n.toNat).k, (F.P n.toNat).l, (F.size n.toNat : Int), 0)
def hold (F : Fs) (n : Int) : Fs × Int := if F.there n = false then (F, 2) else if 1000 ≤ (F.P n.toNat).h then (F, 11) else (F.hld n.toNat ((F.P n.toNat).h + 1), 0)
def drop (F : Fs) (n : Int) : Fs × Int := if F.there n = false then (F, 2) else if (F.P n.toNat).h = 0 then (F, 22) else ((F.hld n.toNat ((F.P n.toNat).h - 1)).gone n.toNat, 0)

def read (F : Fs) (n off cnt : Int) : List Int × Int := if F.file n ≠ 0 then ([], F.file n) else if off < 0 ∨ cnt < 0 then ([], 22) else (((F.P n.toNat).c.drop off.toNat).take cnt.toNat, 0)

/-- How many blocks so many bytes need; the free ones. -/
def need (s : Nat) : Nat := (s + 15) / 16
def frees (F : Fs) : List Nat := (List.range' 1 24).filter (fun b => !F.T b)
/-- Whether a file can have so many bytes; with blocks for them. -/
def fits (F : Fs) (n : Nat) (s : Nat) : Bool := decide (need s - (F.P n).B.length ≤ F.frees.length)
def grow (F : Fs) (n : Nat) (s : Nat) : Fs :=
  { F.at_ n { F.P n with B := (F.P n).B ++ F.frees.take (need s - (F.P n).B.length) } with T := fun b => if b ∈ F.frees.take (need s - (F.P n).B.length) then true else F.T b }
def ct (F : Fs) (n : Nat) (c : List Int) : Fs := F.at_ n { F.P n with c := c }
/-- Bytes over others, from a place on. -/
def lay (c : List Int) (off : Nat) (b : List Int) : List Int := (c ++ List.replicate (off + b.length - c.length) 0).take off ++ b ++ c.drop (off + b.length)

def write (F : Fs) (n off : Int) (b : List Int) : Fs × Int × Int :=
  if F.file n ≠ 0 then (F, 0, F.file n) else if off < 0 then (F, 0, 22) else if b = [] then (F, 0, 0) else if 96 < off + (b.length : Int) then (F, 0, 27) else
  if F.fits n.toNat (max (F.P n.toNat).c.length (off.toNat + b.length)) = false then (F, 0, 28) else
  ((F.grow n.toNat (max (F.P n.toNat).c.length (off.toNat + b.length))).ct n.toNat (lay (F.P n.toNat).c off.toNat b), (b.length : Int), 0)

def resize (F : Fs) (n z : Int) : Fs × Int :=
  if F.file n ≠ 0 then (F, F.file n) else if z < 0 then (F, 22) else if 96 < z then (F, 27) else
  if z.toNat < (F.P n.toNat).c.length then (((F.relB ((F.P n.toNat).B.drop (need z.toNat))).at_ n.toNat { F.P n.toNat with c := (F.P n.toNat).c.take z.toNat, B := (F.P n.toNat).B.take (need z.toNat) }), 0) else
  if F.fits n.toNat z.toNat = false then (F, 28) else
  ((F.grow n.toNat z.toNat).ct n.toNat ((F.P n.toNat).c ++ List.replicate (z.toNat - (F.P n.toNat).c.length) 0), 0)
end Fs

/-- The root alone. -/
def rootF (d : Int) : Fs := ⟨d, fun i => if i = 1 then Fn.nu 2 else Fn.no, fun _ => false⟩

end Go.Proofs.YtoknhcjneliboaaGreat

/- Lists of names in order: what they say, with one more, without one. -/
namespace Go.Proofs.YtoknhcjneliboaaGreat
set_option linter.unusedVariables false

theorem bless_irr : ∀ a, Op.bytesLess a a = false
  | [] => rfl
  | x :: a => by simp [Op.bytesLess, bless_irr a]
theorem bless_tr : ∀ a b c, Op.bytesLess a b = true → Op.bytesLess b c = true → Op.bytesLess a c = true
  | _, [], c, h, _ => by cases ‹List UInt8› <;> simp [Op.bytesLess] at h
  | [], y :: b, [], _, h => by simp [Op.bytesLess] at h
  | [], y :: b, z :: c, _, _ => rfl
  | x :: a, y :: b, [], _, h => by simp [Op.bytesLess] at h
  | x :: a, y :: b, z :: c, h1, h2 => by
    simp only [Op.bytesLess, Bool.or_eq_true, decide_eq_true_eq, Bool.and_eq_true, beq_iff_eq] at h1 h2 ⊢
    rcases h1 with h1 | ⟨rfl, h1⟩
    · rcases h2 with h2 | ⟨rfl, h2⟩
      · exact .inl (UInt8.lt_trans h1 h2)
      · exact .inl h1
    · rcases h2 with h2 | ⟨rfl, h2⟩
      · exact .inl h2
      · exact .inr ⟨rfl, bless_tr a b c h1 h2⟩
theorem bless_tot : ∀ a b, a ≠ b → Op.bytesLess a b = false → Op.bytesLess b a = true
  | [], [], h, _ => absurd rfl h
  | [], y :: b, _, h => by simp [Op.bytesLess] at h
  | x :: a, [], _, _ => rfl
  | x :: a, y :: b, h, h1 => by
    simp only [Op.bytesLess, Bool.or_eq_false_iff, decide_eq_false_iff_not, Bool.and_eq_false_iff, beq_eq_false_iff_ne, Bool.or_eq_true, decide_eq_true_eq, Bool.and_eq_true, beq_iff_eq] at h1 ⊢
    obtain ⟨h2, h3⟩ := h1
    by_cases e : x = y
    · subst e
      refine .inr ⟨rfl, bless_tot a b (fun q => h (by rw [q])) ?_⟩
      rcases h3 with h3 | h3
      · exact absurd rfl h3
      · exact h3
    · refine .inl ?_
      rcases Nat.lt_trichotomy x.toNat y.toNat with q | q | q
      · exact absurd (UInt8.lt_iff_toNat_lt.2 q) h2
      · exact absurd (UInt8.toNat_inj.1 q) e
      · exact UInt8.lt_iff_toNat_lt.2 q
theorem gtB_iff (a b : List UInt8) : gtB a b = true ↔ Op.bytesLess b a = true := by
  unfold gtB
  simp only [Bool.not_eq_true', Bool.or_eq_false_iff, beq_eq_false_iff_ne]
  constructor
  · rintro ⟨h1, h2⟩; exact bless_tot a b h2 h1
  · intro h
    refine ⟨?_, fun e => by rw [e, bless_irr] at h; simp at h⟩
    cases q : Op.bytesLess a b with
    | false => rfl
    | true => have := bless_tr a b a q h; rw [bless_irr] at this; simp at this

/-- In order, each name once. -/
def Srt (Q : List (List UInt8 × Nat)) : Prop := Q.Pairwise (fun x y => Op.bytesLess x.1 y.1 = true)

theorem lk_cons (x : List UInt8 × Nat) (r : List (List UInt8 × Nat)) (s : List UInt8) : lk (x :: r) s = if x.1 = s then x.2 else lk r s := rfl
theorem lk_zero {Q : List (List UInt8 × Nat)} {s : List UInt8} (h : ∀ x ∈ Q, x.1 ≠ s) : lk Q s = 0 := by
  induction Q with
  | nil => rfl
  | cons x r ih =>
    unfold lk
    rw [if_neg (h x (by simp))]
    exact ih (fun y hy => h y (by simp [hy]))
theorem lk_mem {Q : List (List UInt8 × Nat)} {s : List UInt8} (h : lk Q s ≠ 0) : (s, lk Q s) ∈ Q := by
  induction Q with
  | nil => simp [lk] at h
  | cons x r ih =>
    unfold lk at h ⊢
    split
    · rename_i e; subst e; simp
    · rename_i e; rw [if_neg e] at h; exact List.mem_cons_of_mem _ (ih h)
theorem lk_of {Q : List (List UInt8 × Nat)} (hS : Srt Q) {x : List UInt8 × Nat} (h : x ∈ Q) : lk Q x.1 = x.2 := by
  induction Q with
  | nil => simp at h
  | cons y r ih =>
    obtain ⟨h1, h2⟩ := List.pairwise_cons.1 hS
    rcases List.mem_cons.1 h with e | h
    · subst e; simp [lk]
    · unfold lk
      have : y.1 ≠ x.1 := fun e => by have := h1 x h; rw [e, bless_irr] at this; simp at this
      rw [if_neg this]
      exact ih h2 h
theorem no_key {Q : List (List UInt8 × Nat)} (hS : Srt Q) (hv : ∀ x ∈ Q, x.2 ≠ 0) {s : List UInt8} (h : lk Q s = 0) : ∀ x ∈ Q, x.1 ≠ s := fun x hx e => by
  have := lk_of hS hx
  rw [e, h] at this
  exact hv x hx this.symm

theorem mem_ins {s : List UInt8} {n : Nat} {Q : List (List UInt8 × Nat)} {x : List UInt8 × Nat} : x ∈ ins s n Q ↔ x = (s, n) ∨ x ∈ Q := by
  induction Q with
  | nil => simp [ins]
  | cons y r ih =>
    unfold ins
    split
    · simp
    · simp only [List.mem_cons, ih]
      constructor <;> (intro h; rcases h with h | h | h <;> simp [h])
theorem len_ins (s : List UInt8) (n : Nat) (Q : List (List UInt8 × Nat)) : (ins s n Q).length = Q.length + 1 := by
  induction Q with
  | nil => rfl
  | cons y r ih => unfold ins; split <;> simp [ih]
theorem srt_ins {s : List UInt8} {n : Nat} {Q : List (List UInt8 × Nat)} (hS : Srt Q) (hk : ∀ x ∈ Q, x.1 ≠ s) : Srt (ins s n Q) := by
  induction Q with
  | nil => simp [ins, Srt]
  | cons y r ih =>
    obtain ⟨h1, h2⟩ := List.pairwise_cons.1 hS
    unfold ins
    split
    · rename_i hg
      rw [gtB_iff] at hg
      refine List.pairwise_cons.2 ⟨fun x hx => ?_, hS⟩
      rcases List.mem_cons.1 hx with e | hx
      · subst e; exact hg
      · exact bless_tr _ _ _ hg (h1 x hx)
    · rename_i hg
      refine List.pairwise_cons.2 ⟨fun x hx => ?_, ih h2 (fun x hx => hk x (by simp [hx]))⟩
      rcases mem_ins.1 hx with e | hx
      · subst e
        show Op.bytesLess y.1 s = true
        cases q : Op.bytesLess y.1 s with
        | true => rfl
        | false =>
          exact absurd ((gtB_iff _ _).2 (bless_tot _ _ (hk y (by simp)) q)) hg
      · exact h1 x hx
theorem lk_ins {s : List UInt8} {n : Nat} {Q : List (List UInt8 × Nat)} (hk : ∀ x ∈ Q, x.1 ≠ s) (t : List UInt8) : lk (ins s n Q) t = if t = s then n else lk Q t := by
  induction Q with
  | nil => by_cases e : t = s <;> simp [ins, lk, e]; exact fun q => absurd q.symm e
  | cons y r ih =>
    have h1 := hk y (by simp)
    have h2 := ih (fun x hx => hk x (by simp [hx]))
    unfold ins
    split
    · by_cases e : t = s
      · subst e; simp [lk]
      · rw [if_neg e, lk_cons, if_neg (fun q => e q.symm)]
    · rw [lk_cons, lk_cons, h2]
      by_cases e : y.1 = t
      · have : t ≠ s := fun q => h1 (e.trans q)
        simp [e, this]
      · simp [e]
theorem mem_del {s : List UInt8} {Q : List (List UInt8 × Nat)} {x : List UInt8 × Nat} : x ∈ del s Q ↔ x ∈ Q ∧ x.1 ≠ s := by simp [del]
theorem srt_del {s : List UInt8} {Q : List (List UInt8 × Nat)} (hS : Srt Q) : Srt (del s Q) := hS.sublist List.filter_sublist
theorem lk_del (s : List UInt8) (Q : List (List UInt8 × Nat)) (t : List UInt8) : lk (del s Q) t = if t = s then 0 else lk Q t := by
  by_cases e : t = s
  · subst e; rw [if_pos rfl]; exact lk_zero (fun x hx => (mem_del.1 hx).2)
  · rw [if_neg e]
    induction Q with
    | nil => rfl
    | cons y r ih =>
      unfold del at ih ⊢
      rw [List.filter_cons]
      split
      · rw [lk_cons, lk_cons, ih]
      · rename_i h
        simp at h
        rw [ih, lk_cons, if_neg (fun q => e (q.symm.trans h))]
theorem del_none {s : List UInt8} {Q : List (List UInt8 × Nat)} (h : ∀ x ∈ Q, x.1 ≠ s) : del s Q = Q := by
  unfold del; rw [List.filter_eq_self]; intro x hx; simpa using h x hx
theorem len_del {s : List UInt8} {Q : List (List UInt8 × Nat)} (hS : Srt Q) (h : lk Q s ≠ 0) : (del s Q).length + 1 = Q.length := by
  induction Q with
  | nil => simp [lk] at h
  | cons y r ih =>
    obtain ⟨h1, h2⟩ := List.pairwise_cons.1 hS
    unfold lk at h
    by_cases e : y.1 = s
    · have : del s r = r := del_none (fun x hx q => by have := h1 x hx; rw [e, q, bless_irr] at this; simp at this)
      show (del s (y :: r)).length + 1 = _
      unfold del at this ⊢
      rw [List.filter_cons, if_neg (by simp [e]), this]
      simp
    · rw [if_neg e] at h
      have := ih h2 h
      have q : del s (y :: r) = y :: del s r := by unfold del; rw [List.filter_cons, if_pos (by simp [e])]
      rw [q]
      simp; omega

/-- How many names name a number. -/
def cq (Q : List (List UInt8 × Nat)) (i : Nat) : Nat := Q.countP (fun x => x.2 == i)
theorem cq_ins (s : List UInt8) (n : Nat) (Q : List (List UInt8 × Nat)) (i : Nat) : cq (ins s n Q) i = cq Q i + if n = i then 1 else 0 := by
  induction Q with
  | nil => by_cases e : n = i <;> simp [cq, ins, e]
  | cons y r ih =>
    unfold ins
    split
    · unfold cq; rw [List.countP_cons]; simp
    · unfold cq at ih ⊢; rw [List.countP_cons, List.countP_cons, ih]; omega
theorem cq_del {s : List UInt8} {Q : List (List UInt8 × Nat)} (hS : Srt Q) (hv : lk Q s ≠ 0) (i : Nat) : cq (del s Q) i + (if lk Q s = i then 1 else 0) = cq Q i := by
  induction Q with
  | nil => simp [lk] at hv
  | cons y r ih =>
    obtain ⟨h1, h2⟩ := List.pairwise_cons.1 hS
    unfold lk at hv ⊢
    by_cases e : y.1 = s
    · have : del s r = r := del_none (fun x hx q => by have := h1 x hx; rw [e, q, bless_irr] at this; simp at this)
      have q : del s (y :: r) = r := by
        unfold del at this ⊢
        rw [List.filter_cons, if_neg (by simp [e]), this]
      rw [if_pos e, q]
      unfold cq
      rw [List.countP_cons]
      simp
    · rw [if_neg e] at hv ⊢
      have := ih h2 hv
      have q : del s (y :: r) = y :: del s r := by unfold del; rw [List.filter_cons, if_pos (by simp [e])]
      rw [q]
      unfold cq at this ⊢
      rw [List.countP_cons, List.countP_cons]
      omega
theorem cq_zero {Q : List (List UInt8 × Nat)} {i : Nat} : cq Q i = 0 ↔ ∀ x ∈ Q, x.2 ≠ i := by
  unfold cq; rw [List.countP_eq_zero]; simp

/-- All directories' names together. -/
def nmc (P : Nat → Fn) (i : Nat) : Nat → Nat
  | 0 => 0
  | m + 1 => nmc P i m + cq (P m).Q i
theorem nmc_same {P P' : Nat → Fn} (i : Nat) : ∀ m, (∀ j, j < m → (P' j).Q = (P j).Q) → nmc P' i m = nmc P i m
  | 0, _ => rfl
  | m + 1, h => by
    unfold nmc
    rw [nmc_same i m (fun j hj => h j (by omega)), h m (by omega)]
theorem nmc_one {P P' : Nat → Fn} (i dr : Nat) : ∀ m, dr < m → (∀ j, j ≠ dr → (P' j).Q = (P j).Q) → nmc P' i m + cq (P dr).Q i = nmc P i m + cq (P' dr).Q i
  | 0, h, _ => by omega
  | m + 1, h, hj => by
    unfold nmc
    by_cases e : dr = m
    · subst e
      rw [nmc_same i dr (fun j q => hj j (by omega))]
      omega
    · have := nmc_one i dr m (by omega) hj
      rw [hj m (fun q => e q.symm)]
      omega
theorem nmc_zero {P : Nat → Fn} {i : Nat} : ∀ m, nmc P i m = 0 → ∀ j, j < m → ∀ x ∈ (P j).Q, x.2 ≠ i
  | 0, _, j, hj => by omega
  | m + 1, h, j, hj => by
    unfold nmc at h
    by_cases e : j = m
    · subst e; exact cq_zero.1 (by omega)
    · exact nmc_zero m (by omega) j (by omega)
theorem nmc_pos {P : Nat → Fn} {i : Nat} : ∀ m j, j < m → ∀ x ∈ (P j).Q, x.2 = i → 1 ≤ nmc P i m := fun m j hj x hx e => by
  rcases Nat.eq_zero_or_pos (nmc P i m) with q | q
  · exact absurd e (nmc_zero m q j hj x hx)
  · exact q

end Go.Proofs.YtoknhcjneliboaaGreat
