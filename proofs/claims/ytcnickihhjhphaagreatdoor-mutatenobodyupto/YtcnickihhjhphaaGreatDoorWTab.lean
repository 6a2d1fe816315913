/- A type of a table at a place: what the program's typeAt answers. -/
import Derived.Test.YtcnickihhjhphaaGreatDoorGTy
import Derived.Test.YtcnickihhjhphaaGreatDoorGMid
import Derived.Test.YtcnickihhjhphaaGreatDoorChecked
namespace Go.Proofs.YtcnickihhjhphaaGreatDoor
open Go.RowKit
set_option linter.unusedVariables false
set_option maxRecDepth 20000

/-- The cells of a type. -/
def tyC (T : Ty) : List Value := [.int .i64 T.k, .int .i64 T.s, .int .i64 T.lo, .int .i64 T.hi, .int .i64 T.d, .string T.o, .slice T.va T.vn T.vc, .slice T.ta T.tn T.tc, .slice T.ea T.en T.ec, .slice T.na T.nn T.nc]
theorem TyAt.range {w : World} {b o : Nat} {T : Ty} (h : TyAt w b o T) : w.rangeAt b o (tyC T) := rangeAt_mk fun j hj => by
  simp only [tyC, List.length_cons, List.length_nil] at hj
  match j, hj with
  | 0, _ => exact h.c0
  | 1, _ => exact h.c1
  | 2, _ => exact h.c2
  | 3, _ => exact h.c3
  | 4, _ => exact h.c4
  | 5, _ => exact h.c5
  | 6, _ => exact h.c6
  | 7, _ => exact h.c7
  | 8, _ => exact h.c8
  | 9, _ => exact h.c9
theorem csizeT : (Tryz.prog.info? 65).map (·.size) = some 10 := by kernel_rfl
theorem below_box (w : World) (o : Obj) : Below w.heap.size w (w.alloc o) := (Below.refl _ _).alloc (Nat.le_refl _) _
theorem below_box2 (w : World) (o1 o2 : Obj) : Below w.heap.size w ((w.alloc o1).alloc o2) := (below_box w o1).trans ((below_box _ o2).mono (by simp))

/-- wpList_store_mid, the world told. -/
theorem wpList_store_as {P : Program} {ops : Array Oper} {rest : List Oper} {op : Oper} {a : Act} {w : World} {Q : Exit → Act → World → Prop} (hgd : op.guard = none) (ty : TypeId) (x y : Operand) (ho : op.op = .store ty x y)
    (b o : Nat) (cells : Array Value) (hx : a.eval x = .pointer (some ⟨b, o, none⟩)) (hy : a.eval y = .agg cells)
    (ht : w.there b o cells.size) (hi : (P.info? ty).map (·.size) = some cells.size) (h1 : cells.all (·.oneCell') = true)
    (W : World) (hW : w.setCells b o cells.toList = W)
    (h : wpList P ops Q rest (a.put op.dst undef) W) : wpList P ops Q (op :: rest) a w :=
  wpList_store_mid hgd ty x y ho b o cells hx hy ht hi h1 (hW ▸ h)

/-- The type of no kind. -/
def zeroTy : Ty := ⟨0, 0, 0, 0, 0, ⟨#[]⟩, none, 0, 0, [], none, 0, 0, [], none, 0, 0, [], none, 0, 0⟩
/-- The type at a place. -/
def tyA (l : List Ty) (n : Int) : Ty := if n < 0 ∨ (l.length : Int) ≤ n then zeroTy else (l[n.toNat]?).getD zeroTy
theorem zeroTy_ok (w : World) : zeroTy.Ok w :=
  ⟨fun h => absurd h (Nat.lt_irrefl 0), rfl, Nat.le_refl _, by decide, fun h => absurd h (Nat.lt_irrefl 0), rfl, Nat.le_refl _, by decide, fun h => absurd h (Nat.lt_irrefl 0), rfl, Nat.le_refl _, by decide, Nat.le_refl _, by decide, fun t h => by cases h⟩
theorem tyA_ok {w : World} {a : Option Addr} {l : List Ty} (h : Tys w a l) (n : Int) : (tyA l n).Ok w := by
  unfold tyA
  by_cases hn : n < 0 ∨ (l.length : Int) ≤ n
  · rw [if_pos hn]; exact zeroTy_ok w
  · rw [if_neg hn]
    obtain ⟨b, o, _, _, hc⟩ := h (by omega)
    rw [List.getElem?_eq_getElem (by omega)]
    exact (hc n.toNat (by omega)).2

/-- What is stored whole into a new block is there. -/
theorem store_new {w : World} {p : Nat} {C D : List Value} {t : TypeId} (h : w.heap[p]? = some (.cells C.toArray t (0, 0))) (hl : C.length = D.length) : (w.setCells p 0 D).heap[p]? = some (.cells D.toArray t (0, 0)) := by
  rw [heap_setCells p t D 0 w C h (by omega), splice_all _ _ hl]

set_option maxHeartbeats 4000000 in
theorem typeat_any (a : Option Addr) (m c : Nat) (a2 : Option Addr) (m2 c2 : Nat) (l : List Ty) (n : Int) (w : World) (hT : Tys w a l) (hm : l.length = m) (hmb : m ≤ 9223372036854775807) :
    Calls Tryz.prog 19 #[.agg #[.slice a m c, .slice a2 m2 c2], .int .i64 n] w fun e w' => e = .returned (.agg (tyC (tyA l n)).toArray) ∧ Below w.heap.size w w' := by
  subst hm
  obtain ⟨X, gX⟩ : ∃ X, (w.alloc (.cells #[.slice a l.length c, .slice a2 m2 c2] 25)).alloc (.cells #[.int .i64 0, .int .i64 0, .int .i64 0, .int .i64 0, .int .i64 0, .string ⟨#[]⟩, .slice none 0 0, .slice none 0 0, .slice none 0 0, .slice none 0 0] 65) = X := ⟨_, rfl⟩
  have hB : Below w.heap.size w X := by rw [← gX]; exact below_box2 w _ _
  have hs : X.heap.size = w.heap.size + 1 + 1 := by rw [← gX]; simp
  have x0 : X.heap[w.heap.size]? = some (.cells #[.slice a l.length c, .slice a2 m2 c2] 25 (0, 0)) := by
    rw [← gX, (below_box (w.alloc _) _).block _ (by simp)]; exact heap_alloc_new _ _
  have x1 : X.heap[w.heap.size + 1]? = some (.cells ([.int .i64 0, .int .i64 0, .int .i64 0, .int .i64 0, .int .i64 0, .string ⟨#[]⟩, .slice none 0 0, .slice none 0 0, .slice none 0 0, .slice none 0 0] : List Value).toArray 65 (0, 0)) := by
    have := heap_alloc_new (w.alloc (.cells #[.slice a l.length c, .slice a2 m2 c2] 25)) (.cells #[.int .i64 0, .int .i64 0, .int .i64 0, .int .i64 0, .int .i64 0, .string ⟨#[]⟩, .slice none 0 0, .slice none 0 0, .slice none 0 0, .slice none 0 0] 65)
    rw [← gX]; simpa using this
  have y0 : X.cell? ⟨w.heap.size, 0, none⟩ = some (.slice a l.length c) := cell_of_row _ _ 0 _ _ _ x0
  have HTT := hid (tyA_ok hT n)
  have HR : Hid (∀ T : Ty, ((X.setCells (w.heap.size + 1) 0 (tyC T)).rangeAt (w.heap.size + 1) 0 (tyC T)) ∧ Below w.heap.size w (X.setCells (w.heap.size + 1) 0 (tyC T))) := hid fun T => ⟨rangeAt_block (store_new x1 rfl), hB.trans ((upd_setCells (w.heap.size + 1) (tyC T) 0 X).below hB.size (fun x hx => by omega))⟩
  have HTH : Hid (X.there (w.heap.size + 1) 0 10) := hid (there_of_block x1 0 10 (by decide))
  have HO : Hid (∀ T : Ty, (tyC T).toArray.all (·.oneCell') = true) := hid fun T => by simp [tyC, Value.oneCell']
  have GX := hid gX
  have HB := hid hB
  by_cases hn : n < 0 ∨ (l.length : Int) ≤ n
  · have e : tyA l n = zeroTy := by unfold tyA; rw [if_pos hn]
    rw [e]
    have HZ : Hid (X.rangeAt (w.heap.size + 1) 0 (tyC zeroTy)) := hid (rangeAt_block x1)
    clear x0 x1 hB hs gX hT e
    go_enter Tryz.func19, Tryz.ntmps19
    by_cases h0 : n < 0
    · go_wp2_with fail
      rw [GX.out]
      refine bodyPost_ret (cell_result rfl _ _ (w.heap.size + 1) 0 rfl (tyC zeroTy) _ HZ.out Tryz.underlying65 rfl csizeT) rfl ?_
      exact ⟨rfl, HB.out⟩
    · have h1 : (l.length : Int) ≤ n := by omega
      go_wp2_with fail
      rw [GX.out]
      refine bodyPost_ret (cell_result rfl _ _ (w.heap.size + 1) 0 rfl (tyC zeroTy) _ HZ.out Tryz.underlying65 rfl csizeT) rfl ?_
      exact ⟨rfl, HB.out⟩
  · have h0 : ¬ n < 0 := by omega
    have h1 : ¬ (l.length : Int) ≤ n := by omega
    obtain ⟨k, rfl⟩ : ∃ k : Nat, n = (k : Int) := ⟨n.toNat, by omega⟩
    have hk : k < l.length := by omega
    obtain ⟨tb, to', rfl, htb, hts⟩ := hT (by omega)
    have e : tyA l k = l[k] := by unfold tyA; rw [if_neg hn, Int.toNat_natCast, List.getElem?_eq_getElem hk]; rfl
    rw [e]
    have HYT := hid (((hts k hk).1.below hB htb).range)
    generalize l[k] = T at HYT ⊢
    have hkm : (k : Int) < (l.length : Int) := by omega
    clear x0 x1 hB hs gX hts e hn htb
    generalize gTC : tyC T = TC at HYT ⊢
    have HL : Hid (TC.length = 10) := by rw [← gTC]; exact hid rfl
    have HO' : Hid (TC.toArray.all (·.oneCell') = true) := by rw [← gTC]; exact hid (HO.out T)
    have HR' : Hid (((X.setCells (w.heap.size + 1) 0 TC).rangeAt (w.heap.size + 1) 0 TC) ∧ Below w.heap.size w (X.setCells (w.heap.size + 1) 0 TC)) := by rw [← gTC]; exact hid (HR.out T)
    have hst1 := run_cells_mid (P := Tryz.prog) X (w.heap.size + 1) 0 TC (by rw [HL.out]; exact HTH.out) HO'.out
    clear gTC HO HR HTT
    go_enter Tryz.func19, Tryz.ntmps19
    go_wp2_with (rw [GX.out]; refine wpList_load_mid rfl 65 (.tmp 18) rfl tb (to' + k * 10) rfl TC _ HYT.out Tryz.underlying65 rfl (by rw [HL.out]; exact csizeT) ?_)
    refine bodyPost_ret (cell_result rfl _ _ (w.heap.size + 1) 0 rfl TC _ HR'.out.1 Tryz.underlying65 rfl (by rw [HL.out]; exact csizeT)) rfl ?_
    exact ⟨rfl, HR'.out.2⟩

end Go.Proofs.YtcnickihhjhphaaGreatDoor
