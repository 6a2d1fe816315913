/- The document's choice as it lies; what its Weigh, Calls and typ answer. -/
import Derived.Test.YtmieoihjgckfhaaWWeigh2
namespace Go.Proofs.Ytmieoihjgckfhaa
open Go.RowKit
set_option linter.unusedVariables false
set_option maxRecDepth 20000

/-- The document's choice at p: a table and programs. -/
structure Rc (w : World) (p : Nat) (a : Option Addr) (m c : Nat) (a2 : Option Addr) (m2 c2 : Nat) (pa : Option Addr) (pn pc : Nat) (l : List Ty) (q : List Cl) (P : List (List Int)) : Prop where
  blk : w.heap[p]? = some (.cells #[.slice a m c, .slice a2 m2 c2, .slice pa pn pc] 73 (0, 0))
  ty : Tys w a l
  tl : l.length = m
  tb : m ≤ 9223372036854775807
  cl : Cls w a2 q
  ql : q.length = m2
  qb : m2 ≤ 1099511627776
  pr : Prs w pa pn P
theorem Rc.below {w w' : World} {p : Nat} {a : Option Addr} {m c : Nat} {a2 : Option Addr} {m2 c2 : Nat} {pa : Option Addr} {pn pc : Nat} {l : List Ty} {q : List Cl} {P : List (List Int)} (h : Rc w p a m c a2 m2 c2 pa pn pc l q P) (u : Below w.heap.size w w') : Rc w' p a m c a2 m2 c2 pa pn pc l q P :=
  { h with blk := (u.block p (Array.getElem?_eq_some_iff.1 h.blk).1).trans h.blk, ty := h.ty.below u, cl := h.cl.below u, pr := h.pr.below u }

set_option maxHeartbeats 1000000 in
theorem rweigh (w : World) (a : Option Addr) (m c : Nat) (a2 : Option Addr) (m2 c2 : Nat) (pa : Option Addr) (pn pc : Nat) (l : List Ty) (q : List Cl) (P : List (List Int)) (hT : Tys w a l) (hm : l.length = m) (hmb : m ≤ 9223372036854775807) (hQ : Cls w a2 q) (hq : q.length = m2) (hqb : m2 ≤ 1099511627776) (hP : Prs w pa pn P) :
    Calls Try.prog 17 #[.agg #[.slice a m c, .slice a2 m2 c2], .slice pa pn pc] w fun e w' => ∃ p, e = .returned (.pointer (some ⟨p, 0, none⟩)) ∧ Rc w' p a m c a2 m2 c2 pa pn pc l q P ∧ Below w.heap.size w w' := by
  obtain ⟨X, gX⟩ : ∃ X, (w.alloc (.cells #[.slice a m c, .slice a2 m2 c2] 34)).alloc (.cells #[.slice a m c, .slice a2 m2 c2, .slice pa pn pc] 73) = X := ⟨_, rfl⟩
  have hB : Below w.heap.size w X := by rw [← gX]; exact below_box2 w _ _
  have x1 : X.heap[w.heap.size + 1]? = some (.cells #[.slice a m c, .slice a2 m2 c2, .slice pa pn pc] 73 (0, 0)) := by
    have := heap_alloc_new (w.alloc (.cells #[.slice a m c, .slice a2 m2 c2] 34)) (.cells #[.slice a m c, .slice a2 m2 c2, .slice pa pn pc] 73)
    rw [← gX]; simpa using this
  have HR : Hid (Rc X (w.heap.size + 1) a m c a2 m2 c2 pa pn pc l q P) := hid ⟨x1, hT.below hB, hm, hmb, hQ.below hB, hq, hqb, hP.below hB⟩
  have HB := hid hB
  have GX := hid gX
  clear hT hQ hP hB x1 gX
  go_enter Try.func17, Try.ntmps17
  go_wp2_with fail
  rw [GX.out]
  go_ret
  exact ⟨w.heap.size + 1, rfl, HR.out, HB.out⟩

theorem rcalls (w : World) (p : Nat) (a2 : Option Addr) (m2 c2 : Nat) (h : w.cell? ⟨p, 1, none⟩ = some (.slice a2 m2 c2)) : Calls Try.prog 28 #[.pointer (some ⟨p, 0, none⟩)] w fun e w' => e = .returned (.int .i64 (m2 : Int)) ∧ w' = w := by
  go_enter Try.func28, Try.ntmps28
  go_wp2_with fail
  go_ret
  exact ⟨rfl, rfl⟩

set_option maxHeartbeats 4000000 in
theorem rtyp_any (w : World) (p : Nat) (a : Option Addr) (c : Nat) (l : List Ty) (n : Int) (h0 : w.cell? ⟨p, 0, none⟩ = some (.slice a l.length c)) (hp : p < w.heap.size) (hT : Tys w a l) (hmb : l.length ≤ 9223372036854775807) :
    Calls Try.prog 32 #[.pointer (some ⟨p, 0, none⟩), .int .i64 n] w fun e w' => e = .returned (.agg (tyC (tyA l n)).toArray) ∧ Below w.heap.size w w' := by
  obtain ⟨X, gX⟩ : ∃ X, w.alloc (.cells #[.int .i64 0, .int .i64 0, .int .i64 0, .int .i64 0, .int .i64 0, .string ⟨#[]⟩, .slice none 0 0, .slice none 0 0, .slice none 0 0, .slice none 0 0] 82) = X := ⟨_, rfl⟩
  have hB : Below w.heap.size w X := by rw [← gX]; exact below_box w _
  have x1 : X.heap[w.heap.size]? = some (.cells ([.int .i64 0, .int .i64 0, .int .i64 0, .int .i64 0, .int .i64 0, .string ⟨#[]⟩, .slice none 0 0, .slice none 0 0, .slice none 0 0, .slice none 0 0] : List Value).toArray 82 (0, 0)) := by rw [← gX]; exact heap_alloc_new _ _
  have y0 : (w.alloc (.cells #[.int .i64 0, .int .i64 0, .int .i64 0, .int .i64 0, .int .i64 0, .string ⟨#[]⟩, .slice none 0 0, .slice none 0 0, .slice none 0 0, .slice none 0 0] 82)).cell? ⟨p, 0, none⟩ = some (.slice a l.length c) := by rw [gX]; exact (hB.cell (p := ⟨p, 0, none⟩) hp).trans h0
  have HR : Hid (∀ T : Ty, ((X.setCells w.heap.size 0 (tyC T)).rangeAt w.heap.size 0 (tyC T)) ∧ Below w.heap.size w (X.setCells w.heap.size 0 (tyC T))) := hid fun T => ⟨rangeAt_block (store_new x1 rfl), hB.trans ((upd_setCells w.heap.size (tyC T) 0 X).below hB.size (fun x hx => by omega))⟩
  have HTH : Hid (X.there w.heap.size 0 10) := hid (there_of_block x1 0 10 (by decide))
  have HO : Hid (∀ T : Ty, (tyC T).toArray.all (·.oneCell') = true) := hid fun T => by simp [tyC, Value.oneCell']
  have GX := hid gX
  have HB := hid hB
  by_cases hn : n < 0 ∨ (l.length : Int) ≤ n
  · have e : tyA l n = zeroTy := by unfold tyA; rw [if_pos hn]
    rw [e]
    have HZ : Hid (X.rangeAt w.heap.size 0 (tyC zeroTy)) := hid (rangeAt_block x1)
    clear x1 hB gX hT e
    by_cases hz : n < 0
    · go_enter Try.func32, Try.ntmps32
      go_wp2_with fail
      rw [GX.out]
      refine bodyPost_ret (cell_result rfl _ _ w.heap.size 0 rfl (tyC zeroTy) _ HZ.out Try.underlying82 rfl csizeT) rfl ?_
      exact ⟨rfl, HB.out⟩
    · have h1 : (l.length : Int) ≤ n := by omega
      go_enter Try.func32, Try.ntmps32
      go_wp2_with fail
      rw [GX.out]
      refine bodyPost_ret (cell_result rfl _ _ w.heap.size 0 rfl (tyC zeroTy) _ HZ.out Try.underlying82 rfl csizeT) rfl ?_
      exact ⟨rfl, HB.out⟩
  · have hz : ¬ n < 0 := by omega
    have h1 : ¬ (l.length : Int) ≤ n := by omega
    obtain ⟨k, rfl⟩ : ∃ k : Nat, n = (k : Int) := ⟨n.toNat, by omega⟩
    have hk : k < l.length := by omega
    obtain ⟨tb, to', rfl, htb, hts⟩ := hT (by omega)
    have e : tyA l k = l[k] := by unfold tyA; rw [if_neg hn, Int.toNat_natCast, List.getElem?_eq_getElem hk]; rfl
    rw [e]
    have HYT := hid (((hts k hk).1.below hB htb).range)
    generalize l[k] = T at HYT ⊢
    have hkm : (k : Int) < (l.length : Int) := by omega
    clear x1 hB gX hts e hn htb
    generalize gTC : tyC T = TC at HYT ⊢
    have HL : Hid (TC.length = 10) := by rw [← gTC]; exact hid rfl
    have HO' : Hid (TC.toArray.all (·.oneCell') = true) := by rw [← gTC]; exact hid (HO.out T)
    have HR' : Hid (((X.setCells w.heap.size 0 TC).rangeAt w.heap.size 0 TC) ∧ Below w.heap.size w (X.setCells w.heap.size 0 TC)) := by rw [← gTC]; exact hid (HR.out T)
    have hst1 := run_cells_mid (P := Try.prog) X w.heap.size 0 TC (by rw [HL.out]; exact HTH.out) HO'.out
    clear gTC HO HR
    go_enter Try.func32, Try.ntmps32
    go_wp2_with (rw [GX.out]; refine wpList_load_mid rfl 82 (.tmp 24) rfl tb (to' + k * 10) rfl TC _ HYT.out Try.underlying82 rfl (by rw [HL.out]; exact csizeT) ?_)
    refine bodyPost_ret (cell_result rfl _ _ w.heap.size 0 rfl TC _ HR'.out.1 Try.underlying82 rfl (by rw [HL.out]; exact csizeT)) rfl ?_
    exact ⟨rfl, HR'.out.2⟩

end Go.Proofs.Ytmieoihjgckfhaa
