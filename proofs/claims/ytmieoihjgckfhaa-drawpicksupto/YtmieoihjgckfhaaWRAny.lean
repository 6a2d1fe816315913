/- What the document's Weight answers, whatever is asked: as the program's. -/
import Derived.Test.YtmieoihjgckfhaaWRWeight
namespace Go.Proofs.Ytmieoihjgckfhaa
open Go.RowKit
set_option linter.unusedVariables false
set_option maxRecDepth 20000

set_option maxHeartbeats 4000000 in
theorem rweight_none (w : World) (p : Nat) (a2 : Option Addr) (m2 c2 : Nat) (h : w.cell? ⟨p, 1, none⟩ = some (.slice a2 m2 c2)) (a b : Int) (hn : b < 0 ∨ (m2 : Int) ≤ b ∨ (m2 : Int) ≤ a) :
    Calls Try.prog 19 #[.pointer (some ⟨p, 0, none⟩), .int .i64 a, .int .i64 b] w fun e w' => e = .returned (.int .i64 0) ∧ w' = w := by
  have k1 := hid (rcalls w p a2 m2 c2 h)
  by_cases h1 : b < 0
  · clear hn
    go_enter Try.func19, Try.ntmps19
    go_wp2_with fail
    refine k1.out.mono ?_
    rintro e w1 ⟨rfl, rfl⟩
    clear k1
    go_wp2_with fail
    go_ret
    exact ⟨rfl, rfl⟩
  · by_cases h2 : (m2 : Int) ≤ b
    · clear hn
      go_enter Try.func19, Try.ntmps19
      go_wp2_with fail
      refine k1.out.mono ?_
      rintro e w1 ⟨rfl, rfl⟩
      clear k1
      go_wp2_with fail
      go_ret
      exact ⟨rfl, rfl⟩
    · have h3 : (m2 : Int) ≤ a := by omega
      clear hn
      go_enter Try.func19, Try.ntmps19
      go_wp2_with fail
      refine k1.out.mono ?_
      rintro e w1 ⟨rfl, rfl⟩
      clear k1
      go_wp2_with fail
      go_ret
      exact ⟨rfl, rfl⟩

theorem met_rt {l : List Ty} {q : List Cl} {cs : List Cc} (hmap : cs.map (fun x => (x.rs, x.ts)) = q.map (mt l)) (k : Nat) (h1 : k < cs.length) (h2 : k < q.length) : cs[k].rs = q[k].rt ∧ cs[k].ts = takes l q[k].ags := by
  have := congrArg (fun z => z[k]?) hmap
  simp only [List.getElem?_map, List.getElem?_eq_getElem h1, List.getElem?_eq_getElem h2, Option.map_some, Option.some.injEq, mt, Prod.mk.injEq] at this
  exact this

theorem rweight_any (w : World) (p : Nat) (a0 : Option Addr) (m c : Nat) (a2 : Option Addr) (m2 c2 : Nat) (pa : Option Addr) (pn pc : Nat) (l : List Ty) (q : List Cl) (P : List (List Int)) (L : Nat) (hR : Rc w p a0 m c a2 m2 c2 pa pn pc l q P) (hL : ∀ p ∈ P, p.length ≤ L) (hLn : pn * L + L ≤ 4611686018427387904) (hpn : pn ≤ 1099511627776) (hcb : ∀ C ∈ q, C.an ≤ 4398046511104)
    (cs : List Cc) (hmap : cs.map (fun x => (x.rs, x.ts)) = q.map (mt l)) (a b : Int) :
    Calls Try.prog 19 #[.pointer (some ⟨p, 0, none⟩), .int .i64 a, .int .i64 b] w fun e w' => e = .returned (.int .i64 (wtC cs (cntA q.length P pn) a b)) ∧ Below w.heap.size w w' := by
  have hN : cs.length = q.length := by
    have := congrArg List.length hmap
    simpa using this
  have hq := hR.ql
  by_cases h : b < 0 ∨ (m2 : Int) ≤ b ∨ (m2 : Int) ≤ a
  · rw [wtC_none cs _ a b (by
      simp only [hasB, Bool.and_eq_false_iff, decide_eq_false_iff_not, hN, hq]
      omega)]
    refine (rweight_none w p a2 m2 c2 (cell_of_row _ _ 1 _ _ _ hR.blk) a b h).mono ?_
    rintro e w' ⟨rfl, rfl⟩
    exact ⟨rfl, Below.refl _ _⟩
  · obtain ⟨k, rfl⟩ : ∃ k : Nat, b = (k : Int) := ⟨b.toNat, by omega⟩
    have hk : k < q.length := by omega
    have hb : hasB q.length (k : Int) = true := by simp [hasB]; omega
    have hc := cntA_tm q.length P a k (by omega) hb pn
    by_cases ha : a < 0
    · have e : bef a = -1 := by unfold bef; rw [if_neg (by omega)]
      rw [e] at hc
      rw [wtC_neg cs _ a k ha (by rw [hN]; exact hb), hc]
      exact rweight_neg w p a0 m c a2 m2 c2 pa pn pc l q P L hR hL hLn hpn a k ha hk
    · obtain ⟨j, rfl⟩ : ∃ j : Nat, a = (j : Int) := ⟨a.toNat, by omega⟩
      have hj : j < q.length := by omega
      have e : bef (j : Int) = j := by unfold bef; rw [if_pos (by omega)]
      rw [e] at hc
      rw [wtC_pos cs _ j k (by omega) (by omega), hc]
      have e1 := (met_rt hmap j (by omega) hj).1
      have e2 := (met_rt hmap k (by omega) hk).2
      unfold usesB
      rw [e1, e2]
      refine (rweight_pos w p a0 m c a2 m2 c2 pa pn pc l q P L hR hL hLn hpn j k hj hk hcb).mono ?_
      rintro e w' ⟨rfl, hw⟩
      refine ⟨?_, hw⟩
      congr 2
      split <;> omega

end Go.Proofs.Ytmieoihjgckfhaa
