/- What Blocks does. -/
import Derived.Test.YtgbikncpmgikaaaOPipes
namespace Go.Proofs.Ytgbikncpmgikaaa
open Go.RowKit
set_option linter.unusedVariables false
set_option maxRecDepth 20000

/-- How many numbers have a count, told of a list. -/
def NN (N : Nat) (L : List Int) : Prop := N ≤ L.length ∧ (N = L.length ↔ L.Nodup)
theorem NN.snoc {N : Nat} {L : List Int} (h : NN N L) (x : Int) : NN (if cn L x = 0 then N + 1 else N) (L ++ [x]) := by
  have e : (L ++ [x]).Nodup ↔ (L.Nodup ∧ x ∉ L) := by
    rw [List.nodup_append]
    constructor
    · intro ⟨h1, _, h3⟩; exact ⟨h1, fun hx => h3 x hx x (by simp) rfl⟩
    · intro ⟨h1, h2⟩; exact ⟨h1, by simp, fun a ha b hb => by simp at hb; subst hb; exact fun e => h2 (e ▸ ha)⟩
  obtain ⟨h1, h2⟩ := h
  have hc : cn L x = 0 ↔ x ∉ L := by unfold cn; exact List.count_eq_zero
  unfold NN
  rw [List.length_append, e]
  by_cases q : cn L x = 0
  · rw [if_pos q]
    have q' := hc.1 q
    simp only [List.length_cons, List.length_nil]
    refine ⟨by omega, ⟨fun h => ⟨h2.1 (by omega), q'⟩, fun h => by have := h2.2 h.1; omega⟩⟩
  · rw [if_neg q]
    have q' := fun h => q (hc.2 h)
    simp only [List.length_cons, List.length_nil]
    exact ⟨by omega, ⟨fun h => by omega, fun h => absurd h.2 q'⟩⟩
/-- What the files take of the counts; at the end none is left. -/
def blk : List Nd → (Int → Nat) × Nat → Bool
  | [], s => ((s.2 : Int) == 0)
  | d :: r, s => if d.k == 1 then (if fitB d then (if (tak d.bs s).1 then blk r (tak d.bs s).2 else false) else false) else blk r s
/-- The rule of blocks. -/
def blocksB (l : List Nd) (L : List Int) : Bool := if L.Nodup then blk l (cn L, L.length) else false
theorem blocksB_perm {L L' : List Int} (h : L.Perm L') (l : List Nd) : blocksB l L = blocksB l L' := by
  unfold blocksB
  rw [cn_perm h, h.length_eq]
  by_cases q : L.Nodup
  · rw [if_pos q, if_pos (h.nodup_iff.1 q)]
  · rw [if_neg q, if_neg (fun q' => q (h.nodup_iff.2 q'))]

set_option maxHeartbeats 8000000 in
theorem blocks_any (w : World) (a : Option Addr) (l : List Nd) (c : Nat) (a2 : Option Addr) (L : List Int) (c2 : Nat) (hN : Nds w a l) (hl : l.length ≤ 35184372088832) (hI : IntL w a2 L) (hL : L.length ≤ 35184372088832) :
    Calls Try.prog 11 #[.slice a l.length c, .slice a2 L.length c2] w fun e w' => e = .returned (.bool (blocksB l L)) ∧ Upd (fun _ => False) w w' := by
  have HN := hid hN
  have HI := hid hI
  obtain ⟨n, gn⟩ : ∃ n, n = l.length := ⟨_, rfl⟩
  have GN := hid gn
  obtain ⟨m, gm⟩ : ∃ m, m = L.length := ⟨_, rfl⟩
  have GM := hid gm
  rw [← gn] at hl ⊢
  rw [← gm] at hL ⊢
  obtain ⟨R, gR⟩ : ∃ R, R = blocksB l L := ⟨_, rfl⟩
  have GR := hid gR
  rw [← gR]
  clear hN hI gn gm gR
  have hmm := @run_makeMap Try.prog
  have HT0 : Hid (∃ N, Oc (w.alloc (.map #[] 0)) w.heap.size 0 N (cn (L.take 0)) ∧ NN N (L.take 0)) := hid ⟨0, Oc.none w, by simp [NN]⟩
  have HU0 : Hid (Upd (fun _ => False) w (w.alloc (.map #[] 0))) := hid (Upd.alloc _ _ _)
  go_enter Try.func11, Try.ntmps11
  go_wp2_with fail
  clear hmm
  generalize hA : w.heap.size = A at *
  go_loopw [13] (fun k wr => ∃ (i : Nat), i ≤ m ∧ k = .int .i64 i ∧ Hid (∃ N, Oc wr A i N (cn (L.take i)) ∧ NN N (L.take i)) ∧ Hid (Upd (fun _ => False) w wr)) (fun k _ => m - (intOf k).toNat)
  case atStart => exact ⟨0, by omega, rfl, HT0, HU0⟩
  case round =>
    clear HT0 HU0
    obtain ⟨i, hi, rfl, HM, HU⟩ := hrel
    rename World => wr
    by_cases hlt : i < m
    · have hln : i < L.length := by rw [← GM.out]; exact hlt
      obtain ⟨b, o, rfl, hbl, hc⟩ := (HI.out.upd HU.out (fun _ _ _ _ _ h => h)).ex (by omega)
      have hw := HI.out.wf _ (getD_mem L i 0 hln)
      have HTk : Hid (L.take (i + 1) = L.take i ++ [L.getD i 0]) := hid (take_snoc L i 0 hln)
      have ci := hc i hln
      generalize L.getD i 0 = x at *
      clear hc
      obtain ⟨N, hO, hNN⟩ := HM.out
      have hle : (L.take i).length ≤ i := List.length_take_le i L
      have hle2 := cn_le (L.take i) x
      have hlk := oc_look hO hw
      obtain ⟨w2, hup, hO2, hU2⟩ := oc_inc hO hw (by show i < maxLen; unfold maxLen; omega) (by omega)
      have hwr : IntKind.i64.wrap ((cn (L.take i) x : Int) + 1) = (cn (L.take i) x : Int) + 1 := by rw [IntKind.wrap_i64]; omega
      have HM2 : Hid (∃ N, Oc w2 A (i + 1) N (cn (L.take (i + 1))) ∧ NN N (L.take (i + 1))) := hid ⟨_, by rw [HTk.out, cn_snoc]; exact hO2, by rw [HTk.out]; exact hNN.snoc x⟩
      have HU2 : Hid (Upd (fun _ => False) w w2) := hid (HU.out.trans hU2 (fun x h1 h2 => by have : x = A := h2; omega))
      generalize (cn (L.take i) x : Int) = g at hlk hup hwr
      clear HM hO hNN hO2 hU2 hle hle2
      go_wp2_with fail
      go_roundw
      case rel => exact ⟨i + 1, by omega, by go_num, HM2, HU2⟩
      case measure => simp [intOf]; omega
    · have hin : i = m := by omega
      subst hin
      obtain ⟨N, hO, hNN⟩ := HM.out
      rw [List.take_of_length_le (by rw [← GM.out]; exact Nat.le_refl _)] at hO hNN
      unfold NN at hNN
      rw [← GM.out] at hNN
      have hlen := fun ty => oc_len hO ty
      clear HM
      by_cases hd : N = i
      · subst hd
        have HE : Hid (blk (l.drop 0) (cn L, N) = R) := hid (by rw [GR.out]; unfold blocksB; rw [if_pos (hNN.2.1 rfl), ← GM.out]; rfl)
        have HO0 : Hid (∃ F M, Oc wr A N M F ∧ blk (l.drop 0) (F, M) = R) := hid ⟨_, _, hO, HE.out⟩
        clear HE hO hNN
        go_wp2_with fail
        clear hlen
        go_loopw [29] (fun k wi => ∃ (j : Nat), j ≤ n ∧ k = .int .i64 j ∧ Hid (∃ F M, Oc wi A N M F ∧ blk (l.drop j) (F, M) = R) ∧ Hid (Upd (fun _ => False) w wi)) (fun k _ => n - (intOf k).toNat)
        case atStart => exact ⟨0, by omega, rfl, HO0, HU⟩
        case round =>
          clear HO0 HU
          obtain ⟨j, hj, rfl, HM, HU⟩ := hrel
          rename World => wi
          by_cases hlt : j < n
          · have hln : j < l.length := by rw [← GN.out]; exact hlt
            obtain ⟨b, o, rfl, hbl, hc⟩ := (HN.out.upd (w := wi) HU.out (fun _ _ h => h)).ex (by omega)
            have HK := hid (HN.out.ok _ (getD_mem l j nd0 hln))
            have HD : Hid (l.drop j = l.getD j nd0 :: l.drop (j + 1)) := hid (by rw [List.drop_eq_getElem_cons hln]; simp [List.getD, hln])
            obtain ⟨c0, c1, c2, c3, c4, c5, c6, c7⟩ := hc j hln
            clear hc
            obtain ⟨F, M, hO, hB⟩ := HM.out
            rw [HD.out] at hB
            generalize l.getD j nd0 = d at *
            clear HM HD
            have hX : Upd (fun _ => False) wi (wi.alloc (.cells #[.int .i64 d.n, .int .i64 d.k, .int .i64 d.l, .int .i64 d.s, .int .i64 d.h, .slice d.ba d.bs.length d.bc, .slice d.na d.nn d.nc, .slice d.oa d.on d.oc] 47)) := Upd.alloc _ _ _
            have HU1 : Hid (Upd (fun _ => False) w (wi.alloc (.cells #[.int .i64 d.n, .int .i64 d.k, .int .i64 d.l, .int .i64 d.s, .int .i64 d.h, .slice d.ba d.bs.length d.bc, .slice d.na d.nn d.nc, .slice d.oa d.on d.oc] 47))) := hid (HU.out.trans hX (fun _ _ h => h))
            have HOX := hid (hO.upd hX (fun h => h))
            clear hO hX
            cases b1 : d.k == 1
            · have HM2 : Hid (∃ F M, Oc (wi.alloc (.cells #[.int .i64 d.n, .int .i64 d.k, .int .i64 d.l, .int .i64 d.s, .int .i64 d.h, .slice d.ba d.bs.length d.bc, .slice d.na d.nn d.nc, .slice d.oa d.on d.oc] 47)) A N M F ∧ blk (l.drop (j + 1)) (F, M) = R) := hid ⟨F, M, HOX.out, by rw [← hB]; simp [blk, b1]⟩
              clear hB
              go_wp2_with fail
              go_roundw
              case rel => exact ⟨j + 1, by omega, by go_num, HM2, HU1⟩
              case measure => simp [intOf]; omega
            · have HB : Hid (blk (d :: l.drop (j + 1)) (F, M) = R) := hid hB
              have KF : Hid (∀ w1, Calls Try.prog 16 _ w1 _) := hid fun w1 => fits_any w1 d HK.out.ws
              have hms := HOX.out.lt
              clear hB
              go_wp2_with fail
              refine (KF.out _).mono ?_
              rintro e w1 ⟨rfl, hU1⟩
              have hrow := hU1.heap (heap_alloc_new wi (.cells #[.int .i64 d.n, .int .i64 d.k, .int .i64 d.l, .int .i64 d.s, .int .i64 d.h, .slice d.ba d.bs.length d.bc, .slice d.na d.nn d.nc, .slice d.oa d.on d.oc] 47)) (fun h => h)
              have d5 : w1.cell? ⟨wi.heap.size, 5, none⟩ = some (.slice d.ba d.bs.length d.bc) := cell_of_row _ _ 5 _ _ _ hrow
              have HO1 := hid (HOX.out.upd hU1 (fun h => h))
              have HU2 : Hid (Upd (fun _ => False) w w1) := hid (HU1.out.trans hU1 (fun _ _ h => h))
              clear KF hrow hU1 HOX HU1
              cases b2 : fitB d
              · have HE : Hid (R = false) := hid (by rw [← HB.out]; simp [blk, b1, b2])
                go_wp2_with fail
                go_ret
                rw [HE.out]
                exact ⟨rfl, HU2.out⟩
              · have KT := hid (take_any w1 A N M F d.ba d.bs d.bc HO1.out (HK.out.bs.upd HU2.out (fun _ _ _ _ _ h => h)) (fun b o e hb h0 => by
                  obtain ⟨b', o', e', hb', _⟩ := HK.out.bs.ex h0
                  rw [e] at e'
                  injection e' with e'
                  injection e' with e'
                  omega) HK.out.bn)
                go_wp2_with fail
                refine KT.out.mono ?_
                rintro e w3 ⟨rfl, hO3, hU3⟩
                have HU3 : Hid (Upd (fun _ => False) w w3) := hid (HU2.out.trans hU3 (fun x h1 h2 => by have : x = A := h2; omega))
                have HO3 := hid hO3
                clear KT hO3 hU3
                cases b3 : (tak d.bs (F, M)).1
                · have HE : Hid (R = false) := hid (by rw [← HB.out]; simp [blk, b1, b2, b3])
                  go_wp2_with fail
                  go_ret
                  rw [HE.out]
                  exact ⟨rfl, HU3.out⟩
                · have HM2 : Hid (∃ F M, Oc w3 A N M F ∧ blk (l.drop (j + 1)) (F, M) = R) := hid ⟨_, _, HO3.out, by rw [← HB.out]; simp [blk, b1, b2, b3]⟩
                  go_wp2_with fail
                  go_roundw
                  case rel => exact ⟨j + 1, by omega, by go_num, HM2, HU3⟩
                  case measure => simp [intOf]; omega
          · have hin : j = n := by omega
            subst hin
            obtain ⟨F, M, hO, hB⟩ := HM.out
            rw [List.drop_eq_nil_of_le (by rw [← GN.out]; exact Nat.le_refl _)] at hB
            have hlen := fun ty => oc_len hO ty
            have HB : Hid (R = ((M : Int) == 0)) := hid hB.symm
            clear HM hO hB
            go_wp2_with fail
            go_ret
            rw [HB.out]
            exact ⟨rfl, HU.out⟩
      · have HE : Hid (R = false) := hid (by rw [GR.out]; unfold blocksB; rw [if_neg (fun h => hd (hNN.2.2 h))])
        have hb : ((N : Int) != (i : Int)) = true := by simp; omega
        clear hO hNN hd
        go_wp2_with fail
        go_ret
        rw [HE.out]
        exact ⟨rfl, HU.out⟩

end Go.Proofs.Ytgbikncpmgikaaa
