/- What Write does to a file that is alone in its system. -/
import Derived.Test.YtdnblbahecpmkaaGreatNGrow
import Derived.Test.YtdnblbahecpmkaaGreatClone
namespace Go.Proofs.YtdnblbahecpmkaaGreat
open Go.RowKit Go.ChangeMaps Go.MapKept
set_option linter.unusedVariables false
set_option maxRecDepth 20000

theorem getD_splice_in (l zs : List Int) (o k : Nat) (h : o + zs.length ≤ l.length) (hk : k < zs.length) : (splice l o zs).getD (o + k) 0 = zs.getD k 0 := by
  rw [List.getD_eq_getElem?_getD, getElem?_splice_in _ _ _ _ h hk, List.getD_eq_getElem?_getD]
theorem getD_splice_out (l zs : List Int) (o k : Nat) (h : o + zs.length ≤ l.length) (hk : k < o ∨ o + zs.length ≤ k) : (splice l o zs).getD k 0 = l.getD k 0 := by
  rw [List.getD_eq_getElem?_getD, getElem?_splice_out _ _ _ _ h hk, List.getD_eq_getElem?_getD]

/-- Bytes written over a file's. -/
def Nd.over (x : Nd) (off : Nat) (zs : List Int) : Nd := { x with b := splice x.b off zs }
theorem Nd.over_ok {x : Nd} (h : x.ok) (off : Nat) (zs : List Int) (hz : off + zs.length ≤ 96) : (x.over off zs).ok := ⟨by simp only [Nd.over]; rw [length_splice _ _ _ (by rw [h.b]; exact hz), h.b], h.B⟩

theorem Sy.over {w w' : World} {p : Nat} {S : Sg} (h : Sy w p S) (i : Nat) (hi : i < 17) (C : List Value) (hC : w.heap[p]? = some (.cells C.toArray 94 (0, 0))) (hS : Sls C S.d S.P S.T) (off : Nat) (zs : List Int) (hz : off + zs.length ≤ 96)
    (h' : w'.heap[p]? = some (.cells (splice C (1 + i * 107 + (4 + off)) (zs.map (Value.int .u8))).toArray 94 (0, 0))) (u : Upd (· = p) w w') : Sy w' p (S.at_ i ((S.P i).over off zs)) := by
  have hx := hS.ok i hi
  have hy := Nd.over_ok hx off zs hz
  have hl := hS.len
  have hfit : 1 + i * 107 + (4 + off) + (zs.map (Value.int .u8)).length ≤ C.length := by simp; omega
  refine h.turn i hi ((S.P i).over off zs) rfl rfl u ⟨_, h', hS.put i hi _ hy (by rw [length_splice _ _ _ hfit, hl]) (fun j hj => ?_) (fun j hj => ?_)⟩
  · exact getElem?_splice_out _ _ _ _ hfit (by simp; omega)
  · by_cases e : 4 + off ≤ j ∧ j < 4 + off + zs.length
    · obtain ⟨k, rfl⟩ : ∃ k, j = 4 + off + k := ⟨j - (4 + off), by omega⟩
      rw [show 1 + i * 107 + (4 + off + k) = 1 + i * 107 + (4 + off) + k by omega, getElem?_splice_in _ _ _ _ hfit (by simp; omega)]
      rw [show 4 + off + k = 4 + (off + k) by omega, ndC_b hy (off + k) (by omega)]
      simp only [Nd.over]
      rw [getD_splice_in _ _ _ _ (by rw [hx.b]; exact hz) (by omega), List.getElem?_map, List.getElem?_eq_getElem (by omega), List.getD_eq_getElem?_getD, List.getElem?_eq_getElem (by omega)]
      rfl
    · rw [getElem?_splice_out _ _ _ _ hfit (by simp; omega), hS.at_ i hi j hj]
      refine (ndC_agree hx hy j hj (fun q => ?_) (fun a ha hb => ?_) (fun _ _ _ => rfl) (fun _ => rfl)).symm
      · unfold ndC Nd.over
        rw [List.append_assoc, List.append_assoc, List.getElem?_append_left (by simp; omega), List.append_assoc, List.append_assoc, List.getElem?_append_left (by simp; omega)]
      · simp only [Nd.over]
        exact getD_splice_out _ _ _ _ (by rw [hx.b]; exact hz) (by omega)

theorem csize5 : (Tryz.prog.info? 5).map (·.size) = some 1 := by kernel_rfl

set_option maxHeartbeats 4000000 in
set_option maxRecDepth 20000 in
theorem write_ok (p : Nat) (S : Sg) (w : World) (i : Nat) (h1 : 1 ≤ i) (hi : i < 17) (x : Nd) (T : Nat → Bool) (H : Sy w p (S.bl i x T)) (hk : x.k = 1) (hB : Bok x T (need x.s)) (off len c : Nat) (a : Option Addr) (zs : List Int) (hsrc : Src w a len zs) (ha : ∀ b o, a = some ⟨b, o, none⟩ → b ≠ p) (h0 : 0 < len) (hz : off + len ≤ 96) :
    Calls Tryz.prog 157 #[.pointer (some ⟨p, 0, none⟩), .int .i64 (i : Int), .int .i64 (off : Int), .slice a len c] w fun e w' => e = .returned (.tuple #[.int .i64 (len : Int), .int .i64 0]) ∧
      (∃ B' T', Sy w' p (S.bl i { x with B := B', s := max x.s (off + len), b := splice x.b off zs } T') ∧ Bok { x with B := B', s := max x.s (off + len), b := splice x.b off zs } T' (need (max x.s (off + len)))) ∧ Upd (· = p) w w' := by
  obtain ⟨ab, ao, rfl, hlt, hcell⟩ := hsrc.2 h0
  have hap := ha ab ao rfl
  have hzl := hsrc.1
  have k1 := hid (file_yes p (S.bl i x T) w H i h1 hi (by rw [show (S.bl i x T).P i = x from updN_same _ _ _]; exact hk))
  have k2 : Hid (Calls Tryz.prog 59 #[.pointer (some ⟨p, 0, none⟩), .pointer (some ⟨p, 1 + i * 107, none⟩), .int .i64 ((off : Int) + (len : Int))] w fun e w' => e = .returned (.int .i64 0) ∧ Hid (∃ B' T' C, Sy w' p (S.bl i { x with B := B', s := max x.s (off + len) } T') ∧ Bok { x with B := B', s := max x.s (off + len) } T' (need (max x.s (off + len))) ∧ Upd (· = p) w w' ∧ w'.heap[p]? = some (.cells (List.toArray C) 94 (0, 0)) ∧ Sls C (S.bl i { x with B := B', s := max x.s (off + len) } T').d (S.bl i { x with B := B', s := max x.s (off + len) } T').P (S.bl i { x with B := B', s := max x.s (off + len) } T').T)) := by
    have := grow_any p S w i hi x T H hB (off + len) hz
    rw [show ((off + len : Nat) : Int) = (off : Int) + (len : Int) by omega] at this
    refine hid (this.mono ?_)
    rintro e w' ⟨rfl, ⟨B', T', q1, q2⟩, u⟩
    obtain ⟨C, q3, q4⟩ := q1.blk
    exact ⟨rfl, hid ⟨B', T', C, q1, q2, u, q3, q4⟩⟩
  have a1 : ¬ (off : Int) < 0 := by omega
  have a2 : ¬ (len : Int) = 0 := by omega
  have a3 : ¬ (96 : Int) < (off : Int) := by omega
  have a4 : ¬ (96 : Int) - (off : Int) < (len : Int) := by omega
  have a5 : IntKind.i64.wrap ((off : Int) + (len : Int)) = (off : Int) + (len : Int) := by rw [IntKind.wrap_i64]; omega
  have a6 : IntKind.i64.wrap ((96 : Int) - (off : Int)) = (96 : Int) - (off : Int) := by rw [IntKind.wrap_i64]; omega
  have a7 : (off : Int) ≤ 96 := by omega
  have a8 : (0 : Int) ≤ (off : Int) := by omega
  have HX := hid (And.intro hsrc (And.intro hap hcell))
  clear H hB hsrc ha hk hcell hap
  go_enter Tryz.func157, Tryz.ntmps157
  go_wp2_with fail
  refine k1.out.mono ?_
  rintro e w1 ⟨rfl, rfl⟩
  clear k1
  go_wp2_with fail
  refine k2.out.mono ?_
  rintro e w2 ⟨rfl, H2⟩
  clear k2
  obtain ⟨B', T', C, q1, q2, u, q3, q4⟩ := H2.out
  have hfit : 1 + i * 107 + 4 + off + len ≤ C.length := by rw [q4.len]; omega
  have HQ := hid (And.intro q1 (And.intro q2 (And.intro u (And.intro q3 q4))))
  have HF := hid hfit
  clear q1 q2 u q3 q4 hfit H2
  go_wp2_with (refine wpList_copy2 rfl (.tmp 50) (.tmp 51) 22 22 rfl 5 1 Tryz.underlying22 csize5 _ _ _ ⟨ab, ao, none⟩ len c rfl rfl len p (1 + i * 107 + 4 + off) ?_ ?_ C 94 HQ.out.2.2.2.1 (zs.map (Value.int .u8)) (by simp [hzl]) ?_ (by have := HF.out; simp [hzl]; omega) (fun v hv => by obtain ⟨z, _, rfl⟩ := List.mem_map.1 hv; rfl) ?_)
  case refine_1 => exact (Nat.min_eq_left (by omega)).symm
  case refine_2 => rfl
  case refine_3 =>
    intro j v hv
    obtain ⟨_, hap, hcell⟩ := HX.out
    have hj : j < len := by
      rcases Nat.lt_or_ge j len with h | h
      · exact h
      · rw [List.getElem?_eq_none (by simp; omega)] at hv; simp at hv
    rw [List.getElem?_map, List.getElem?_eq_getElem (by omega)] at hv
    simp only [Option.map_some, Option.some.injEq] at hv
    have := (World.cell?_of_block (a := ⟨ab, ao + j, none⟩) (HQ.out.2.2.1.block ab hlt hap)).trans (hcell j hj)
    rw [List.getD_eq_getElem?_getD, List.getElem?_eq_getElem (by omega)] at this
    rw [← hv, Addr.add_lit]
    exact this
  intro w3 hh u3
  have hS3 : Sy w3 p _ := HQ.out.1.over i hi C HQ.out.2.2.2.1 HQ.out.2.2.2.2 off zs (by omega) (by rw [show 1 + i * 107 + (4 + off) = 1 + i * 107 + 4 + off by omega]; exact hh.out) u3
  have e3 : (S.bl i { x with B := B', s := max x.s (off + len) } T').at_ i (((S.bl i { x with B := B', s := max x.s (off + len) } T').P i).over off zs) = S.bl i { x with B := B', s := max x.s (off + len), b := splice x.b off zs } T' := by
    rw [show (S.bl i { x with B := B', s := max x.s (off + len) } T').P i = { x with B := B', s := max x.s (off + len) } from updN_same _ _ _]
    unfold Sg.bl Sg.at_ Nd.over
    congr 1
    funext j
    by_cases e : j = i <;> simp [updN, e]
  rw [e3] at hS3
  have H3 : Hid ((∃ B' T', Sy w3 p (S.bl i { x with B := B', s := max x.s (off + len), b := splice x.b off zs } T') ∧ Bok { x with B := B', s := max x.s (off + len), b := splice x.b off zs } T' (need (max x.s (off + len)))) ∧ Upd (· = p) w1 w3) :=
    hid ⟨⟨B', T', hS3, ⟨HQ.out.2.1.in_, HQ.out.2.1.ne, HQ.out.2.1.n⟩⟩, HQ.out.2.2.1.trans u3 (fun _ _ h => h)⟩
  clear hS3 e3 hh u3 HQ HF
  go_wp2_with fail
  go_ret2
  exact ⟨rfl, H3.out.1, H3.out.2⟩

end Go.Proofs.YtdnblbahecpmkaaGreat
