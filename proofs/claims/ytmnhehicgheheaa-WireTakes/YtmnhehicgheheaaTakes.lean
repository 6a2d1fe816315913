/- The road of WireTakes: it returns true for every slice of bytes and every list of steps within reach, and leaves what was there. -/
import Derived.Test.YtmnhehicgheheaaByte
import Derived.Test.YtmnhehicgheheaaClone
namespace Go.Proofs.Ytmnhehicgheheaa
open Go.RowKit Num

theorem only_setCells (g : Nat) : ∀ (vs : List Value) (o : Nat) (w : World), Only g w (w.setCells g o vs)
  | [], _, w => Only.refl g w
  | v :: vs, o, w => (Only.setCell o v).trans (only_setCells g vs (o + 1) (w.setCell ⟨g, o, none⟩ v))

/-- 'clear' of what Clone made: nothing but its own row turns. -/
theorem clear_own {B g len c : Nat} {xs : List Value} (w : World) (ho : w.ownsRow B 5 1 (.slice (some ⟨g, 0, none⟩) len c) len xs) :
    ∃ w', (∀ ty, (Builtin.clear_ #[22] ty #[.slice (some ⟨g, 0, none⟩) len c]).run Try.prog w = .ok (.tuple #[]) w') ∧ Only g w w' := by
  rcases Nat.eq_zero_or_pos len with h0 | h0
  · subst h0
    exact ⟨w, fun ty => by simp [Builtin.clear_, run_underlying Try.underlying22], Only.refl g w⟩
  · refine ⟨_, fun ty => Lib.run_clear_slice (P := Try.prog) w 22 5 ty (.int .u8 0) Try.underlying22 (fun w => by simp [go_sem]) rfl rfl g 0 len c h0 (fun j hj => ?_) (fun j hj => ?_), only_setCells g _ 0 w⟩
    · rw [Nat.zero_add, ho.cellAt j (by omega)]
      have := ho.1
      simp [show j < xs.length by omega]
    · rw [Nat.zero_add]; exact ho.frozenAt j
theorem clear_none (len c : Nat) (w : World) (ty : TypeId) : (Builtin.clear_ #[22] ty #[.slice none len c]).run Try.prog w = .ok (.tuple #[]) w := by
  simp [Builtin.clear_, run_underlying Try.underlying22]

theorem Rdr.below {w w' : World} {B p g len at_ : Nat} {zs : List Int} (h : Rdr w B p g len at_ zs) (hb : Below w.heap.size w w') : Rdr w' B p g len at_ zs := by
  have hlt : p < w.heap.size := World.block_lt_of_cell? _ _ h.c1
  exact ⟨by rw [hb.block p hlt]; exact h.own, h.src.below hb, h.lo, h.mid, h.ne, h.fit, h.cap⟩

/-- The steps, as they lie. -/
def Steps (w : World) (al : Option Addr) (ll : Nat) (K M : Nat → Int) : Prop :=
  0 < ll → ∃ b o, al = some ⟨b, o, none⟩ ∧ b < w.heap.size ∧ ∀ i, i < ll → w.cell? ⟨b, o + i * 2, none⟩ = some (.int .i64 (K i)) ∧ w.cell? ⟨b, o + (i * 2 + 1), none⟩ = some (.int .i64 (M i))

/-- How the two readers lie, and that they tell the same. -/
structure Two (w wr : World) (B p g q len at_ : Nat) (zs : List Int) (a : Option Addr) (n c : Nat) : Prop where
  rdr : Rdr wr B p g len at_ zs
  ref : wr.heap[q]? = some (.cells #[.slice a n c] 29 (0, 0))
  src : Src w a n (zs.drop at_)
  below : Below w.heap.size w wr
  num : n = len - at_
  fit : n ≤ c
  cap : c ≤ 281474976710656
  nil : a = none → c = 0
  pq : p ≠ q
  gq : g ≠ q
  old : w.heap.size ≤ q
  bas : w.heap.size ≤ B
theorem Two.toRef {w wr : World} {B p g q len at_ n c : Nat} {zs : List Int} {a : Option Addr} (h : Two w wr B p g q len at_ zs a n c) : Ref wr q a n c :=
  ⟨cell_of_row wr q 0 _ _ _ h.ref, frozen_of_row wr q 0 _ _ h.ref, h.fit, h.cap, h.nil⟩
/-- Wire's reader has passed 'k' bytes. -/
theorem Two.left {w wr w1 : World} {B p g q len at_ n c : Nat} {zs : List Int} {a : Option Addr} (h : Two w wr B p g q len at_ zs a n c) (ho : Only p wr w1) : w1.heap[q]? = some (.cells #[.slice a n c] 29 (0, 0)) ∧ Below w.heap.size w w1 ∧ Src w1 a n (zs.drop at_) := by
  have hb : Below w.heap.size w w1 := h.below.trans (ho.below (Nat.le_trans h.bas h.rdr.mid))
  exact ⟨by rw [ho.block q (Ne.symm h.pq)]; exact h.ref, hb, h.src.below hb⟩
theorem Two.both {w wr w1 w2 : World} {B p g q len at_ n c k : Nat} {zs : List Int} {a : Option Addr} (h : Two w wr B p g q len at_ zs a n c) (ho : Only p wr w1) (hr : Rdr w1 B p g len (at_ + k) zs)
    (hk : (k = 0 ∧ w2 = w1) ∨ Kept w1 w2 q a n (zs.drop at_) k) : ∃ a' c', Two w w2 B p g q len (at_ + k) zs a' (len - (at_ + k)) c' := by
  obtain ⟨l1, l2, _⟩ := h.left ho
  rcases hk with ⟨rfl, rfl⟩ | ⟨a', n', c', rfl, hn, hf, hc, hnl, hs⟩
  · have e : n = len - (at_ + 0) := h.num
    exact ⟨a, c, hr, by rw [← e]; exact l1, by rw [← e]; exact h.src, l2, rfl, by rw [← e]; exact h.fit, h.cap, h.nil, h.pq, h.gq, h.old, h.bas⟩
  · have e : n' = len - (at_ + k) := by rw [hn, h.num]; omega
    subst e
    refine ⟨a', c', hr.only (Only.setCell 0 _) h.pq h.gq, ?_, ?_, l2.setCell (p := ⟨q, 0, none⟩) h.old _, rfl, hf, hc, hnl, h.pq, h.gq, h.old, h.bas⟩
    · rw [heap_setCell_same w1 q 0 _ _ _ l1]; rfl
    · have := hs w h.src
      rwa [List.drop_drop] at this

theorem Two.alloc {w wr : World} {B p g q len at_ n c : Nat} {zs : List Int} {a : Option Addr} (h : Two w wr B p g q len at_ zs a n c) (o : Obj) : Two w (wr.alloc o) B p g q len at_ zs a n c := by
  have hb : Below wr.heap.size wr (wr.alloc o) := (Below.refl _ _).alloc (Nat.le_refl _) _
  have hq : q < wr.heap.size := World.block_lt_of_cell? _ _ h.toRef.cell
  exact ⟨h.rdr.below hb, by rw [hb.block q hq]; exact h.ref, h.src, h.below.alloc h.below.size _, h.num, h.fit, h.cap, h.nil, h.pq, h.gq, h.old, h.bas⟩
theorem Two.drewN {w wr : World} {B p g q len at_ n c : Nat} {zs : List Int} {a : Option Addr} (h : Two w wr B p g q len at_ zs a n c) (m : Nat) : Two w (wr.drewN m) B p g q len at_ zs a n c :=
  ⟨h.rdr.drewN m, h.ref, h.src, below_drewN h.below m, h.num, h.fit, h.cap, h.nil, h.pq, h.gq, h.old, h.bas⟩
/-- How the document's reader lies behind a step of wire's. -/
theorem Two.refLeft {w wr w1 : World} {B p g q len at_ n c : Nat} {zs : List Int} {a : Option Addr} (h : Two w wr B p g q len at_ zs a n c) (ho : Only p wr w1) : Ref w1 q a n c ∧ Src w1 a n (zs.drop at_) := by
  obtain ⟨l1, _, l3⟩ := h.left ho
  exact ⟨⟨cell_of_row w1 q 0 _ _ _ l1, frozen_of_row w1 q 0 _ _ l1, h.fit, h.cap, h.nil⟩, l3⟩
theorem left_eq (B p g len at_ L : Nat) (zs : List Int) (w : World) (h : Rdr w B p g len at_ zs) (hL : L = len - at_) :
    Calls Try.prog 17 #[.pointer (some ⟨p, 0, none⟩)] w fun e w' => e = .returned (.int .i64 (L : Int)) ∧ ∃ n, w' = w.drewN n := by
  subst hL
  exact left_any B p g len at_ zs w h

set_option maxHeartbeats 8000000 in
set_option maxRecDepth 100000 in
theorem takes_road (a0 : Option Addr) (len cap : Nat) (zs : List Int) (al : Option Addr) (ll cl : Nat) (K M : Nat → Int) (w : World) (hs : Src w a0 len zs) (hz : Bytes zs) (hnil : a0 = none → cap = 0) (hfit : len ≤ cap) (hcap : cap ≤ 140737488355328)
    (hst : Steps w al ll K M) (hll : ll ≤ 140737488355328) (hKM : ∀ i, i < ll → -9223372036854775808 ≤ K i ∧ K i ≤ 9223372036854775807 ∧ -9223372036854775808 ≤ M i ∧ M i ≤ 9223372036854775807) :
    Calls Try.prog 3 #[.slice a0 len cap, .slice al ll cl] w fun e w' => e = .returned (.bool true) ∧ Below w.heap.size w w' := by
  have HS := hid hs
  have HZ := hid hz
  have HST := hid hst
  have HKM := hid hKM
  cases a0 with
  | none =>
    have h0 := hnil rfl
    obtain rfl : len = 0 := by omega
    subst h0
    have kc := hid (clone_nil 0 0 w)
    have ko := hid (over_any none 0 0 zs w hs (by omega))
    clear hs hz hst hKM
    go_enter Try.func3, Try.ntmps3
    go_wp2_with fail
    refine kc.out.mono ?_
    rintro e w1 ⟨rfl, rfl⟩
    go_wp2_with fail
    refine ko.out.mono ?_
    rintro e w2 ⟨p, rfl, hr, hp, hb⟩
    have hclr := fun ty => clear_none 0 0 (w2.alloc (.cells #[.slice none 0 0] 29)) ty
    go_wp2_with fail
    obtain ⟨W4, gW⟩ : ∃ W4, W4 = w2.alloc (.cells #[.slice none 0 0] 29) := ⟨_, rfl⟩
    obtain ⟨q, gq⟩ : ∃ q, q = w2.heap.size := ⟨_, rfl⟩
    obtain ⟨g, gg⟩ : ∃ g, g = w1.heap.size := ⟨_, rfl⟩
    have hbA : Below w2.heap.size w2 W4 := by rw [gW]; exact (Below.refl _ _).alloc (Nat.le_refl _) _
    have T0 : Hid (Two w1 W4 g p g q 0 0 zs none (0 - 0) 0) := by
      refine ⟨by rw [gg]; exact hr.below hbA, by rw [gW, gq]; exact heap_alloc_new w2 _, by simpa using HS.out, hb.trans (hbA.mono hb.size), rfl, by omega, by omega, fun _ => rfl, ?_, ?_, ?_, ?_⟩
      · rw [gq]; exact Nat.ne_of_lt hp
      · have := hb.size; have := hr.mid; rw [gg, gq]; omega
      · rw [gq]; exact hb.size
      · rw [gg]; exact Nat.le_refl _
    rw [← gW, ← gq]
    have hgq : q < W4.heap.size := by rw [gW, gq]; simp
    clear gW gq gg hbA hr hp hb
    clear hclr
    go_loopw [30] (fun k wr => ∃ (i at_ : Nat) (a : Option Addr) (c : Nat), i ≤ ll ∧ at_ ≤ 0 ∧ k = .int .i64 i ∧ Hid (Two w1 wr g p g q 0 at_ zs a (0 - at_) c)) (fun k _ => ll - (intOf k).toNat)
    case atStart => exact ⟨0, 0, _, _, Nat.zero_le _, Nat.zero_le _, rfl, T0⟩
    case round =>
      obtain ⟨i, at_, a, c, hil, hat, rfl, HTw⟩ := hrel
      by_cases hlt : i < ll
      · obtain ⟨bl, ol, rfl, hbl, hstep⟩ := HST.out (by omega)
        have hcl := (hstep i hlt).1
        have hcr := (hstep i hlt).2
        have e0 := (HTw.out.below.cell (p := ⟨bl, ol + i * 2, none⟩) hbl).trans hcl
        have e1 := (HTw.out.below.cell (p := ⟨bl, ol + (i * 2 + 1), none⟩) hbl).trans hcr
        rw [← Nat.add_assoc] at e1
        have hkm := HKM.out i hlt
        obtain ⟨kk, gk⟩ : ∃ kk, kk = K i := ⟨_, rfl⟩
        obtain ⟨mm, gm⟩ : ∃ mm, mm = M i := ⟨_, rfl⟩
        rw [← gk] at e0 hkm
        rw [← gm] at e1 hkm
        clear hstep hcl hcr gk gm
        obtain ⟨U, hU⟩ : ∃ U : Nat, IntKind.u64.wrap kk = (U : Int) := ⟨(IntKind.u64.wrap kk).toNat, by rw [IntKind.wrap_u64]; omega⟩
        obtain ⟨T, hT⟩ : ∃ T : Nat, (U : Int) % 4 = (T : Int) := ⟨U % 4, by omega⟩
        have hT4 : T < 4 := by omega
        have hU0 : (0 : Int) ≤ (U : Int) := by omega
        have hsz := HTw.out.below.size
        have HK := hid (HTw.out.alloc (Obj.cells #[Value.int IntKind.i64 kk, Value.int IntKind.i64 mm] 31))
        rcases (show T = 0 ∨ T = 1 ∨ T = 2 ∨ T = 3 by omega) with rfl | rfl | rfl | rfl
        · obtain ⟨D, gD⟩ : ∃ D, D = dec (zs.drop at_) := ⟨_, rfl⟩
          have k1 := hid (fun (wx : World) (hx : Rdr wx g p g 0 at_ zs) => uint_any g p g 0 at_ zs wx hx HZ.out)
          have k2 := hid (fun (wx : World) (hx : Ref wx q a (0 - at_) c) (hs : Src wx a (0 - at_) (zs.drop at_)) => refuint_any q a (0 - at_) c (zs.drop at_) wx hx hs (HZ.out.drop at_))
          rw [← gD] at k1 k2
          clear gD
          obtain ⟨v, k, e⟩ := D
          simp only at k1 k2
          go_wp2_with fail
          refine (k1.out _ HK.out.rdr).mono ?_
          rintro e w3 ⟨rfl, r1, o1'⟩
          obtain ⟨f1, f2⟩ := HK.out.refLeft o1'
          have F1 := hid f1
          have F2 := hid f2
          have R1 := hid r1
          have O1' := hid o1'
          clear f1 f2 r1 o1'
          go_wp2_with fail
          refine (k2.out _ F1.out F2.out).mono ?_
          rintro e w4 ⟨rfl, hk⟩
          have r1 := R1.out
          have o1' := O1'.out
          obtain ⟨a', c', t2⟩ := HK.out.both o1' r1 (.inr hk)
          clear hk F1 F2 R1 O1'
          have hfit2 := r1.fit
          obtain ⟨L, gL⟩ : ∃ L, L = 0 - (at_ + k) := ⟨_, rfl⟩
          rw [← gL] at t2
          have hcq := t2.toRef.cell
          have HT2 := hid t2
          have HL := hid gL
          clear t2 gL r1 o1' 
          go_wp2_with fail
          go_quiet ((go_at_call 17; refine Calls.quiet_of (left_eq g p g 0 (at_ + k) L zs _ (HT2.out.rdr.drewN _) HL.out)))
          go_wp2_with fail
          go_roundw
          case rel => exact ⟨i + 1, at_ + k, a', c', by omega, hfit2, by go_num, hid (HL.out ▸ (HT2.out.drewN _))⟩
          case measure => simp [intOf]; omega
        · obtain ⟨D, gD⟩ : ∃ D, D = dec (zs.drop at_) := ⟨_, rfl⟩
          have k1 := hid (fun (wx : World) (hx : Rdr wx g p g 0 at_ zs) => rsigned_any g p g 0 at_ zs wx hx HZ.out)
          have k2 := hid (fun (wx : World) (hx : Ref wx q a (0 - at_) c) (hs : Src wx a (0 - at_) (zs.drop at_)) => refsigned_any q a (0 - at_) c (zs.drop at_) wx hx hs (HZ.out.drop at_))
          rw [← gD] at k1 k2
          clear gD
          obtain ⟨v, k, e⟩ := D
          simp only at k1 k2
          obtain ⟨X, gX⟩ : ∃ X, X = unf v := ⟨_, rfl⟩
          rw [← gX] at k1 k2
          clear gX
          go_wp2_with fail
          refine (k1.out _ HK.out.rdr).mono ?_
          rintro e w3 ⟨rfl, r1, o1'⟩
          obtain ⟨f1, f2⟩ := HK.out.refLeft o1'
          have F1 := hid f1
          have F2 := hid f2
          have R1 := hid r1
          have O1' := hid o1'
          clear f1 f2 r1 o1'
          go_wp2_with fail
          refine (k2.out _ F1.out F2.out).mono ?_
          rintro e w4 ⟨rfl, hk⟩
          have r1 := R1.out
          have o1' := O1'.out
          obtain ⟨a', c', t2⟩ := HK.out.both o1' r1 (.inr hk)
          clear hk F1 F2 R1 O1'
          have hfit2 := r1.fit
          obtain ⟨L, gL⟩ : ∃ L, L = 0 - (at_ + k) := ⟨_, rfl⟩
          rw [← gL] at t2
          have hcq := t2.toRef.cell
          have HT2 := hid t2
          have HL := hid gL
          clear t2 gL r1 o1' 
          go_wp2_with fail
          go_quiet ((go_at_call 17; refine Calls.quiet_of (left_eq g p g 0 (at_ + k) L zs _ (HT2.out.rdr.drewN _) HL.out)))
          go_wp2_with fail
          go_roundw
          case rel => exact ⟨i + 1, at_ + k, a', c', by omega, hfit2, by go_num, hid (HL.out ▸ (HT2.out.drewN _))⟩
          case measure => simp [intOf]; omega
        · obtain ⟨D, gD⟩ : ∃ D, D = byt (zs.drop at_) := ⟨_, rfl⟩
          have k1 := hid (fun (wx : World) (hx : Rdr wx g p g 0 at_ zs) => rdbyte_any g p g 0 at_ zs wx hx)
          have k2 := hid (fun (wx : World) (hx : Ref wx q a (0 - at_) c) (hs : Src wx a (0 - at_) (zs.drop at_)) => refbyte_any q a (0 - at_) c (zs.drop at_) wx hx hs)
          rw [← gD] at k1 k2
          clear gD
          obtain ⟨v, k, e⟩ := D
          simp only at k1 k2
          go_wp2_with fail
          refine (k1.out _ HK.out.rdr).mono ?_
          rintro e w3 ⟨rfl, r1, o1'⟩
          obtain ⟨f1, f2⟩ := HK.out.refLeft o1'
          have F1 := hid f1
          have F2 := hid f2
          have R1 := hid r1
          have O1' := hid o1'
          clear f1 f2 r1 o1'
          go_wp2_with fail
          refine (k2.out _ F1.out F2.out).mono ?_
          rintro e w4 ⟨rfl, hk⟩
          have r1 := R1.out
          have o1' := O1'.out
          obtain ⟨a', c', t2⟩ := HK.out.both o1' r1 (hk)
          clear hk F1 F2 R1 O1'
          have hfit2 := r1.fit
          obtain ⟨L, gL⟩ : ∃ L, L = 0 - (at_ + k) := ⟨_, rfl⟩
          rw [← gL] at t2
          have hcq := t2.toRef.cell
          have HT2 := hid t2
          have HL := hid gL
          clear t2 gL r1 o1' 
          go_wp2_with fail
          go_quiet ((go_at_call 17; refine Calls.quiet_of (left_eq g p g 0 (at_ + k) L zs _ (HT2.out.rdr.drewN _) HL.out)))
          go_wp2_with fail
          go_roundw
          case rel => exact ⟨i + 1, at_ + k, a', c', by omega, hfit2, by go_num, hid (HL.out ▸ (HT2.out.drewN _))⟩
          case measure => simp [intOf]; omega
        · obtain ⟨D, gD⟩ : ∃ D, D = txt (zs.drop at_) mm := ⟨_, rfl⟩
          have k1 := hid (fun (wx : World) (hx : Rdr wx g p g 0 at_ zs) => rtext_any g p g 0 at_ zs mm wx hx HZ.out)
          have k2 := hid (fun (wx : World) (hx : Ref wx q a (0 - at_) c) (hs : Src wx a (0 - at_) (zs.drop at_)) => reftext_any q a (0 - at_) c (zs.drop at_) mm wx hx hs (HZ.out.drop at_))
          rw [← gD] at k1 k2
          clear gD
          obtain ⟨v, k, e⟩ := D
          simp only at k1 k2
          obtain ⟨X, gX⟩ : ∃ X, X = strOfNums v := ⟨_, rfl⟩
          rw [← gX] at k1 k2
          clear gX
          go_wp2_with fail
          refine (k1.out _ HK.out.rdr).mono ?_
          rintro e w3 ⟨rfl, r1, o1'⟩
          obtain ⟨f1, f2⟩ := HK.out.refLeft o1'
          have F1 := hid f1
          have F2 := hid f2
          have R1 := hid r1
          have O1' := hid o1'
          have hmm : w3.cell? ⟨wr.heap.size, 1, none⟩ = some (.int .i64 mm) := by
            have hpw : p < wr.heap.size := World.block_lt_of_cell? _ _ HTw.out.rdr.c1
            refine (World.cell?_of_block (w := wr.alloc (Obj.cells #[Value.int IntKind.i64 kk, Value.int IntKind.i64 mm] 31)) (o1'.block wr.heap.size (by omega))).trans ?_
            simp [go_sem]
          clear f1 f2 r1 o1'
          go_wp2_with fail
          refine (k2.out _ F1.out F2.out).mono ?_
          rintro e w4 ⟨rfl, hk⟩
          have r1 := R1.out
          have o1' := O1'.out
          obtain ⟨a', c', t2⟩ := HK.out.both o1' r1 (hk)
          clear hk F1 F2 R1 O1'
          have hfit2 := r1.fit
          obtain ⟨L, gL⟩ : ∃ L, L = 0 - (at_ + k) := ⟨_, rfl⟩
          rw [← gL] at t2
          have hcq := t2.toRef.cell
          have HT2 := hid t2
          have HL := hid gL
          clear t2 gL r1 o1' 
          go_wp2_with fail
          go_quiet ((go_at_call 17; refine Calls.quiet_of (left_eq g p g 0 (at_ + k) L zs _ (HT2.out.rdr.drewN _) HL.out)))
          go_wp2_with fail
          go_roundw
          case rel => exact ⟨i + 1, at_ + k, a', c', by omega, hfit2, by go_num, hid (HL.out ▸ (HT2.out.drewN _))⟩
          case measure => simp [intOf]; omega
      · obtain rfl : i = ll := by omega
        obtain ⟨L, gL⟩ : ∃ L, L = 0 - at_ := ⟨_, rfl⟩
        have t2 := HTw.out
        rw [← gL] at t2
        have hcq := t2.toRef.cell
        have HT2 := hid t2
        have HL := hid gL
        by_cases hal : at_ < 0
        · exfalso; omega
        · have ke := hid (fun (wx : World) (hx : Rdr wx g p g 0 at_ zs) => rdend_any g p g 0 at_ zs wx hx)
          rw [if_neg hal] at ke
          obtain rfl : L = 0 := by omega
          clear t2 gL HTw hal
          go_wp2_with fail
          go_quiet (first | (go_at_call 18; refine Calls.quiet_of (ke.out _ (HT2.out.rdr.drewN _))) | (go_at_call 17; refine Calls.quiet_of (left_eq g p g 0 at_ 0 zs _ (HT2.out.rdr.drewN _) HL.out)))
          go_wp2_with fail
          go_ret
          exact ⟨rfl, below_drewN HT2.out.below _⟩
  | some ad =>
    have kc := hid (clone_any ad len cap zs w hs (by omega))
    clear hs hz hst hKM
    go_enter Try.func3, Try.ntmps3
    go_wp2_with fail
    refine kc.out.mono ?_
    rintro e w1 ⟨g1, c1, rfl, o1, hb1⟩
    have O1 := hid o1
    go_wp2_with fail
    refine (over_any _ len c1 zs _ (Src.own O1.out) (by omega)).mono ?_
    rintro e w2 ⟨p, rfl, hr, hp, hb2⟩
    obtain ⟨W4, hclr, hon⟩ := clear_own (w2.alloc (.cells #[.slice (some ad) len cap] 29)) (own_below (own_below O1.out hb2) ((Below.refl _ _).alloc (Nat.le_refl _) _))
    go_wp2_with fail
    obtain ⟨q, gq⟩ : ∃ q, q = w2.heap.size := ⟨_, rfl⟩
    obtain ⟨g, gg⟩ : ∃ g, g = w1.heap.size := ⟨_, rfl⟩
    have hbA : Below w2.heap.size w2 (w2.alloc (.cells #[.slice (some ad) len cap] 29)) := (Below.refl _ _).alloc (Nat.le_refl _) _
    have hg1 := o1.lt g1 rfl
    have hs1 := hb1.size
    have hs2 := hb2.size
    have T0 : Hid (Two w W4 g p g q len 0 zs (some ad) (len - 0) cap) := by
      have hm := hr.mid
      refine ⟨by rw [gg]; exact (hr.below hbA).only hon (by omega) (by omega), by rw [hon.block q (by omega), gq]; exact heap_alloc_new w2 _, by simpa using HS.out, hb1.trans ((hb2.mono hs1).trans ((hbA.mono (by omega)).trans (hon.below hg1.1))), rfl, hfit, by omega, (fun h => by cases h), ?_, ?_, ?_, ?_⟩
      · rw [gq]; exact Nat.ne_of_lt hp
      · rw [gg, gq]; omega
      · rw [gq]; omega
      · rw [gg]; omega
    rw [← gq]
    have hgq : q < W4.heap.size := by rw [hon.size, gq]; simp
    clear gq gg hbA hr hp hb1 hb2 hon o1 O1 hg1 hs1 hs2
    clear hclr
    go_loopw [30] (fun k wr => ∃ (i at_ : Nat) (a : Option Addr) (c : Nat), i ≤ ll ∧ at_ ≤ len ∧ k = .int .i64 i ∧ Hid (Two w wr g p g q len at_ zs a (len - at_) c)) (fun k _ => ll - (intOf k).toNat)
    case atStart => exact ⟨0, 0, _, _, Nat.zero_le _, Nat.zero_le _, rfl, T0⟩
    case round =>
      obtain ⟨i, at_, a, c, hil, hat, rfl, HTw⟩ := hrel
      by_cases hlt : i < ll
      · obtain ⟨bl, ol, rfl, hbl, hstep⟩ := HST.out (by omega)
        have hcl := (hstep i hlt).1
        have hcr := (hstep i hlt).2
        have e0 := (HTw.out.below.cell (p := ⟨bl, ol + i * 2, none⟩) hbl).trans hcl
        have e1 := (HTw.out.below.cell (p := ⟨bl, ol + (i * 2 + 1), none⟩) hbl).trans hcr
        rw [← Nat.add_assoc] at e1
        have hkm := HKM.out i hlt
        obtain ⟨kk, gk⟩ : ∃ kk, kk = K i := ⟨_, rfl⟩
        obtain ⟨mm, gm⟩ : ∃ mm, mm = M i := ⟨_, rfl⟩
        rw [← gk] at e0 hkm
        rw [← gm] at e1 hkm
        clear hstep hcl hcr gk gm
        obtain ⟨U, hU⟩ : ∃ U : Nat, IntKind.u64.wrap kk = (U : Int) := ⟨(IntKind.u64.wrap kk).toNat, by rw [IntKind.wrap_u64]; omega⟩
        obtain ⟨T, hT⟩ : ∃ T : Nat, (U : Int) % 4 = (T : Int) := ⟨U % 4, by omega⟩
        have hT4 : T < 4 := by omega
        have hU0 : (0 : Int) ≤ (U : Int) := by omega
        have hsz := HTw.out.below.size
        have HK := hid (HTw.out.alloc (Obj.cells #[Value.int IntKind.i64 kk, Value.int IntKind.i64 mm] 31))
        rcases (show T = 0 ∨ T = 1 ∨ T = 2 ∨ T = 3 by omega) with rfl | rfl | rfl | rfl
        · obtain ⟨D, gD⟩ : ∃ D, D = dec (zs.drop at_) := ⟨_, rfl⟩
          have k1 := hid (fun (wx : World) (hx : Rdr wx g p g len at_ zs) => uint_any g p g len at_ zs wx hx HZ.out)
          have k2 := hid (fun (wx : World) (hx : Ref wx q a (len - at_) c) (hs : Src wx a (len - at_) (zs.drop at_)) => refuint_any q a (len - at_) c (zs.drop at_) wx hx hs (HZ.out.drop at_))
          rw [← gD] at k1 k2
          clear gD
          obtain ⟨v, k, e⟩ := D
          simp only at k1 k2
          go_wp2_with fail
          refine (k1.out _ HK.out.rdr).mono ?_
          rintro e w3 ⟨rfl, r1, o1'⟩
          obtain ⟨f1, f2⟩ := HK.out.refLeft o1'
          have F1 := hid f1
          have F2 := hid f2
          have R1 := hid r1
          have O1' := hid o1'
          clear f1 f2 r1 o1'
          go_wp2_with fail
          refine (k2.out _ F1.out F2.out).mono ?_
          rintro e w4 ⟨rfl, hk⟩
          have r1 := R1.out
          have o1' := O1'.out
          obtain ⟨a', c', t2⟩ := HK.out.both o1' r1 (.inr hk)
          clear hk F1 F2 R1 O1'
          have hfit2 := r1.fit
          obtain ⟨L, gL⟩ : ∃ L, L = len - (at_ + k) := ⟨_, rfl⟩
          rw [← gL] at t2
          have hcq := t2.toRef.cell
          have HT2 := hid t2
          have HL := hid gL
          clear t2 gL r1 o1' 
          go_wp2_with fail
          go_quiet ((go_at_call 17; refine Calls.quiet_of (left_eq g p g len (at_ + k) L zs _ (HT2.out.rdr.drewN _) HL.out)))
          go_wp2_with fail
          go_roundw
          case rel => exact ⟨i + 1, at_ + k, a', c', by omega, hfit2, by go_num, hid (HL.out ▸ (HT2.out.drewN _))⟩
          case measure => simp [intOf]; omega
        · obtain ⟨D, gD⟩ : ∃ D, D = dec (zs.drop at_) := ⟨_, rfl⟩
          have k1 := hid (fun (wx : World) (hx : Rdr wx g p g len at_ zs) => rsigned_any g p g len at_ zs wx hx HZ.out)
          have k2 := hid (fun (wx : World) (hx : Ref wx q a (len - at_) c) (hs : Src wx a (len - at_) (zs.drop at_)) => refsigned_any q a (len - at_) c (zs.drop at_) wx hx hs (HZ.out.drop at_))
          rw [← gD] at k1 k2
          clear gD
          obtain ⟨v, k, e⟩ := D
          simp only at k1 k2
          obtain ⟨X, gX⟩ : ∃ X, X = unf v := ⟨_, rfl⟩
          rw [← gX] at k1 k2
          clear gX
          go_wp2_with fail
          refine (k1.out _ HK.out.rdr).mono ?_
          rintro e w3 ⟨rfl, r1, o1'⟩
          obtain ⟨f1, f2⟩ := HK.out.refLeft o1'
          have F1 := hid f1
          have F2 := hid f2
          have R1 := hid r1
          have O1' := hid o1'
          clear f1 f2 r1 o1'
          go_wp2_with fail
          refine (k2.out _ F1.out F2.out).mono ?_
          rintro e w4 ⟨rfl, hk⟩
          have r1 := R1.out
          have o1' := O1'.out
          obtain ⟨a', c', t2⟩ := HK.out.both o1' r1 (.inr hk)
          clear hk F1 F2 R1 O1'
          have hfit2 := r1.fit
          obtain ⟨L, gL⟩ : ∃ L, L = len - (at_ + k) := ⟨_, rfl⟩
          rw [← gL] at t2
          have hcq := t2.toRef.cell
          have HT2 := hid t2
          have HL := hid gL
          clear t2 gL r1 o1' 
          go_wp2_with fail
          go_quiet ((go_at_call 17; refine Calls.quiet_of (left_eq g p g len (at_ + k) L zs _ (HT2.out.rdr.drewN _) HL.out)))
          go_wp2_with fail
          go_roundw
          case rel => exact ⟨i + 1, at_ + k, a', c', by omega, hfit2, by go_num, hid (HL.out ▸ (HT2.out.drewN _))⟩
          case measure => simp [intOf]; omega
        · obtain ⟨D, gD⟩ : ∃ D, D = byt (zs.drop at_) := ⟨_, rfl⟩
          have k1 := hid (fun (wx : World) (hx : Rdr wx g p g len at_ zs) => rdbyte_any g p g len at_ zs wx hx)
          have k2 := hid (fun (wx : World) (hx : Ref wx q a (len - at_) c) (hs : Src wx a (len - at_) (zs.drop at_)) => refbyte_any q a (len - at_) c (zs.drop at_) wx hx hs)
          rw [← gD] at k1 k2
          clear gD
          obtain ⟨v, k, e⟩ := D
          simp only at k1 k2
          go_wp2_with fail
          refine (k1.out _ HK.out.rdr).mono ?_
          rintro e w3 ⟨rfl, r1, o1'⟩
          obtain ⟨f1, f2⟩ := HK.out.refLeft o1'
          have F1 := hid f1
          have F2 := hid f2
          have R1 := hid r1
          have O1' := hid o1'
          clear f1 f2 r1 o1'
          go_wp2_with fail
          refine (k2.out _ F1.out F2.out).mono ?_
          rintro e w4 ⟨rfl, hk⟩
          have r1 := R1.out
          have o1' := O1'.out
          obtain ⟨a', c', t2⟩ := HK.out.both o1' r1 (hk)
          clear hk F1 F2 R1 O1'
          have hfit2 := r1.fit
          obtain ⟨L, gL⟩ : ∃ L, L = len - (at_ + k) := ⟨_, rfl⟩
          rw [← gL] at t2
          have hcq := t2.toRef.cell
          have HT2 := hid t2
          have HL := hid gL
          clear t2 gL r1 o1' 
          go_wp2_with fail
          go_quiet ((go_at_call 17; refine Calls.quiet_of (left_eq g p g len (at_ + k) L zs _ (HT2.out.rdr.drewN _) HL.out)))
          go_wp2_with fail
          go_roundw
          case rel => exact ⟨i + 1, at_ + k, a', c', by omega, hfit2, by go_num, hid (HL.out ▸ (HT2.out.drewN _))⟩
          case measure => simp [intOf]; omega
        · obtain ⟨D, gD⟩ : ∃ D, D = txt (zs.drop at_) mm := ⟨_, rfl⟩
          have k1 := hid (fun (wx : World) (hx : Rdr wx g p g len at_ zs) => rtext_any g p g len at_ zs mm wx hx HZ.out)
          have k2 := hid (fun (wx : World) (hx : Ref wx q a (len - at_) c) (hs : Src wx a (len - at_) (zs.drop at_)) => reftext_any q a (len - at_) c (zs.drop at_) mm wx hx hs (HZ.out.drop at_))
          rw [← gD] at k1 k2
          clear gD
          obtain ⟨v, k, e⟩ := D
          simp only at k1 k2
          obtain ⟨X, gX⟩ : ∃ X, X = strOfNums v := ⟨_, rfl⟩
          rw [← gX] at k1 k2
          clear gX
          go_wp2_with fail
          refine (k1.out _ HK.out.rdr).mono ?_
          rintro e w3 ⟨rfl, r1, o1'⟩
          obtain ⟨f1, f2⟩ := HK.out.refLeft o1'
          have F1 := hid f1
          have F2 := hid f2
          have R1 := hid r1
          have O1' := hid o1'
          have hmm : w3.cell? ⟨wr.heap.size, 1, none⟩ = some (.int .i64 mm) := by
            have hpw : p < wr.heap.size := World.block_lt_of_cell? _ _ HTw.out.rdr.c1
            refine (World.cell?_of_block (w := wr.alloc (Obj.cells #[Value.int IntKind.i64 kk, Value.int IntKind.i64 mm] 31)) (o1'.block wr.heap.size (by omega))).trans ?_
            simp [go_sem]
          clear f1 f2 r1 o1'
          go_wp2_with fail
          refine (k2.out _ F1.out F2.out).mono ?_
          rintro e w4 ⟨rfl, hk⟩
          have r1 := R1.out
          have o1' := O1'.out
          obtain ⟨a', c', t2⟩ := HK.out.both o1' r1 (hk)
          clear hk F1 F2 R1 O1'
          have hfit2 := r1.fit
          obtain ⟨L, gL⟩ : ∃ L, L = len - (at_ + k) := ⟨_, rfl⟩
          rw [← gL] at t2
          have hcq := t2.toRef.cell
          have HT2 := hid t2
          have HL := hid gL
          clear t2 gL r1 o1' 
          go_wp2_with fail
          go_quiet ((go_at_call 17; refine Calls.quiet_of (left_eq g p g len (at_ + k) L zs _ (HT2.out.rdr.drewN _) HL.out)))
          go_wp2_with fail
          go_roundw
          case rel => exact ⟨i + 1, at_ + k, a', c', by omega, hfit2, by go_num, hid (HL.out ▸ (HT2.out.drewN _))⟩
          case measure => simp [intOf]; omega
      · obtain rfl : i = ll := by omega
        obtain ⟨L, gL⟩ : ∃ L, L = len - at_ := ⟨_, rfl⟩
        have t2 := HTw.out
        rw [← gL] at t2
        have hcq := t2.toRef.cell
        have HT2 := hid t2
        have HL := hid gL
        by_cases hal : at_ < len
        · have ke := hid (fun (wx : World) (hx : Rdr wx g p g len at_ zs) => rdend_any g p g len at_ zs wx hx)
          rw [if_pos hal] at ke
          have q1 : ((L : Int) == 0) = false := by simp; omega
          have q2 : decide ((0 : Int) < (L : Int)) = true := by simp; omega
          have q3 : (L == 0) = false := by simp; omega
          have q4 : decide (0 < L) = true := by simp; omega
          have q5 : 0 < L := by omega
          have q6 : ¬ L = 0 := by omega
          clear t2 gL HTw hal
          go_wp2_with fail
          go_quiet (first | (go_at_call 18; refine Calls.quiet_of (ke.out _ (HT2.out.rdr.drewN _))) | (go_at_call 17; refine Calls.quiet_of (left_eq g p g len at_ L zs _ (HT2.out.rdr.drewN _) HL.out)))
          go_wp2_with fail
          go_ret
          exact ⟨rfl, below_drewN HT2.out.below _⟩
        · have ke := hid (fun (wx : World) (hx : Rdr wx g p g len at_ zs) => rdend_any g p g len at_ zs wx hx)
          rw [if_neg hal] at ke
          obtain rfl : L = 0 := by omega
          clear t2 gL HTw hal
          go_wp2_with fail
          go_quiet (first | (go_at_call 18; refine Calls.quiet_of (ke.out _ (HT2.out.rdr.drewN _))) | (go_at_call 17; refine Calls.quiet_of (left_eq g p g len at_ 0 zs _ (HT2.out.rdr.drewN _) HL.out)))
          go_wp2_with fail
          go_ret
          exact ⟨rfl, below_drewN HT2.out.below _⟩

end Go.Proofs.Ytmnhehicgheheaa
