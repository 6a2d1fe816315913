/- The corpus and what it stands on, merged. -/
import Derived.Test.YtbgommpdmnbplaaGreatDoorCoA7
import Derived.Laws.AppendOwn
import Derived.Laws.AppendOwnNone
import Derived.WalkSpells
import Derived.Deep.RegionHeld3
import Derived.Test.YtbgommpdmnbplaaGreatDoorCoA12
import Derived.Maps.RangeWalk
import Derived.Test.YtbgommpdmnbplaaGreatDoorCoA19

/- A list of numbers appended to one of the call's own. -/
namespace Go.Proofs.YtbgommpdmnbplaaGreatDoor
open Go.RowKit
set_option linter.unusedVariables false

theorem wpList_append_lst {P : Program} (w : World) {ops : Array Oper} {rest : List Oper} {o : Oper} {a : Act} {Q : Exit → Act → World → Prop}
    (hgd : o.guard = none) (s x : Operand) (t : TypeId) (ho : o.op = .call { callee := .builtin .append, args := #[s, x], argTypes := #[t, t] })
    (base : Nat) (i : TypeInfo) (ht : P.underlying t = some (.slice 3)) (hi : P.info? 3 = some i) (hz : i.zero = some (.int .i64 0)) (hsize : i.size = 1) (hby : i.bytes = 8)
    (v : Value) (n : Nat) (xs : List Value) (hs : a.eval s = v) (hown : w.ownsRow base 3 1 v n xs)
    (a0 : Option Addr) (m c : Nat) (zs : List Int) (hx : a.eval x = .slice a0 m c) (hsrc : Ilst w a0 m c zs) (hb : (n + m) * 8 ≤ 140737488355328) (hbase : base ≤ w.heap.size)
    (hK : ∀ v' w', w'.ownsRow base 3 1 v' (n + m) (xs ++ zs.map (Value.int .i64)) → w.grownBy w' v.ownBlock → wpList P ops Q rest (a.put o.dst v') w') :
    wpList P ops Q (o :: rest) a w := by
  cases a0 with
  | none =>
    obtain rfl := hsrc.nil rfl
    obtain rfl : m = 0 := by
      rcases Nat.eq_zero_or_pos m with h | h
      · exact h
      · obtain ⟨_, _, e, _⟩ := hsrc.cells h; cases e
    obtain rfl : zs = [] := List.eq_nil_of_length_eq_zero hsrc.size
    refine wpList_append_own_none hgd s x t ho base 3 i 1 ht hi _ n xs hs hown hx ?_
    exact hK v w (by simpa using hown) (World.grownBy.refl _ _)
  | some ad =>
    refine wpList_append_own _ hgd s x t ho base 3 i (.int .i64 0) 1 8 ht hi hz hsize hby rfl (by decide) _ n xs hs hown ad m c (zs.map (Value.int .i64)) hx (by simp [hsrc.size]) ?_ (fun u hu => by obtain ⟨z, _, rfl⟩ := List.mem_map.1 hu; rfl) (by unfold maxLen; omega) (by omega) hbase ?_
    · intro j u hj
      have hjl : j < zs.length := by have := (List.getElem?_eq_some_iff.1 hj).1; simpa using this
      have hsl := hsrc.size
      obtain ⟨b, o', e, _, hc⟩ := hsrc.cells (by omega)
      obtain rfl := Option.some.inj e
      rw [Addr.add_lit, hc j (by omega), ← hj]
      simp [List.getD, List.getElem?_eq_getElem hjl]
    · intro v' w' h1 h2 _
      exact hK v' w' h1 h2

end Go.Proofs.YtbgommpdmnbplaaGreatDoor

/- What Points tells. -/
namespace Go.Proofs.YtbgommpdmnbplaaGreatDoor
open Go.RowKit Co Num Jr Go.Maps
set_option linter.unusedVariables false
set_option maxRecDepth 20000

/-- The points of entries without a fault. -/
def Pts (F : Sta) (x : Int) : Prop := ∃ s e, F s = some e ∧ e.f = 0 ∧ x ∈ e.p

theorem wpList_next_em {w0 : World} {N : List Nat} {F : Sta} {w : World} {ops : Array Oper} {rest : List Oper} {o : Oper} {a : Act} {Q : Exit → Act → World → Prop} (hg : o.guard = none) (it : Operand) (hop : o.op = Op.next it false) (m r n : Nat) (D : DataW Value) (left : Lit → Bool) (cnt : Nat)
    (hent : ∀ s, Maps.has D (.string s) = (F s).isSome ∧ ∀ e, F s = some e → ∃ v, (∀ z, D.atKey (.string s) z = .held v) ∧ Ev w0 N v e)
    (hit : a.eval it = .pointer (some ⟨r, 0, none⟩)) (h : w.ranges Tryz.prog 9 Rv m r n D left cnt)
    (hDone : cnt = 0 → (∀ kl, left kl = false) → wpList Tryz.prog ops Q rest (a.put o.dst (.tuple #[.bool false])) w)
    (hMore : ∀ (s : List UInt8) (e : Ety) (pa qa : Option Addr) (pc qc : Nat) (w' : World) (cnt' : Nat), F s = some e → left (.string s) = true → Il w0 N pa e.p.length pc e.p → Il w0 N qa e.q.length qc e.q → w'.ranges Tryz.prog 9 Rv m r n D (fun z => left z && !z.sameKey (.string s)) cnt' → cnt' < cnt →
      w.grownBy w' (some r) → w'.heap.size = w.heap.size → (Instr.entry (.pointer (some ⟨r, 0, none⟩))).run Tryz.prog w' = .ok (.tuple #[encStr s, entV e.k e.g pa e.p.length pc e.f qa e.q.length qc]) w' → wpList Tryz.prog ops Q rest (a.put o.dst (.tuple #[.bool true, encStr s, entV e.k e.g pa e.p.length pc e.f qa e.q.length qc])) w') :
    wpList Tryz.prog ops Q (o :: rest) a w := by
  refine wpList_next_ranges w hg it hop 9 kstr Rv encStr id (fun key kl hk => by obtain ⟨x, hx, _⟩ := Maps.keyOf_str Tryz.underlying9 hk; exact ⟨x, hx⟩) (fun v _ _ => ⟨v, rfl⟩) m r n D left cnt hit h hDone ?_
  intro x c kl y w' cnt' hkey hl hv hat hrg hlt hgr hsz hen
  obtain ⟨x', ex, rfl, _⟩ := Maps.keyOf_str Tryz.underlying9 hkey
  obtain rfl := encStr_inj ex
  unfold Rv at hv
  injection hv with hv
  subst hv
  have hh : Maps.has D (.string x) = true := Maps.has_true_of_atKey hat
  obtain ⟨q1, q2⟩ := hent x
  rw [q1] at hh
  obtain ⟨e, he⟩ := Option.isSome_iff_exists.1 hh
  obtain ⟨v, hv, hE⟩ := q2 e he
  have hcv : id c = v := by
    have := hat .nil
    rw [hv .nil] at this
    injection this with this
    exact this.symm
  obtain ⟨pa, pc, qa, qc, rfl, hp, hq⟩ := hE
  rw [hcv] at hen ⊢
  exact hMore x e pa qa pc qc w' cnt' he hl hp hq hrg hlt hgr hsz hen

/-- What Points tells. -/
def PtsP (w : World) (F : Sta) (r : Ending) (w' : World) : Prop := ∃ (a : Option Addr) (n c : Nat) (ps : List Int), r = .returned (.slice a n c) ∧ Wlst w' w.heap.size a n c ps ∧ c ≤ 9223372036854775807 ∧ ps.Pairwise (· < ·) ∧ (∀ x, x ∈ ps ↔ Pts F x) ∧ Below w.heap.size w w'

set_option maxHeartbeats 4000000 in
theorem points_any (N : List Nat) (cp jp m : Nat) (K : List (List UInt8)) (F : Sta) (w : World) (hc : w.heap[cp]? = some (.cells #[.pointer (some ⟨jp, 0, none⟩), .map (some m)] 77 (0, 0))) (hm : Em w N m K F) (hk : K.length ≤ 40) (ho : F.ok) : Calls Tryz.prog 35 #[.pointer (some ⟨cp, 0, none⟩)] w (PtsP w F) := by
  obtain ⟨i0, hi0, hz0, hz1, hz2⟩ := info_parts infoInt
  have k1 := hid (cusable cp jp m w hc)
  have c1 : w.cell? ⟨cp, 1, none⟩ = some (.map (some m)) := heap_cells hc 1 _ rfl
  obtain ⟨D, h1, hK, h2⟩ := hm
  have hml := h1.lt
  have hsz : Maps.size D = K.length := by rw [hK, List.length_mergeSort, size_strKeys h1]
  have HO := hid ho
  have H1 := hid h1
  have H2 := hid h2
  have hsk : Maps.size D ≤ 40 := by omega
  clear hc h1 h2 hK ho
  go_enter Tryz.func35, Tryz.ntmps35
  go_wp2_with (first | (go_at_call 44; refine k1.out.mono ?_; rintro r wx ⟨rfl, h⟩; subst wx) | (at_range; refine wpList_range_own _ rfl _ 75 rfl 9 37 kstr Tryz.underlying75 Rv m K.length D rfl H1.out ?_; intro w0 hrg0 hg0 hs0; have HR0 := hid hrg0; have HG0 := hid hg0; have HS0 := hid hs0; clear hrg0 hg0 hs0) | go_in)
  go_frame
  go_loopw [3] (fun v wr => ∃ (a : Option Addr) (c : Nat) (left : Lit → Bool) (cnt : Nat) (ps : List Int), v = .slice a ps.length c ∧ ps.length ≤ 2000 * (Maps.size D - cnt) ∧ cnt ≤ Maps.size D ∧ Hid (wr.ranges Tryz.prog 9 Rv m w.heap.size K.length D left cnt ∧ wr.ownsRow w0.heap.size 3 1 v ps.length (ps.map (Value.int .i64)) ∧ (∀ x, x ∈ ps ↔ ∃ s e, F s = some e ∧ left (.string s) = false ∧ e.f = 0 ∧ x ∈ e.p) ∧ Below w.heap.size w wr ∧ w0.heap.size ≤ wr.heap.size))
    (fun _ wr => wr.rangeLeft m w.heap.size)
  case atStart =>
    refine ⟨none, 0, _, _, [], rfl, by simp, Nat.le_refl _, hid ⟨HR0.out, World.ownsRow_nil _ _ _ _, fun x => ⟨fun h => by simp at h, fun ⟨s, e, h1, h2, _⟩ => ?_⟩, (Below.refl _ w).grown HG0.out (Nat.le_refl _) (fun j hj => by cases hj), Nat.le_refl _⟩⟩
    have := (H2.out s).1
    rw [h2, h1] at this
    cases this
  case round =>
    obtain ⟨a, c, left, cnt, ps, rfl, hpl, hcl, HA⟩ := hrel
    have hrg := HA.out.1
    have HH := hid H2.out
    go_wp2_with (first | (at_next; refine wpList_next_em rfl _ rfl m w.heap.size K.length D left cnt HH.out rfl hrg ?_ ?_) | go_in)
    · intro hc0 hl0
      have HL0 := hid hl0
      have hW : Wlst wr w0.heap.size a ps.length c ps := by
        obtain ⟨a', c', ev, hW⟩ := own_wlst HA.out.2.1
        injection ev with ev1 ev2 ev3
        rw [ev1, ev3]
        exact hW
      have hcm : c ≤ 9223372036854775807 := by
        obtain ⟨_, _, ec, _, h⟩ := own_shape HA.out.2.1
        injection ec with _ _ ec
        rw [ec]
        exact h
      have kR := hid (prise w0.heap.size a ps.length c ps wr hW (by omega) HA.out.2.2.2.2)
      clear hW hl0 hc0
      go_wp2_with (first | (go_at_call 87; refine kR.out.mono ?_; rintro r w3 ⟨n3, rfl, hW3, hb3⟩; have HW3 := hid hW3; have HB3 := hid hb3; clear hW3 hb3 kR))
      go_ret
      have hR := riseP_rises ps
      have hs0 : w.heap.size ≤ w0.heap.size := by have := HS0.out; omega
      have hw3 := HW3.out
      refine ⟨a, n3, c, riseP ps, rfl, ⟨hw3.size, hw3.le, fun hn => ?_, hw3.nil⟩, hcm, hR.1, fun x => ?_, HA.out.2.2.2.1.trans (HB3.out.mono hs0)⟩
      · obtain ⟨g, q1, q2, q3⟩ := hw3.cells hn
        exact ⟨g, q1, Nat.le_trans hs0 q2, q3⟩
      · rw [hR.2 x, HA.out.2.2.1 x]
        exact ⟨fun ⟨s, e, h1, _, h3, h4⟩ => ⟨s, e, h1, h3, h4⟩, fun ⟨s, e, h1, h3, h4⟩ => ⟨s, e, h1, HL0.out _, h3, h4⟩⟩
    · intro s e pa qa pc qc w1 cnt1 he hl hp hq hrg1 hlt hgr1 hsz1 hen
      unfold entV at hen ⊢
      obtain ⟨sb, hsb, hkb⟩ := kb_enc s
      rw [hsb] at hen ⊢
      obtain ⟨o1, o2, o3⟩ := HO.out _ _ he
      have hlens := mayB_lens o2 o3
      have hbw1 : Below w.heap.size w w1 := HA.out.2.2.2.1.grown hgr1 HA.out.2.2.2.1.size (fun j hj => by injection hj with hj; omega)
      have how1 : w1.ownsRow w0.heap.size 3 1 (.slice a ps.length c) ps.length (ps.map (Value.int .i64)) := (Upd.of_grown hgr1).own HA.out.2.1 (fun k hk e => by
        injection e with e
        have := (HA.out.2.1.lt k hk).1
        have := HS0.out
        omega)
      obtain ⟨pn, gpn⟩ : ∃ pn, pn = e.p.length := ⟨_, rfl⟩
      obtain ⟨qn, gqn⟩ : ∃ qn, qn = e.q.length := ⟨_, rfl⟩
      obtain ⟨ks, gks⟩ : ∃ ks, ks = e.k := ⟨_, rfl⟩
      obtain ⟨gs, ggs⟩ : ∃ gs, gs = e.g := ⟨_, rfl⟩
      obtain ⟨fx, gfx⟩ : ∃ fx, fx = e.f := ⟨_, rfl⟩
      rw [← gpn, ← gqn, ← gks, ← ggs, ← gfx] at hen
      rw [← gpn, ← gqn, ← gks, ← ggs, ← gfx]
      rw [← gpn] at hp hlens
      have hpi := hp.il.below hbw1
      obtain ⟨X, gX⟩ : ∃ X, X = w1.alloc (.cells #[.string ks, .string gs, .slice pa pn pc, .int .i64 fx, .slice qa qn qc] 37) := ⟨_, rfl⟩
      have hbX : Below w1.heap.size w1 X := by rw [gX]; exact (Below.refl _ _).alloc (Nat.le_refl _) _
      have hX : X.heap[w1.heap.size]? = some (.cells #[.string ks, .string gs, .slice pa pn pc, .int .i64 fx, .slice qa qn qc] 37 (0, 0)) := by rw [gX]; exact heap_alloc_new _ _
      have hrgX : X.ranges Tryz.prog 9 Rv m w.heap.size K.length D (fun z => left z && !z.sameKey (.string s)) cnt1 := by rw [gX]; exact hrg1.alloc _
      have d2 : X.cell? ⟨w1.heap.size, 2, none⟩ = some (.slice pa pn pc) := heap_cells hX 2 _ rfl
      have d3 : X.cell? ⟨w1.heap.size, 3, none⟩ = some (.int .i64 fx) := heap_cells hX 3 _ rfl
      have hkey : ∀ t : List UInt8, ((left (.string t) && !(Lit.string t).sameKey (.string s)) = false) ↔ (left (.string t) = false ∨ t = s) := fun t => by
        by_cases hts : t = s
        · subst hts; simp [Lit.sameKey]
        · have : (Lit.string t).sameKey (.string s) = false := Maps.sameKey_ne (lit_s_ne hts)
          simp [this, hts]
      have HBX : Hid (Below w.heap.size w X) := hid (hbw1.trans (hbX.mono hbw1.size))
      have HOX : Hid (X.ownsRow w0.heap.size 3 1 (.slice a ps.length c) ps.length (ps.map (Value.int .i64))) := hid (own_below how1 hbX)
      have HPX := hid (hpi.below hbX)
      have HRX := hid hrgX
      have HKEY := hid hkey
      have HE := hid he
      have GP := hid gpn
      have GF := hid gfx
      have GX := hid gX
      have hsX : w0.heap.size ≤ X.heap.size := Nat.le_trans (by rw [hsz1]; exact HA.out.2.2.2.2) hbX.size
      clear hX hbX hrgX hkey he gpn gqn gks ggs gfx gX hp hq hrg1 hgr1 o1 o2 o3 hbw1 how1 hpi hsb hkb hl hsz1 hrg
      go_upto_region 7 with fail
      rw [← GX.out]
      by_cases hf : fx = 0
      · subst hf
        clear hen
        go_wp2_with (at_builtin; go_must (refine wpList_append_lst _ rfl _ _ 35 rfl w0.heap.size i0 Tryz.underlying35 hi0 hz0 hz1 hz2 (.slice a ps.length c) ps.length (ps.map (Value.int .i64)) rfl HOX.out pa pn pc e.p rfl HPX.out (by omega) hsX ?_; intro v3 w3 ho3 hg3; have HO3 := hid ho3; have HG3 := hid hg3; clear ho3 hg3))
        have hrow : ∀ k, (Value.slice a ps.length c).ownBlock = some k → w0.heap.size ≤ k := fun k hk => (HOX.out.lt k hk).1
        have hs0 := HS0.out
        have hrg3 := HRX.out.kept HG3.out (fun e => by have := hrow m e.symm; omega) (fun e => by have := hrow w.heap.size e.symm; omega)
        have hb3 : Below w.heap.size w w3 := HBX.out.grown HG3.out HBX.out.size (fun j hj => by have := hrow j hj; omega)
        have hlen : (ps ++ e.p).length = ps.length + pn := by rw [List.length_append, GP.out]
        have ho3 := HO3.out
        rw [← List.map_append, ← hlen] at ho3
        obtain ⟨a3, c3, ev, _, _⟩ := own_shape ho3
        subst ev
        go_roundw
        case rel =>
          refine ⟨a3, c3, _, cnt1, ps ++ e.p, rfl, ?_, by omega, hid ⟨hrg3, ho3, fun x => ?_, hb3, Nat.le_trans hsX HG3.out.size⟩⟩
          · rw [hlen]
            have e1 : Maps.size D - cnt1 = (Maps.size D - cnt) + (cnt - cnt1) := by omega
            omega
          · rw [List.mem_append, HA.out.2.2.1 x]
            constructor
            · rintro (⟨t, e', h1, h2, h3, h4⟩ | hx)
              · exact ⟨t, e', h1, (HKEY.out t).2 (.inl h2), h3, h4⟩
              · exact ⟨s, e, HE.out, (HKEY.out s).2 (.inr rfl), GF.out.symm, hx⟩
            · rintro ⟨t, e', h1, h2, h3, h4⟩
              rcases (HKEY.out t).1 h2 with h | h
              · exact .inl ⟨t, e', h1, h, h3, h4⟩
              · subst h
                rw [HE.out] at h1
                injection h1 with h1
                subst h1
                exact .inr h4
        case measure => rw [hrg3.left_eq, HA.out.1.left_eq]; exact hlt
      · have hfv : (fx == 0) = false := by simp [hf]
        clear hen
        go_wp2_with fail
        go_roundw
        case rel =>
          refine ⟨a, c, _, cnt1, ps, rfl, by omega, by omega, hid ⟨HRX.out, HOX.out, fun x => ?_, HBX.out, hsX⟩⟩
          rw [HA.out.2.2.1 x]
          constructor
          · rintro ⟨t, e', h1, h2, h3, h4⟩
            exact ⟨t, e', h1, (HKEY.out t).2 (.inl h2), h3, h4⟩
          · rintro ⟨t, e', h1, h2, h3, h4⟩
            rcases (HKEY.out t).1 h2 with h | h
            · exact ⟨t, e', h1, h, h3, h4⟩
            · subst h
              rw [HE.out] at h1
              injection h1 with h1
              subst h1
              exact absurd (GF.out.trans h3) hf
        case measure => rw [HRX.out.left_eq, HA.out.1.left_eq]; exact hlt
end Go.Proofs.YtbgommpdmnbplaaGreatDoor

/- A corpus under a law: how it moves; a corpus that has what is put into it. -/
namespace Go.Proofs.YtbgommpdmnbplaaGreatDoor
open Go.RowKit Co Num Jr
set_option linter.unusedVariables false
set_option maxRecDepth 20000

/-- A corpus of a law, all of it new since B. -/
def Cq (B : Nat) (w0 w : World) (cp p n : Nat) (F : Sta) : Prop :=
  ∃ (jp : Nat) (d : Dk) (S : Nat → List Int) (gen groups used : Nat) (done : List (List Int)) (wv : Value) (m : Nat) (K : List (List UInt8)), Cp d w cp jp p n S gen groups used done wv m K F ∧ (∀ x ∈ cp :: Jf d p jp wv, B ≤ x) ∧ Below B w0 w ∧ B ≤ w.heap.size

theorem Cq.below {B : Nat} {w0 w w' : World} {cp p n : Nat} {F : Sta} (h : Cq B w0 w cp p n F) (u : Below w.heap.size w w') : Cq B w0 w' cp p n F := by
  obtain ⟨jp, d, S, gen, groups, used, done, wv, m, K, h1, h2, h3, h4⟩ := h
  exact ⟨jp, d, S, gen, groups, used, done, wv, m, K, h1.below u, h2, h3.trans (u.mono h4), Nat.le_trans h4 u.size⟩

theorem Cq.step {B : Nat} {w0 w w' : World} {cp jp p n : Nat} {d : Dk} {S : Nat → List Int} {gen groups used : Nat} {done : List (List Int)} {wv : Value} {m : Nat} {K : List (List UInt8)} {F F2 : Sta} {zs : List Int} {more : Prop} {r : Ending} (h1 : ∀ x ∈ cp :: Jf d p jp wv, B ≤ x) (h2 : Below B w0 w) (h3 : B ≤ w.heap.size) (h : StepP d w cp jp p n S gen groups used done wv m K F zs F2 more r w') :
    ∃ (code : Nat) (F' : Sta), r = .returned (.int .i64 code) ∧ Cq B w0 w' cp p n F' ∧ (Fits n used zs → more → code = 0) ∧ (code = 0 → F' = F2) ∧ (code ≠ 0 → F' = F) := by
  obtain ⟨code, d', wv', m', K', hr, hf, hu, hg, hm, hc⟩ := h
  have hb : Below B w0 w' := h2.trans (hu.below h3 h1)
  have hs : B ≤ w'.heap.size := Nat.le_trans h3 hu.size
  have hn : ∀ x ∈ cp :: Jf d' p jp wv', B ≤ x := fun x hx => by
    rcases List.mem_cons.1 hx with h | h
    · exact h1 x (by simp [h])
    · rcases hg x h with h | h
      · exact h1 x (List.mem_cons_of_mem _ h)
      · omega
  rcases hc with ⟨c1, c2, c3, g', u', c4⟩ | ⟨c1, c2, c3, g', u', c4⟩ | ⟨c1, c2, c3, c4, c5⟩
  · exact ⟨code, F2, hr, ⟨jp, d', _, _, g', u', _, wv', m', K', c4, hn, hb, hs⟩, hf, fun _ => rfl, fun h => absurd c1 h⟩
  · exact ⟨code, F2, hr, ⟨jp, d', _, _, g', u', _, wv', m', K', c4, hn, hb, hs⟩, hf, fun _ => rfl, fun h => absurd c1 h⟩
  · subst c2
    exact ⟨code, F, hr, ⟨jp, d', _, _, groups, used, _, wv', m, K, c5, hn, hb, hs⟩, hf, fun h => absurd h c1, fun _ => rfl⟩

theorem cq_put (B : Nat) (w0 w : World) (cp p n : Nat) (F : Sta) (v : Value) (e : Ety) (h : Cq B w0 w cp p n F) (hT : Tab w0) (hR : Er w0) (hB : 1 < B) (hn4 : 4 ≤ n) (hE : Ev w [] v e) :
    Calls Tryz.prog 13 #[.pointer (some ⟨cp, 0, none⟩), v] w fun r w' => ∃ (code : Nat) (F' : Sta), r = .returned (.int .i64 code) ∧ Cq B w0 w' cp p n F' ∧ (code = 0 → F' = F.put e) ∧ (code ≠ 0 → F' = F) := by
  obtain ⟨jp, d, S, gen, groups, used, done, wv, m, K, h1, h2, h3, h4⟩ := h
  have hTw : Tab w := fun j hj => by rw [h3.cell (p := ⟨1, j, none⟩) hB]; exact hT j hj
  have hRw : Er w := by unfold Er; rw [h3.cell (p := ⟨0, 0, none⟩) (Nat.lt_of_le_of_lt (Nat.zero_le _) hB)]; exact hR
  refine (put_entry d cp jp p n gen groups used S done wv m K F v e w h1 hTw (fun hx => by have := h2 _ (List.mem_cons_of_mem _ hx); omega) hRw (fun hx => by have := h2 _ (List.mem_cons_of_mem _ hx); omega) hn4 hE).mono ?_
  intro r w' hs
  obtain ⟨code, F', q1, q2, q3, q4, q5⟩ := Cq.step h2 h3 h4 hs
  exact ⟨code, F', q1, q2, q4, q5⟩

/-- A new disk's corpus. -/
theorem cq_new {B : Nat} {w0 w w' : World} {p n : Nat} {d : Dk} {r : Ending} {S : Nat → List Int} (h : CNewP d w p n S r w') (hf : ∀ x ∈ d.foot p, B ≤ x) (hb : Below B w0 w) (hs : B ≤ w.heap.size) :
    ∃ cp, r = .returned (.tuple #[.pointer (some ⟨cp, 0, none⟩), .int .i64 0]) ∧ Cq B w0 w' cp p n (fun _ => none) := by
  obtain ⟨cp, jp, d', m, hr, hc, hu, hj, hcp, hm⟩ := h
  refine ⟨cp, hr, jp, d', _, _, 0, 0, [], _, m, [], hc, fun x hx => ?_, hb.trans (hu.below hs hf), Nat.le_trans hs hu.size⟩
  rcases List.mem_cons.1 hx with h | h
  · omega
  · rcases hj x h with h | h
    · exact hf x h
    · omega

theorem tab_in {B : Nat} {w0 w : World} (hT : Tab w0) (h : Below B w0 w) (hB : 1 < B) : Tab w := fun j hj => by rw [h.cell (p := ⟨1, j, none⟩) hB]; exact hT j hj
theorem er_in {B : Nat} {w0 w : World} (hR : Er w0) (h : Below B w0 w) (hB : 1 < B) : Er w := by
  unfold Er
  rw [h.cell (p := ⟨0, 0, none⟩) (Nat.lt_of_le_of_lt (Nat.zero_le _) hB)]
  exact hR

def entA : Ety := ⟨⟨#[97]⟩, ⟨#[]⟩, [5], 0, []⟩
theorem entA_may : mayB entA = true := by decide
theorem entA_len : (putR entA).length ≤ 2000 := by decide
theorem entA_fits : Fits 40 0 (putR entA) := ⟨⟨by decide, by decide, putR_bytes _⟩, by decide⟩
theorem few_none : Few (fun _ => none) := ⟨[], by decide, fun s h => absurd rfl h⟩
theorem keysA {K : List (List UInt8)} (h : Keys (Sta.put (fun _ => none) entA) K) : K = [[97]] := by
  have hm : ∀ s, s ∈ K ↔ s = [97] := fun s => by
    rw [h.mem]
    by_cases hs : s = [97]
    · subst hs; simp [Sta.put, entA, kb]
    · simp [Sta.put, entA, kb, hs]
  have hp : K.Perm [[97]] := (List.perm_ext_iff_of_nodup h.nd (by simp)).2 (fun s => by rw [hm]; simp)
  exact List.perm_singleton.1 hp
theorem ptsA {ps : List Int} (h : ps.Pairwise (· < ·)) (hm : ∀ x, x ∈ ps ↔ Pts (Sta.put (fun _ => none) entA) x) : ps = [5] := by
  refine rising_unique ps [5] h (by simp) (fun x => ?_)
  rw [hm]
  constructor
  · rintro ⟨s, e, h1, h2, h3⟩
    unfold Sta.put at h1
    split at h1
    · injection h1 with h1
      subst h1
      exact h3
    · cases h1
  · intro hx
    exact ⟨kb entA.k, entA, by simp [Sta.put], rfl, hx⟩
end Go.Proofs.YtbgommpdmnbplaaGreatDoor

/- The law's list of calls, as it lies. -/
namespace Go.Proofs.YtbgommpdmnbplaaGreatDoor
open Go.RowKit Co Num Jr
set_option linter.unusedVariables false
set_option maxRecDepth 20000

/-- A call of the law, from a place on. -/
def DolAt (W : World) (b o : Nat) (op : Int) (e : Ety) (pa : Option Addr) (pc : Nat) (qa : Option Addr) (qc : Nat) : Prop :=
  W.cell? ⟨b, o, none⟩ = some (.int .i64 op) ∧ W.cell? ⟨b, o + 1, none⟩ = some (.string e.k) ∧ W.cell? ⟨b, o + 2, none⟩ = some (.string e.g) ∧ W.cell? ⟨b, o + 3, none⟩ = some (.slice pa e.p.length pc) ∧ W.cell? ⟨b, o + 4, none⟩ = some (.int .i64 e.f) ∧ W.cell? ⟨b, o + 5, none⟩ = some (.slice qa e.q.length qc) ∧
    Il W [] pa e.p.length pc e.p ∧ Il W [] qa e.q.length qc e.q
def Dol (W : World) (a : Option Addr) (n : Nat) : Prop := 0 < n → ∃ b o, a = some ⟨b, o, none⟩ ∧ b < W.heap.size ∧ ∀ j, j < n → ∃ (op : Int) (e : Ety) (pa : Option Addr) (pc : Nat) (qa : Option Addr) (qc : Nat), DolAt W b (o + j * 6) op e pa pc qa qc

theorem Dol.below {W W' : World} {a : Option Addr} {n : Nat} (h : Dol W a n) (u : Below W.heap.size W W') : Dol W' a n := fun hn => by
  obtain ⟨b, o, e, hb, hc⟩ := h hn
  refine ⟨b, o, e, Nat.lt_of_lt_of_le hb u.size, fun j hj => ?_⟩
  obtain ⟨op, x, pa, pc, qa, qc, c0, c1, c2, c3, c4, c5, c6, c7⟩ := hc j hj
  have hu : Upd (fun _ => False) W W' := Upd.of_below u
  exact ⟨op, x, pa, pc, qa, qc, (u.cell (p := ⟨b, _, none⟩) hb).trans c0, (u.cell (p := ⟨b, _, none⟩) hb).trans c1, (u.cell (p := ⟨b, _, none⟩) hb).trans c2, (u.cell (p := ⟨b, _, none⟩) hb).trans c3, (u.cell (p := ⟨b, _, none⟩) hb).trans c4, (u.cell (p := ⟨b, _, none⟩) hb).trans c5, c6.upd hu (fun _ _ _ _ h => h) (fun x hx => .inl hx), c7.upd hu (fun _ _ _ _ h => h) (fun x hx => .inl hx)⟩
end Go.Proofs.YtbgommpdmnbplaaGreatDoor
