/- The corpus and what it stands on, merged. -/
import Derived.Test.YtbgommpdmnbplaaGreatDoorCoA1
import Derived.Test.YtbgommpdmnbplaaGreatDoorCoA2
import Derived.Test.YtbgommpdmnbplaaGreatDoorCoA6
import Derived.Test.YtbgommpdmnbplaaGreatDoorCoA3

/- What disk.New does: a disk of so many sectors of noughts, in new memory; the error of any other number. -/
namespace Go.Proofs.YtbgommpdmnbplaaGreatDoor
open Go.RowKit
set_option linter.unusedVariables false

set_option maxHeartbeats 1000000 in
set_option maxRecDepth 20000 in
theorem of_any (a : Addr) (len cap : Nat) (zs : List Int) (w : World) (hs : Src w (some a) len zs) (hr : len ≤ 140737488355328) :
    Calls Tryz.prog 79 #[.slice (some a) len cap] w fun e w' => ∃ p g c, e = .returned (.pointer (some ⟨p, 0, none⟩)) ∧ w'.heap[p]? = some (.cells #[.slice (some a) len cap, .slice (some ⟨g, 0, none⟩) len c, .slice none 0 0, .bool false] 84 (0, 0)) ∧
      w'.ownsRow w.heap.size 5 1 (.slice (some ⟨g, 0, none⟩) len c) len (zs.map (Value.int .u8)) ∧ w.heap.size ≤ p ∧ g < p ∧ Below w.heap.size w w' := by
  have k := hid (sclone_any a len cap zs w hs hr)
  clear hs
  go_enter Tryz.func79, Tryz.ntmps79
  go_wp2_with fail
  refine k.out.mono ?_
  rintro e w1 ⟨g, c, rfl, hown, hb⟩
  have HO := hid hown
  clear hown
  go_wp2_with fail
  go_ret
  have hlt := HO.out.lt g rfl
  have hb2 := hb.alloc hb.size (.cells #[.slice (some a) len cap, .slice (some ⟨g, 0, none⟩) len c, .slice none 0 0, .bool false] 84)
  exact ⟨w1.heap.size, g, c, rfl, heap_alloc_new w1 _, own_below HO.out ((Below.refl _ _).alloc (Nat.le_refl _) _), hb.size, hlt.2, hb2⟩

theorem noughts (w : World) (n : Nat) : (w.alloc (.cells (madeCells #[Value.int .u8 0] n) 5)).ownsRow w.heap.size 5 1 (.slice (some ⟨w.heap.size, 0, none⟩) n n) n ((List.replicate n (0 : Int)).map (Value.int .u8)) ∨ ¬ n ≤ maxLen := by
  rcases Nat.lt_or_ge maxLen n with h | h
  · exact .inr (by omega)
  · refine .inl ⟨by simp, .inr ⟨w.heap.size, n, _, rfl, Nat.le_refl _, heap_alloc_new w _, Nat.le_refl _, h, by simp [size_madeCells], ?_⟩⟩
    rw [toList_madeCells_one]
    simp

set_option maxHeartbeats 1000000 in
set_option maxRecDepth 20000 in
theorem new_any (n : Nat) (w : World) (h1 : 1 ≤ n) (h2 : n ≤ 2048) :
    Calls Tryz.prog 22 #[.int .i64 n] w fun e w' => ∃ p g c, e = .returned (.tuple #[.pointer (some ⟨p, 0, none⟩), .int .i64 0]) ∧ w'.heap[p]? = some (.cells #[.slice (some ⟨w.heap.size, 0, none⟩) (n * 128) (n * 128), .slice (some ⟨g, 0, none⟩) (n * 128) c, .slice none 0 0, .bool false] 84 (0, 0)) ∧
      w'.ownsRow w.heap.size 5 1 (.slice (some ⟨w.heap.size, 0, none⟩) (n * 128) (n * 128)) (n * 128) ((List.replicate (n * 128) (0 : Int)).map (Value.int .u8)) ∧
      w'.ownsRow (w.heap.size + 1) 5 1 (.slice (some ⟨g, 0, none⟩) (n * 128) c) (n * 128) ((List.replicate (n * 128) (0 : Int)).map (Value.int .u8)) ∧ w.heap.size + 1 ≤ p ∧ g < p ∧ Below w.heap.size w w' := by
  obtain ⟨i0, hi, hz0, hz1, hz2⟩ := info_parts Tryz.scinfo5
  obtain ⟨N, gN⟩ : ∃ N, N = n * 128 := ⟨_, rfl⟩
  rw [← gN]
  have hN1 : n * 128 ≤ N := by omega
  have hN2 : N ≤ n * 128 := by omega
  have hmx : N ≤ maxLen := by unfold maxLen; omega
  have hby : i0.bytes * N ≤ 281474976710656 := by rw [hz2]; omega
  have hown := (noughts w N).resolve_right (fun h => h hmx)
  have hb0 : Below w.heap.size w (w.alloc (.cells (madeCells #[Value.int .u8 0] N) 5)) := (Below.refl _ _).alloc (Nat.le_refl _) _
  have k := hid (of_any ⟨w.heap.size, 0, none⟩ N N (List.replicate N 0) _ (Src.own hown) (by omega))
  have HO := hid hown
  have HB := hid hb0
  clear gN hown hb0
  go_enter Tryz.func22, Tryz.ntmps22
  go_wp2_with (at_make; go_must (refine wpList_make_lc _ rfl _ _ 81 rfl 5 i0 (.int .u8 0) 1 Tryz.underlying81 hi hz0 hz1 _ _ _ _ N N rfl rfl (by omega) (by omega) (Nat.le_refl _) hby hmx ?_))
  refine k.out.mono ?_
  rintro e w1 ⟨p, g, c, rfl, hp, hg, hlt, hgp, hb⟩
  have HP := hid hp
  have HG := hid hg
  clear hp hg
  simp at hlt
  go_wp2_with fail
  go_ret2
  refine ⟨p, g, c, rfl, HP.out, own_below HO.out hb, ?_, hlt, hgp, HB.out.trans (hb.mono (by simp))⟩
  have := HG.out
  simp at this
  simpa using this

end Go.Proofs.YtbgommpdmnbplaaGreatDoor

/- What disk.New does, in the words of a disk. -/
namespace Go.Proofs.YtbgommpdmnbplaaGreatDoor
open Go.RowKit
set_option linter.unusedVariables false

theorem new_dk (n : Nat) (w : World) (h1 : 1 ≤ n) (h2 : n ≤ 2048) :
    Calls Tryz.prog 22 #[.int .i64 n] w fun e w' => ∃ p d, e = .returned (.tuple #[.pointer (some ⟨p, 0, none⟩), .int .i64 0]) ∧ Dk.ok d w' p ∧ d.n = n ∧ d.dur = List.replicate (n * 128) 0 ∧ d.wr = d.dur ∧ d.eps = [] ∧ d.opn = false ∧ (∀ x ∈ d.foot p, w.heap.size ≤ x) ∧ Below w.heap.size w w' := by
  refine (new_any n w h1 h2).mono ?_
  rintro e w' ⟨p, g, c, rfl, hp, ho1, ho2, hlt, hgp, hb⟩
  have l1 := ho1.lt w.heap.size rfl
  have l2 := ho2.lt g rfl
  refine ⟨p, ⟨n, w.heap.size, n * 128, g, c, List.replicate (n * 128) 0, List.replicate (n * 128) 0, .slice none 0 0, [], false⟩, rfl, ⟨hp, own_base ho1 (Nat.zero_le _), own_base ho2 (Nat.zero_le _), World.ownsRow_nil _ _ _ _, fun e he => by simp at he, ?_, h1, h2, fun h => by simp at h⟩, rfl, rfl, rfl, rfl, rfl, ?_, hb⟩
  · simp [Dk.foot, vb, Value.ownBlock]
    omega
  · intro x hx
    simp [Dk.foot, vb, Value.ownBlock] at hx
    omega

end Go.Proofs.YtbgommpdmnbplaaGreatDoor

/- Images as they came in: what dredgerplain.Image and disk.Of do with them. -/
namespace Go.Proofs.YtbgommpdmnbplaaGreatDoor
open Go.RowKit
set_option linter.unusedVariables false

/-- Bytes of any number, none of them in M. -/
def Bg (w : World) (M : List Nat) (u : Value) (bs : List Int) : Prop := ∃ a c, u = .slice a bs.length c ∧ Src w a bs.length bs ∧ (0 < bs.length → ∀ b o, a = some ⟨b, o, none⟩ → b ∉ M) ∧ bs.length ≤ c ∧ c ≤ 9223372036854775807 ∧ (a = none → bs.length = 0 ∧ c = 0) ∧ bs.length ≤ 140737488355328

/-- An image: a list of such. -/
def Img (w : World) (al : Option Addr) (L : List (List Int)) : Prop := 0 < L.length → ∃ b o, al = some ⟨b, o, none⟩ ∧ b < w.heap.size ∧ ∀ j, ∀ h : j < L.length, ∃ u, w.cell? ⟨b, o + j, none⟩ = some u ∧ Bg w [] u L[j]

theorem Bg.below {w w' : World} {M : List Nat} {u : Value} {bs : List Int} (h : Bg w M u bs) (hb : Below w.heap.size w w') : Bg w' M u bs := by
  obtain ⟨a, c, e, h1, h2⟩ := h
  exact ⟨a, c, e, h1.below hb, h2⟩

theorem Img.below {w w' : World} {al : Option Addr} {L : List (List Int)} (h : Img w al L) (hb : Below w.heap.size w w') : Img w' al L := fun h0 => by
  obtain ⟨b, o, e, hl, hc⟩ := h h0
  refine ⟨b, o, e, Nat.lt_of_lt_of_le hl hb.size, fun j hj => ?_⟩
  obtain ⟨u, h1, h2⟩ := hc j hj
  exact ⟨u, (hb.cell (p := ⟨b, o + j, none⟩) hl).trans h1, h2.below hb⟩

theorem Bg.upd {w w' : World} {M M' : List Nat} {u : Value} {bs : List Int} (h : Bg w M u bs) (hu : Upd (· ∈ M) w w') (hg : Grew' w M M') : Bg w' M' u bs := by
  obtain ⟨a, c, e, hs, hm, rest⟩ := h
  refine ⟨a, c, e, ?_, fun h0 b o e2 hx => ?_, rest⟩
  · refine ⟨hs.1, fun h0 => ?_⟩
    obtain ⟨b, o, e2, hl, hc⟩ := hs.2 h0
    exact ⟨b, o, e2, Nat.lt_of_lt_of_le hl hu.size, fun j hj => (World.cell?_of_block (a := ⟨b, o + j, none⟩) (hu.block b hl (hm h0 b o e2))).trans (hc j hj)⟩
  · rcases hg b hx with h1 | h1
    · exact hm h0 b o e2 h1
    · obtain ⟨b2, o2, e3, hl, _⟩ := hs.2 h0
      rw [e2] at e3
      injection e3 with e3
      injection e3 with e4 e5
      omega

theorem Bg.weaken {w : World} {M M' : List Nat} {u : Value} {bs : List Int} (h : Bg w M u bs) (hs : ∀ x ∈ M', x ∈ M) : Bg w M' u bs := by
  obtain ⟨a, c, e, h1, h2, h3⟩ := h
  exact ⟨a, c, e, h1, fun h0 b o e hx => h2 h0 b o e (hs _ hx), h3⟩

/-- A row of such, of the call's own. -/
def Ents (w : World) (v : Value) (L : List (List Int)) : Prop := ∃ us, w.ownsRow 0 81 1 v L.length us ∧ ∀ j, ∀ h : j < L.length, ∃ u, us[j]? = some u ∧ Bg w (vb v) u L[j]

theorem Ents.img {w : World} {v : Value} {L : List (List Int)} (h : Ents w v L) : ∃ a c, v = .slice a L.length c ∧ L.length ≤ c ∧ c ≤ 9223372036854775807 ∧ Img w a L := by
  obtain ⟨us, ho, hj⟩ := h
  obtain ⟨a, c, rfl, h1, h2⟩ := own_shape ho
  refine ⟨a, c, rfl, h1, h2, fun h0 => ?_⟩
  obtain ⟨g, rfl⟩ : ∃ g, a = some ⟨g, 0, none⟩ := by
    rcases ho.2 with ⟨_, h⟩ | ⟨g, c, cur, h, _⟩
    · omega
    · injection h with h1 h2 h3; exact ⟨g, h1⟩
  refine ⟨g, 0, rfl, (ho.lt g rfl).2, fun j hjl => ?_⟩
  obtain ⟨u, h3, h4⟩ := hj j hjl
  exact ⟨u, by rw [Nat.zero_add, ho.cellAt _ (by omega)]; exact h3, h4.weaken (fun x hx => by simp at hx)⟩

theorem clone_bg {w : World} {u : Value} {bs : List Int} (h : Bg w [] u bs) : Calls Tryz.prog 84 #[u] w fun e w' => ∃ v, e = .returned v ∧ Bg w' [] v bs ∧ (∀ b o c n, v = .slice (some ⟨b, o, none⟩) n c → w.heap.size ≤ b) ∧ Below w.heap.size w w' := by
  obtain ⟨a, c, rfl, hs, _, hc1, hc2, hn, hl⟩ := h
  cases a with
  | none =>
    obtain ⟨h0, rfl⟩ := hn rfl
    refine (clone_nil _ _ w).mono ?_
    rintro e w' ⟨rfl, rfl⟩
    refine ⟨_, rfl, ⟨none, 0, by rw [h0], hs, fun h => by omega, by omega, by omega, fun _ => ⟨h0, rfl⟩, hl⟩, fun b o c n e => (by cases e), Below.refl _ _⟩
  | some ad =>
    refine (clone_any ad _ c bs w hs hl).mono ?_
    rintro e w' ⟨g, c', rfl, ho, hb⟩
    have hlt := ho.lt g rfl
    refine ⟨_, rfl, ⟨_, c', rfl, Src.own ho, fun _ b o _ hx => by simp at hx, (own_cap ho).1, (own_cap ho).2, fun h => (by cases h), hl⟩, fun b o c n e => ?_, hb⟩
    injection e with e1
    injection e1 with e1
    injection e1 with e2 e3
    omega

set_option maxHeartbeats 2000000 in
set_option maxRecDepth 20000 in
theorem pimg (al : Option Addr) (n cl : Nat) (L : List (List Int)) (w : World) (hi : Img w al L) (hn : L.length = n) (hc : n ≤ cl) (hc2 : cl ≤ 9223372036854775807) (hsz : n * 24 ≤ 140737488351232) :
    Calls Tryz.prog 37 #[.slice al n cl] w fun e w' => ∃ v', e = .returned v' ∧ Ents w' v' L ∧ (∀ x, v'.ownBlock = some x → w.heap.size ≤ x) ∧ Below w.heap.size w w' := by
  obtain ⟨i0, hi0, hz0, hz1, hz2⟩ := info_parts Tryz.infoTB
  have HI := hid hi
  have HN := hid hn
  clear hi hn
  go_enter Tryz.func37, Tryz.ntmps37
  go_wp2_with fail
  go_loopw [3, 8] (fun vo k wr => ∃ i : Nat, k = .int .i64 i ∧ i ≤ n ∧ Hid (Ents wr vo (L.take i)) ∧ Hid (∀ x, vo.ownBlock = some x → w.heap.size ≤ x) ∧ Below w.heap.size w wr) (fun _ k _ => n - (intOf k).toNat)
  case atStart => exact ⟨0, rfl, Nat.zero_le _, ⟨[], World.ownsRow_nil _ _ _ _, fun j hj => absurd hj (by simp)⟩, (fun x hx => by simp [Value.ownBlock] at hx), Below.refl _ _⟩
  case round =>
    obtain ⟨i, rfl, hi, HE, HV, hbr⟩ := hrel
    obtain ⟨vo, hvo⟩ : ∃ vo, vo = u3 := ⟨_, rfl⟩
    rw [← hvo] at HE HV ⊢
    clear hvo
    by_cases hlt : i < n
    · have hil : i < L.length := by rw [HN.out]; exact hlt
      obtain ⟨b, o, e, hbl, hcc⟩ := HI.out (by omega)
      subst e
      obtain ⟨u, hu, hbg⟩ := hcc i hil
      have hu' := (hbr.cell (p := ⟨b, o + i, none⟩) hbl).trans hu
      have kc := hid (clone_bg (hbg.below hbr))
      obtain ⟨a0, c0, e0, _⟩ := hbg
      subst e0
      have htk : L.take (i + 1) = L.take i ++ [L[i]] := by rw [List.take_add_one, List.getElem?_eq_getElem hil]; rfl
      have hlen : (L.take i).length = i := by rw [List.length_take]; omega
      obtain ⟨B, gB⟩ : ∃ B, B = L[i] := ⟨_, rfl⟩
      rw [← gB] at kc hu' htk
      have HTK := hid htk
      have HLN := hid hlen
      obtain ⟨lB, glB⟩ : ∃ lB, lB = B.length := ⟨_, rfl⟩
      rw [← glB] at hu' kc
      have GLB := hid glB
      clear hcc hu htk hlen gB glB
      go_wp2_with fail
      refine kc.out.mono ?_
      rintro r w2 ⟨v2, rfl, hbg2, hnew2, hb2⟩
      have hv2 : ∃ a2 c2, v2 = .slice a2 B.length c2 := by obtain ⟨a2, c2, e2, _⟩ := hbg2; exact ⟨a2, c2, e2⟩
      obtain ⟨a2, c2, rfl⟩ := hv2
      rw [← GLB.out] at hbg2 hnew2 ⊢
      obtain ⟨us, huo, hue⟩ := HE.out
      have HBG := hid hbg2
      have HNW := hid hnew2
      have HB2 := hid hb2
      have hsz2 := hb2.size
      have hsz1 := hbr.size
      have huo2 := own_below huo hb2
      rw [HLN.out] at huo2
      have HUO := hid huo2
      have HUE := hid hue
      clear hbg2 hnew2 hb2 huo huo2 hue hu'
      go_wp2_with (at_builtin; go_must (refine wpList_append_where rfl _ _ 22 rfl 81 i0 _ 1 24 Tryz.underlying22 hi0 hz0 hz1 hz2 rfl (by decide) vo i us rfl (HUO.out.alloc _) ⟨_, 0, none⟩ 1 1 [.slice a2 lB c2] rfl rfl (by intro j u hj; rw [Addr.add_lit]; refine heap_cells (heap_alloc_new _ _) _ u ?_; simpa using hj) (by simp [Value.oneCell']) (by unfold maxLen; omega) (by omega) ?_))
      intro v' w3 hO3 hU3 hN3 hW3
      have hvl : ∀ x, vo.ownBlock = some x → x < wr.heap.size := fun x hx => ((HE.out).choose_spec.1.lt x hx).2
      have hbw3 : Below w.heap.size w w3 := by
        refine (hbr.trans (HB2.out.mono hsz1)).trans ((((Below.refl w2.heap.size w2).alloc (Nat.le_refl _) _).mono (by omega)).trans (hU3.below (by simp; omega) (fun x hx => HV.out x hx)))
      have hgr : Grew' (w2.alloc (.cells #[.slice a2 lB c2] 81)) (vb vo) (vb v') := by
        intro x hx
        have hx' : v'.ownBlock = some x := by simpa [vb] using hx
        rcases hW3.out with h' | h'
        · exact .inl (by simp [vb, ← h', hx'])
        · exact .inr (by have := h' x hx'; simpa using this)
      have hU3' : Upd (· ∈ vb vo) (w2.alloc (.cells #[.slice a2 lB c2] 81)) w3 := hU3.mono (fun x _ hx => by simp [vb, hx])
      have hent' : Ents w3 v' (L.take (i + 1)) := by
        have hl1 : (L.take (i + 1)).length = i + 1 := by rw [HTK.out]; simp [HLN.out]
        refine ⟨us ++ [.slice a2 lB c2], by rw [hl1]; exact hO3.out, fun j hj => ?_⟩
        have hul : us.length = i := by have := HUO.out.1; omega
        rcases (show j < i ∨ j = i by omega) with hj' | rfl
        · obtain ⟨u, h1, h2⟩ := HUE.out j (by rw [HLN.out]; exact hj')
          have e1 : (L.take (j + 1 + (i - j)))[j]'(by rw [show j + 1 + (i - j) = i + 1 by omega]; exact hj) = L[j] := List.getElem_take
          have e2 : (L.take (i + 1))[j] = (L.take i)[j]'(by rw [HLN.out]; exact hj') := by rw [List.getElem_take, List.getElem_take]
          rw [e2]
          exact ⟨u, by rw [List.getElem?_append_left (by omega)]; exact h1, ((h2.upd (Upd.of_below HB2.out) (grew_refl _ _)).upd (Upd.alloc _ w2 _) (grew_refl _ _)).upd hU3' hgr⟩
        · have e2 : (L.take (j + 1))[j] = B := by
            have : (L.take (j + 1))[j]? = some B := by rw [HTK.out, List.getElem?_append_right (by rw [HLN.out]; exact Nat.le_refl _), HLN.out]; simp
            rw [List.getElem?_eq_getElem hj] at this
            exact Option.some.inj this
          rw [e2]
          refine ⟨.slice a2 lB c2, by rw [← hul]; simp, ?_⟩
          have hb0 : Bg (w2.alloc (.cells #[.slice a2 lB c2] 81)) (vb vo) (.slice a2 lB c2) B := by
            obtain ⟨a3, c3, e3, h1, _, h2⟩ := HBG.out.below ((Below.refl _ w2).alloc (Nat.le_refl _) (.cells #[.slice a2 lB c2] 81))
            injection e3 with e4 e5 e6
            subst e4
            subst e6
            refine ⟨a2, c2, by rw [GLB.out], h1, fun h0 b' o' e' hx => ?_, h2⟩
            have h5 := HNW.out b' o' c2 lB (by rw [e'])
            have h6 := hvl b' (by simpa [vb] using hx)
            omega
          exact hb0.upd hU3' hgr
      have hv' : ∀ x, v'.ownBlock = some x → w.heap.size ≤ x := by
        intro x hx
        rcases hW3.out with h' | h'
        · exact HV.out x (h' ▸ hx)
        · have h4 : w2.heap.size ≤ x := Nat.le_trans (by simp) (h' x hx)
          omega
      have HE3 := hid hent'
      have HV3 := hid hv'
      clear hent' hv' hU3 hU3' hgr
      go_wp2_with fail
      go_roundw
      case rel => exact ⟨i + 1, by go_num, by omega, HE3.out, HV3.out, hbw3⟩
      case measure => simp [intOf]; omega
    · obtain rfl : i = n := by omega
      go_wp2_with fail
      go_ret
      refine ⟨vo, rfl, ?_, HV.out, hbr⟩
      have := HE.out
      rwa [List.take_of_length_le (by rw [HN.out]; exact Nat.le_refl _)] at this

end Go.Proofs.YtbgommpdmnbplaaGreatDoor

/- What journal's refused and asText do. -/
namespace Go.Proofs.YtbgommpdmnbplaaGreatDoor
open Go.RowKit Num Jr
set_option linter.unusedVariables false
set_option maxRecDepth 20000

/-- What refused answers. -/
def refC (L : List (List Int)) : Nat := if ∃ l ∈ L, l.length = 0 then 1 else if ∃ l ∈ L, 2000 < l.length then 12 else 0
theorem refC_zero {L : List (List Int)} (h : refC L = 0) : ∀ l ∈ L, 1 ≤ l.length ∧ l.length ≤ 2000 := by
  unfold refC at h
  split at h
  · cases h
  · split at h
    · cases h
    · rename_i h1 h2
      intro l hl
      refine ⟨?_, ?_⟩
      · rcases Nat.eq_zero_or_pos l.length with h | h
        · exact absurd ⟨l, hl, h⟩ h1
        · exact h
      · rcases Nat.lt_or_ge 2000 l.length with h | h
        · exact absurd ⟨l, hl, h⟩ h2
        · exact h

set_option maxHeartbeats 1000000 in
theorem refused_any (al : Option Addr) (n cl : Nat) (L : List (List Int)) (w : World) (hi : Img w al L) (hn : L.length = n) (hc : n ≤ cl) (hc2 : cl ≤ 9223372036854775807) :
    Calls Tryz.prog 201 #[.slice al n cl] w fun e w' => e = .returned (.int .i64 ((refC L : Nat) : Int)) ∧ w' = w := by
  obtain ⟨C, gC⟩ : ∃ C, C = refC L := ⟨_, rfl⟩
  rw [← gC]
  have HI := hid hi
  have HN := hid hn
  have GC := hid gC
  clear hi hn gC
  go_enter Tryz.func201, Tryz.ntmps201
  go_wp2_with fail
  go_loop [9] (fun k => ∃ i : Nat, k = .int .i64 i ∧ i ≤ n ∧ Hid (∀ j, ∀ h : j < L.length, j < i → L[j].length ≠ 0)) (fun k => n - (intOf k).toNat)
  case atStart => exact ⟨0, rfl, Nat.zero_le _, hid (fun j _ h => absurd h (by omega))⟩
  case round =>
    obtain ⟨i, rfl, hin, HA⟩ := hrel
    by_cases hlt : i < n
    · have hil : i < L.length := by rw [HN.out]; exact hlt
      obtain ⟨b, o, e, hbl, hcc⟩ := HI.out (by omega)
      subst e
      obtain ⟨u, hu, a, c, eu, _⟩ := hcc i hil
      subst eu
      obtain ⟨m, gm⟩ : ∃ m, m = L[i].length := ⟨_, rfl⟩
      rw [← gm] at hu
      have GM := hid gm
      clear hcc gm
      by_cases hm : m = 0
      · have hC1 : C = 1 := by rw [GC.out]; unfold refC; rw [if_pos ⟨L[i], List.getElem_mem hil, by rw [← GM.out]; exact hm⟩]
        subst hm
        subst hC1
        go_wp2_with fail
        go_ret
        exact ⟨rfl, rfl⟩
      · have hmv : ¬ (m : Int) = 0 := by omega
        go_wp2_with fail
        go_round
        case rel => exact ⟨i + 1, by go_num, by omega, hid (fun j hj h => by
          rcases (show j < i ∨ j = i by omega) with h' | rfl
          · exact HA.out j hj h'
          · rw [← GM.out]; exact hm)⟩
        case measure => simp [intOf]; omega
    · obtain rfl : i = n := by omega
      have hno : ¬ ∃ l ∈ L, l.length = 0 := fun ⟨l, hl, h⟩ => by
        obtain ⟨j, hj, rfl⟩ := List.getElem_of_mem hl
        exact HA.out j hj (by rw [← HN.out]; exact hj) h
      have HNO := hid hno
      clear hno HA
      go_wp2_with fail
      go_loop [19] (fun k => ∃ j : Nat, k = .int .i64 j ∧ j ≤ i ∧ Hid (∀ k, ∀ h : k < L.length, k < j → L[k].length ≤ 2000)) (fun k => i - (intOf k).toNat)
      case atStart => exact ⟨0, rfl, Nat.zero_le _, hid (fun j _ h => absurd h (by omega))⟩
      case round =>
        obtain ⟨j, rfl, hjn, HA⟩ := hrel
        by_cases hlt : j < i
        · have hil : j < L.length := by rw [HN.out]; exact hlt
          obtain ⟨b, o, e, hbl, hcc⟩ := HI.out (by omega)
          subst e
          obtain ⟨u, hu, a, c, eu, _⟩ := hcc j hil
          subst eu
          obtain ⟨m, gm⟩ : ∃ m, m = L[j].length := ⟨_, rfl⟩
          rw [← gm] at hu
          have GM := hid gm
          clear hcc gm
          by_cases hm : 2000 < m
          · have hC1 : C = 12 := by rw [GC.out]; unfold refC; rw [if_neg HNO.out, if_pos ⟨L[j], List.getElem_mem hil, by rw [← GM.out]; exact hm⟩]
            have hmv : (2000 : Int) < (m : Int) := by omega
            subst hC1
            go_wp2_with fail
            go_ret
            exact ⟨rfl, rfl⟩
          · have hmv : ¬ (2000 : Int) < (m : Int) := by omega
            go_wp2_with fail
            go_round
            case rel => exact ⟨j + 1, by go_num, by omega, hid (fun k hk h => by
              rcases (show k < j ∨ k = j by omega) with h' | rfl
              · exact HA.out k hk h'
              · rw [← GM.out]; omega)⟩
            case measure => simp [intOf]; omega
        · obtain rfl : j = i := by omega
          have hC1 : C = 0 := by
            rw [GC.out]; unfold refC; rw [if_neg HNO.out, if_neg]
            rintro ⟨l, hl, h⟩
            obtain ⟨k, hk, rfl⟩ := List.getElem_of_mem hl
            have := HA.out k hk (by rw [← HN.out]; exact hk)
            omega
          subst hC1
          go_wp2_with fail
          go_ret
          exact ⟨rfl, rfl⟩

/-- A record as a text: new bytes. -/
theorem astext_any (a0 : Option Addr) (len cap : Nat) (zs : List Int) (w : World) (hs : Src w a0 len zs) (hz : Bytes zs) (hl : len ≤ 2000) :
    Calls Tryz.prog 202 #[.slice a0 len cap] w fun e w' => ∃ c, e = .returned (.slice (some ⟨w.heap.size, 0, none⟩) (txtB zs).length c) ∧ w'.ownsRow w.heap.size 5 1 (.slice (some ⟨w.heap.size, 0, none⟩) (txtB zs).length c) (txtB zs).length ((txtB zs).map (Value.int .u8)) ∧ Below w.heap.size w w' := by
  have ec := hs.convert (P := Tryz.prog) cap 81 5 9 Tryz.underlying81 Tryz.underlying5 Tryz.underlying9
  have hsz : (strOfNums zs).size = zs.length := strOfNums_size zs
  have hzl : zs.length = len := hs.1
  have kt := hid (text_any none 0 0 (strOfNums zs) [] w (Src.nil _ _) (by omega))
  have hst : str (strOfNums zs) = zs := jstr_of hz
  have hx : txtB zs = [] ++ enc (strOfNums zs).size ++ str (strOfNums zs) := by rw [hst, hsz]; rfl
  have hxl : (txtB zs).length = 0 + (enc (strOfNums zs).size).length + (strOfNums zs).size := by rw [hx, List.length_append, List.length_append, str_len]; rfl
  rw [← hx, ← hxl] at kt
  obtain ⟨S, gS⟩ : ∃ S, S = strOfNums zs := ⟨_, rfl⟩
  rw [← gS] at kt ec
  clear gS hs hz hsz hst hx hxl
  go_enter Tryz.func202, Tryz.ntmps202
  go_wp2_with (first | (go_at_call 109; refine kt.out.mono ?_; rintro r w1 ⟨c, rfl, ho, hb⟩; have HO := hid ho; have HB := hid hb; clear ho hb))
  go_ret
  exact ⟨c, rfl, HO.out, HB.out⟩

end Go.Proofs.YtbgommpdmnbplaaGreatDoor

/- What journal's writeGroup does. -/
namespace Go.Proofs.YtbgommpdmnbplaaGreatDoor
open Go.RowKit Num Jr
set_option linter.unusedVariables false
set_option maxRecDepth 20000

set_option maxHeartbeats 4000000 in
theorem wgroup_any (d : Dk) (p n gen first size place num lb lo ln lc : Nat) (S : Nat → List Int) (load : List Int) (w : World) (J : Jd d w p n S) (hs : Src w (some ⟨lb, lo, none⟩) ln load) (hz : Bytes load) (hc1 : ln ≤ lc) (hc2 : lc ≤ 9223372036854775807) (hT : Tab w) (hdT : 1 ∉ d.foot p) (hlf : lb ∉ d.foot p)
    (hfit : first + place + needN ln ≤ n) (hgen : gen ≤ 4294967296) (hnum : num ≤ 4096) :
    Calls Tryz.prog 204 #[.agg #[.pointer (some ⟨p, 0, none⟩)], .agg #[.int .i64 gen, .int .i64 first, .int .i64 size], .int .i64 place, .int .i64 num, .slice (some ⟨lb, lo, none⟩) ln lc] w fun e w' => e = .returned .nilIface ∧ ∃ d', Jstep d w d' w' p n (writeGo first gen num (needN ln) S place load) ∧ d'.rest := by
  have hn2 : n ≤ 2048 := by rw [← J.dn]; exact J.ok.n2
  have hTl : 1 < w.heap.size := World.block_lt_of_cell? _ _ (hT 0 (by omega))
  have hll : load.length = ln := hs.1
  obtain ⟨W0, g0⟩ : ∃ W0, W0 = (w.alloc (.cells #[.pointer (some ⟨p, 0, none⟩)] 134)).alloc (.cells #[.int .i64 gen, .int .i64 first, .int .i64 size] 136) := ⟨_, rfl⟩
  have hb0 : Below w.heap.size w W0 := by rw [g0]; exact ((Below.refl _ _).alloc (Nat.le_refl _) _).alloc (by simp) _
  have hs0 : W0.heap.size = w.heap.size + 1 + 1 := by rw [g0]; simp
  obtain ⟨q, gq⟩ : ∃ q, q = w.heap.size := ⟨_, rfl⟩
  have x0 : W0.heap[q]? = some (.cells #[.pointer (some ⟨p, 0, none⟩)] 134 (0, 0)) := by
    rw [g0, gq, Below.heap_alloc _ _ _ (by simp)]; exact heap_alloc_new _ _
  have x1 : W0.heap[q + 1]? = some (.cells #[.int .i64 gen, .int .i64 first, .int .i64 size] 136 (0, 0)) := by
    have := heap_alloc_new (w.alloc (.cells #[.pointer (some ⟨p, 0, none⟩)] 134)) (.cells #[.int .i64 gen, .int .i64 first, .int .i64 size] 136)
    rw [g0, gq]; simpa using this
  have hqf : ∀ k, q ≤ k → k ∉ d.foot p := fun k hk hx => by have := J.ok.lt k hx; omega
  obtain ⟨T, gT⟩ : ∃ T, T = writeGo first gen num (needN ln) S place load := ⟨_, rfl⟩
  rw [← gT]
  have HJ := hid (J.below hb0)
  have HS := hid (hs.below hb0)
  have HZ := hid hz
  have HT := hid (hT.below hb0 hTl)
  have HDT := hid hdT
  have HLF := hid hlf
  have HX := hid (And.intro x0 x1)
  have HQF := hid hqf
  have GT := hid gT
  have G0 := hid g0
  have GQ := hid gq
  have HS0 := hid hs0
  have HB0 := hid hb0
  have HLL := hid hll
  have hlb : ln = 0 ∨ lb < W0.heap.size := by
    rcases Nat.eq_zero_or_pos ln with h | h
    · exact .inl h
    · obtain ⟨b, o, e, hl, _⟩ := HS.out.2 h
      simp only [Option.some.injEq, Addr.mk.injEq] at e
      exact .inr (by omega)
  have HLB := hid hlb
  clear J hs hz hT hdT hlf x0 x1 hqf gT g0 gq hs0 hb0 hll hlb
  go_enter Tryz.func204, Tryz.ntmps204
  go_upto_region 1 with fail
  rw [← G0.out, ← GQ.out]
  go_wp2_with fail
  go_loopw [2, 4] (fun v2 v4 wr => ∃ (pl off c : Nat) (a : Option Addr), v2 = .int .i64 pl ∧ v4 = .slice a (ln - off) c ∧ off ≤ ln ∧ Hid (off < ln → a = some ⟨lb, lo + off, none⟩ ∧ ln - off ≤ c ∧ c ≤ 9223372036854775807) ∧ first + pl + needN (ln - off) ≤ n ∧ Hid (∃ (f : Nat) (dx : Dk) (Sx : Nat → List Int), needN (ln - off) ≤ f ∧ Jstep d W0 dx wr p n Sx ∧ writeGo first gen num f Sx pl (load.drop off) = T)) (fun _ v4 _ => slen v4)
  case atStart => exact ⟨place, 0, lc, some ⟨lb, lo, none⟩, rfl, rfl, Nat.zero_le _, hid (fun _ => ⟨rfl, hc1, hc2⟩), hfit, hid ⟨needN ln, d, S, Nat.le_refl _, Jstep.refl HJ.out, by rw [List.drop_zero]; exact GT.out.symm⟩⟩
  case round =>
    obtain ⟨pl, off, c, a, rfl, rfl, hoff, HA, hpl, HE⟩ := hrel
    obtain ⟨f, dx, Sx, hf, hst, hw⟩ := HE.out
    have HST := hid hst
    have HW := hid hw
    have y0 : wr.cell? ⟨q, 0, none⟩ = some (.pointer (some ⟨p, 0, none⟩)) := heap_cells ((hst.heap (Array.getElem?_eq_some_iff.1 HX.out.1).1 (HQF.out q (Nat.le_refl _))).trans HX.out.1) 0 _ rfl
    have z0 : wr.cell? ⟨q + 1, 0, none⟩ = some (.int .i64 gen) := heap_cells ((hst.heap (Array.getElem?_eq_some_iff.1 HX.out.2).1 (HQF.out (q + 1) (by omega))).trans HX.out.2) 0 _ rfl
    have z1 : wr.cell? ⟨q + 1, 1, none⟩ = some (.int .i64 first) := heap_cells ((hst.heap (Array.getElem?_eq_some_iff.1 HX.out.2).1 (HQF.out (q + 1) (by omega))).trans HX.out.2) 1 _ rfl
    obtain ⟨m, gm⟩ : ∃ m, m = ln - off := ⟨_, rfl⟩
    rw [← gm] at HA hpl hf
    rw [← gm]
    clear HE hst hw
    by_cases hm0 : m = 0
    · have hTx : Sx = T := by
        have := HW.out
        rw [List.drop_of_length_le (by rw [HLL.out]; omega)] at this
        rw [← this]
        cases f <;> simp [writeGo]
      subst hm0
      have HTX := hid hTx
      have kf := hid (jflush_step dx p n _ wr HST.out.jd)
      clear hTx gm
      go_wp2_with (first | (go_at_call 192; refine kf.out.mono ?_; rintro r w4 ⟨rfl, d4, hs4, hr4⟩; have HS4 := hid (Jstep.front HB0.out (HST.out.trans hs4)); have HR4 := hid hr4; clear hs4 hr4))
      go_ret
      exact ⟨rfl, d4, by rw [← HTX.out]; exact HS4.out, HR4.out⟩
    · obtain ⟨ha, hac1, hac2⟩ := HA.out (by omega)
      subst ha
      have hmv : (0 : Int) < (m : Int) := by omega
      have hdl : (load.drop off).length = m := by rw [List.length_drop, HLL.out]; omega
      have hnp := needN_pos m (by omega)
      have hlbf : lb ∉ dx.foot p := HST.out.out (HLB.out.resolve_left (by omega)) HLF.out
      have hsrc : Src wr (some ⟨lb, lo + off, none⟩) m (load.drop off) := by
        have h1 := HS.out.mid off m (by omega)
        rw [List.take_of_length_le (by omega)] at h1
        exact HST.out.src h1 (fun b o e => by simp only [Option.some.injEq, Addr.mk.injEq] at e; obtain ⟨rfl, _⟩ := e; exact HLF.out)
      have hTr : Tab wr := HT.out.upd HST.out.upd HDT.out
      obtain ⟨k, gk⟩ : ∃ k, k = min 100 m := ⟨_, rfl⟩
      have hk : 1 ≤ k ∧ k ≤ 100 ∧ k ≤ m := by omega
      have hpart : Src wr (some ⟨lb, lo + off, none⟩) k ((load.drop off).take k) := hsrc.take k hk.2.2
      obtain ⟨f, rfl⟩ : ∃ f', f = f' + 1 := ⟨f - 1, by omega⟩
      have htk : (load.drop off).take 100 = (load.drop off).take k := by
        rcases Nat.le_total 100 m with h | h
        · rw [gk, Nat.min_eq_left h]
        · rw [gk, Nat.min_eq_right h, List.take_of_length_le (by omega), List.take_of_length_le (by omega)]
      have hdr : (load.drop off).drop 100 = load.drop (off + k) := by
        rw [List.drop_drop]
        rcases Nat.le_total 100 m with h | h
        · rw [gk, Nat.min_eq_left h]
        · rw [List.drop_of_length_le (by rw [HLL.out]; omega), List.drop_of_length_le (by rw [HLL.out]; omega)]
      have hDD : decide ((load.drop off).drop 100 = []) = decide (m ≤ 100) := by
        rw [decide_eq_decide]
        constructor
        · intro h; have := congrArg List.length h; rw [List.length_drop, hdl] at this; simp at this; omega
        · intro h; exact List.drop_of_length_le (by omega)
      have hwg : writeGo first gen num f (upS Sx (first + pl) (sectB pl gen num (decide (m ≤ 100)) ((load.drop off).take k))) (pl + 1) (load.drop (off + k)) = T := by
        rw [← HW.out, writeGo, if_neg (by intro e; rw [e] at hdl; simp at hdl; omega), hDD, htk, hdr]
      have kb := hid (sbytes_any pl gen num (decide (m ≤ 100)) lb (lo + off) k c ((load.drop off).take k) wr hpart (((HZ.out.drop off).take k)) hTr hk.2.1 (by omega) hac2 (by omega) (by omega) (by omega))
      have hbz := bytes_sectB pl gen num (decide (m ≤ 100)) ((load.drop off).take k) (by rw [List.length_take, hdl]; omega) ((HZ.out.drop off).take k)
      have kw := hid (fun (wx : World) (hb : Below wr.heap.size wr wx) (ho : wx.ownsRow (wr.heap.size + 1) 5 1 (.slice (some ⟨wr.heap.size + 1, 0, none⟩) 128 128) 128 ((sectB pl gen num (decide (m ≤ 100)) ((load.drop off).take k)).map (Value.int .u8))) => jwrite_step dx p n (first + pl) Sx ⟨wr.heap.size + 1, 0, none⟩ 128 _ wx (HST.out.jd.below hb) (by omega) (Src.own ho) hbz (fun hx => by have := HST.out.jd.ok.lt _ hx; simp at this; omega))
      have HWG := hid hwg
      obtain ⟨D, gD⟩ : ∃ D, D = decide (m ≤ 100) := ⟨_, rfl⟩
      rw [← gD] at kb kw HWG
      have GD := hid gD
      obtain ⟨ia, gia⟩ : ∃ ia, ia = first + pl := ⟨_, rfl⟩
      rw [← gia] at kw HWG
      have e1 : (first : Int) + (pl : Int) = (ia : Int) := by omega
      have hia : ia < n := by omega
      have GIA := hid gia
      have GM := hid gm
      clear HW htk hdr hDD hwg hdl hsrc hTr hpart hbz gD gia gm HA
      have hkk : (m ≤ 100 → k = m) ∧ (100 < m → k = 100) := by omega
      clear gk
      rcases (show m ≤ 100 ∨ 100 < m by omega) with h100 | h100
      · have hkm : k = m := hkk.1 h100
        clear hkk
        subst hkm
        have hDt : D = true := by rw [GD.out]; exact decide_eq_true h100
        subst hDt
        have hmn : ¬ (100 : Int) < (k : Int) := by omega
        have hkc : (k : Int) ≤ (c : Int) := by omega
        go_upto_region 4 with fail
        obtain ⟨A4, gA4⟩ : ∃ A4 : Option Addr, A4 = if c = k then some ⟨lb, lo + off, none⟩ else some ⟨lb, lo + off + k, none⟩ := ⟨_, rfl⟩
        rw [← gA4]
        have hz0 : 0 = ln - (off + k) := by have := GM.out; omega
        have hn0 : needN (ln - (off + k)) = 0 := by rw [← hz0]; rfl
        have HZ0 := hid hz0
        have HN0 := hid hn0
        clear gA4 hz0 hn0
        go_wp2_with (first | (go_at_call 229; refine kb.out.mono ?_; rintro r w2 ⟨rfl, ho2, hb2⟩; have HO2 := hid ho2; have HB2 := hid hb2; have y2 : w2.cell? ⟨q, 0, none⟩ = some (.pointer (some ⟨p, 0, none⟩)) := (hb2.cell (p := ⟨q, 0, none⟩) (World.block_lt_of_cell? _ _ y0)).trans y0; have z2 : w2.cell? ⟨q + 1, 1, none⟩ = some (.int .i64 first) := (hb2.cell (p := ⟨q + 1, 1, none⟩) (World.block_lt_of_cell? _ _ z1)).trans z1; clear ho2 hb2) | (go_at_call 191; refine (kw.out _ HB2.out HO2.out).mono ?_; rintro r w3 ⟨rfl, d3, hs3⟩; have HS3 := hid ((HST.out.below HB2.out).trans hs3); clear hs3))
        go_roundw
        case rel => exact ⟨pl + 1, off + k, c - k, A4, by go_num, by rw [← HZ0.out], by have := GM.out; omega, hid (fun h => by have := GM.out; omega), by rw [HN0.out]; have := GIA.out; omega, hid ⟨f, d3, _, by rw [HN0.out]; omega, HS3.out, HWG.out⟩⟩
        case measure => simp [slen]; omega
      · have hkm : k = 100 := hkk.2 h100
        clear hkk
        subst hkm
        have hDt : D = false := by rw [GD.out]; exact decide_eq_false (by omega)
        subst hDt
        have hmn : (100 : Int) < (m : Int) := by omega
        have hkc : (100 : Int) ≤ (c : Int) := by omega
        have hkn : ¬ c = 100 := by omega
        have hnz : ¬ (m : Int) - 100 = 0 := by omega
        have hz0 : m - 100 = ln - (off + 100) := by have := GM.out; omega
        have hn0 : needN (ln - (off + 100)) = needN m - 1 := by rw [← hz0]; unfold needN; omega
        have HZ0 := hid hz0
        have HN0 := hid hn0
        clear hz0 hn0
        go_upto_region 4 with fail
        obtain ⟨m1, gm1⟩ : ∃ m1, m1 = m - 100 := ⟨_, rfl⟩
        rw [← gm1]
        rw [← gm1] at HZ0
        have hm1 : ¬ m1 = 0 := by omega
        have hm1v : ¬ (m1 : Int) = 0 := by omega
        have hnm : needN m = needN m1 + 1 := by rw [gm1]; unfold needN; omega
        have hm1b : ((m1 : Int) == 0) = false := by rw [beq_eq_false_iff_ne]; exact hm1v
        have hmm : m1 < m := by omega
        have hlm1 : m1 ≤ c - 100 := by omega
        have HNM := hid hnm
        clear gm1 hnm hnz
        go_wp2_with (first | (go_at_call 229; refine kb.out.mono ?_; rintro r w2 ⟨rfl, ho2, hb2⟩; have HO2 := hid ho2; have HB2 := hid hb2; have y2 : w2.cell? ⟨q, 0, none⟩ = some (.pointer (some ⟨p, 0, none⟩)) := (hb2.cell (p := ⟨q, 0, none⟩) (World.block_lt_of_cell? _ _ y0)).trans y0; have z2 : w2.cell? ⟨q + 1, 1, none⟩ = some (.int .i64 first) := (hb2.cell (p := ⟨q + 1, 1, none⟩) (World.block_lt_of_cell? _ _ z1)).trans z1; clear ho2 hb2) | (go_at_call 191; refine (kw.out _ HB2.out HO2.out).mono ?_; rintro r w3 ⟨rfl, d3, hs3⟩; have HS3 := hid ((HST.out.below HB2.out).trans hs3); clear hs3))
        go_roundw
        case rel => exact ⟨pl + 1, off + 100, c - 100, some ⟨lb, lo + off + 100, none⟩, by go_num, by rw [← HZ0.out], by have := HZ0.out; omega, hid (fun _ => ⟨by rw [Nat.add_assoc], by rw [← HZ0.out]; exact hlm1, by omega⟩), by rw [← HZ0.out]; have := HNM.out; have := GIA.out; omega, hid ⟨f, d3, _, by rw [← HZ0.out]; have := HNM.out; omega, HS3.out, HWG.out⟩⟩
        case measure => simp only [slen]; omega

end Go.Proofs.YtbgommpdmnbplaaGreatDoor
