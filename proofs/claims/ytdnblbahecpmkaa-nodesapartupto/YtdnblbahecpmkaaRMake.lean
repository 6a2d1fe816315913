/- What the document's add and Make do, at a root alone. -/
import Derived.Test.YtdnblbahecpmkaaREnd
import Derived.Test.YtdnblbahecpmkaaRNew6
namespace Go.Proofs.Ytdnblbahecpmkaa
open Go.RowKit
set_option linter.unusedVariables false

theorem infoNm : (Try.prog.info? 117).map (fun i => (i.zero, i.size, i.bytes)) = some (some (.agg #[.string ⟨#[]⟩, .int .i64 0]), 2, 24) := by kernel_rfl

theorem cell_two (w : World) (u v : Value) (ty : TypeId) : ∀ j x, ([u, v] : List Value)[j]? = some x → (w.alloc (.cells #[u, v] ty)).cell? ((⟨w.heap.size, 0, none⟩ : Addr).add j) = some x := by
  intro j x h
  cases j with
  | zero => simp at h; subst h; simp [Addr.add, go_sem]
  | succ j => cases j with
    | zero => simp at h; subst h; simp [Addr.add, go_sem]
    | succ j => simp at h

set_option maxHeartbeats 2000000 in
theorem add_first (p b : Nat) (s : ByteArray) (w : World) (c0 : w.cell? ⟨p, 0, none⟩ = some (.slice (some ⟨b, 0, none⟩) 17 17)) (c1 : w.cell? ⟨b, 11, none⟩ = some (.slice none 0 0)) (f1 : w.frozen? ⟨b, 11, none⟩ = false) (hp : p < w.heap.size) (hb : b < w.heap.size) :
    Calls Try.prog 35 #[.pointer (some ⟨p, 0, none⟩), .int .i64 1, .string s, .int .i64 2] w fun e w' => e = .returned (.tuple #[]) ∧ Upd (· = b) w w' := by
  obtain ⟨i0, hi0, hz0, hz1, hz2⟩ := info_parts infoNm
  go_enter Try.func35, Try.ntmps35
  go_wp2_with fail
  go_loopw [8, 9, 21] (fun v8 v9 v21 wr => v8 = .slice none 0 0 ∧ v9 = .bool false ∧ v21 = .int .i64 0 ∧ wr = w) (fun _ _ _ _ => 0)
  case atStart => exact ⟨rfl, rfl, rfl, rfl⟩
  case round =>
    obtain ⟨rfl, rfl, rfl, rfl⟩ := hrel
    go_wp2_with (at_builtin; go_must (refine wpList_append_own _ rfl (.tmp 46) (.tmp 50) 82 rfl wr.heap.size 117 i0 _ 2 24 Try.underlying82 hi0 hz0 hz1 hz2 rfl (by decide) _ 0 [] rfl (World.ownsRow_nil _ _ _ _) ⟨_, 0, none⟩ 1 1 [.string s, .int .i64 2] rfl rfl (cell_two _ _ _ _) (by simp [Value.oneCell']) (by unfold maxLen; omega) (by omega) (by simp) ?_))
    intro v' w6 hO hG hN
    obtain ⟨va, vc, rfl⟩ : ∃ va vc, v' = .slice va (0 + 1) vc := by
      rcases hO.2 with ⟨h1, h2⟩ | ⟨g, c, cur, rfl, _⟩
      · omega
      · exact ⟨_, c, rfl⟩
    have hbel : Below wr.heap.size wr w6 := ((Below.refl wr.heap.size wr).alloc (Nat.le_refl _) (.cells #[.string s, .int .i64 2] 117)).grown hG (by simp) (fun x hx => by simp [Value.ownBlock] at hx)
    have d0 : w6.cell? ⟨p, 0, none⟩ = some (.slice (some ⟨b, 0, none⟩) 17 17) := (hbel.cell (p := ⟨p, 0, none⟩) hp).trans c0
    have d1 : w6.cell? ⟨b, 11, none⟩ = some (.slice none 0 0) := (hbel.cell (p := ⟨b, 11, none⟩) hb).trans c1
    have d2 : w6.frozen? ⟨b, 11, none⟩ = false := by
      have := hbel.block b hb
      simp only [World.frozen?] at f1 ⊢
      rw [this]; exact f1
    have HBL := hid hbel
    clear hO hG hN hbel c0 c1 f1
    go_wp2_with fail
    go_end0
    exact ⟨rfl, (Upd.of_below HBL.out).trans (Upd.setCell (F := (· = b)) w6 ⟨b, 11, none⟩ _ rfl) (fun x _ h => h)⟩

theorem builtR1 : Try.prog.built 84 [(0, .int .i64 1), (1, .int .i64 1)] = some #[.int .i64 1, .int .i64 1, .int .i64 0, .slice none 0 0, .slice none 0 0, .slice none 0 0] := by kernel_rfl

set_option maxHeartbeats 4000000 in
set_option maxRecDepth 20000 in
theorem r6make (p b : Nat) (t : ByteArray) (w : World) (H : R6 w p b) (hs : t.size ≤ 1048576) :
    Calls Try.prog 15 #[.pointer (some ⟨p, 0, none⟩), .string t, .int .i64 1] w fun e w' => (∃ n, e = .returned (.tuple #[.int .i64 n, .int .i64 (endE (bl t))])) ∧ Upd (· = b) w w' := by
  have k1 := hid (end_any p b t w H hs)
  obtain ⟨E, gE⟩ : ∃ E, E = endE (bl t) := ⟨_, rfl⟩
  rw [← gE] at k1 ⊢
  have HR := hid H
  clear H gE
  go_enter Try.func15, Try.ntmps15
  go_wp2_with fail
  refine k1.out.mono ?_
  rintro e w1 ⟨hB, hE⟩
  have HB := hid hB
  have HR1 := hid (HR.out.below hB)
  clear k1 hB HR
  rcases hE with ⟨hE, rfl⟩ | ⟨hE, s, rfl⟩
  · clear HR1
    go_wp2_with fail
    go_ret2
    exact ⟨⟨0, rfl⟩, Upd.of_below HB.out⟩
  · subst hE
    have k2 := hid (look_none p b s w1 HR1.out)
    have c0 := HR1.out.c0
    obtain ⟨c1, c2, c3⟩ := HR1.out.cb
    go_wp2_with fail
    refine k2.out.mono ?_
    rintro e w2 ⟨rfl, rfl⟩
    clear k2
    go_wp2_with fail
    go_loopw [11] (fun v11 wr => (v11 = .int .i64 1 ∨ v11 = .int .i64 2) ∧ wr = w2) (fun v11 _ => 2 - (intOf v11).toNat)
    case atStart => exact ⟨.inl rfl, rfl⟩
    case round =>
      obtain ⟨hv, rfl⟩ := hrel
      rcases hv with rfl | rfl
      · go_wp2_with fail
        go_roundw
        case rel => exact ⟨.inr rfl, trivial⟩
        case measure => simp [intOf]
      · obtain ⟨N, gN⟩ : ∃ N : List Value, N = [.int .i64 1, .int .i64 1, .int .i64 0, .slice none 0 0, .slice none 0 0, .slice none 0 0] := ⟨_, rfl⟩
        have H1 : Hid (N.toArray.all (·.oneCell') = true) := by rw [gN]; exact hid (by simp [Value.oneCell'])
        have HSZ : Hid ((Try.prog.info? 84).map (·.size) = some N.toArray.size) := by rw [gN]; exact hid csizeR6
        have HBT : Hid (Try.prog.built 84 [(0, .int .i64 1), (1, .int .i64 1)] = some N.toArray) := by rw [gN]; exact hid builtR1
        have HT : Hid (N.toArray.size = 6) := by rw [gN]; exact hid rfl
        have HTH : Hid (wr.there b 12 N.toArray.size) := by
          obtain ⟨C, h1, h2, _⟩ := HR1.out.row
          rw [HT.out]
          exact hid (there_of_block h1 12 6 (by omega))
        have k3 : Hid (Calls Try.prog 35 #[.pointer (some ⟨p, 0, none⟩), .int .i64 1, .string s, .int .i64 2] (wr.setCells b 12 N) fun e w' => e = .returned (.tuple #[]) ∧ Hid (Upd (· = b) (wr.setCells b 12 N) w')) := by
          have u := upd_setCells b N 12 wr
          obtain ⟨l1, l2⟩ := HR1.out.lt
          obtain ⟨C, h1, h2, _, h4, _⟩ := HR1.out.row
          have hN6 : N.length = 6 := by have := HT.out; simpa using this
          have h3 := heap_setCells b 84 N 12 wr C h1 (by omega)
          have hsz := size_setCells b N 12 wr
          refine hid ((add_first p b s _ ?_ ?_ ?_ (by omega) (by omega)).mono ?_)
          · exact (World.cell?_of_block (a := ⟨p, 0, none⟩) (u.block p l1 HR1.out.ne)).trans HR1.out.c0
          · exact cell_list h3 ((getElem?_splice_out _ _ _ _ (by omega) (by omega)).trans h4)
          · simp [World.frozen?, h3]
          · rintro e w' ⟨rfl, q⟩
            exact ⟨rfl, hid q⟩
        have HSU := hid (upd_setCells b N 12 wr)
        clear gN
        go_wp2_with (first
          | (refine wpList_build_is rfl 84 #[(0, .tmp 67), (1, .const (.int .i64 1))] rfl N.toArray (by simpa [Act.eval] using HBT.out) ?_)
          | (refine wpList_store_mid rfl 84 (.tmp 69) (.tmp 68) rfl b 12 N.toArray rfl rfl HTH.out HSZ.out H1.out ?_))
        refine k3.out.mono ?_
        rintro e w3 ⟨rfl, H3⟩
        clear k3
        go_wp2_with fail
        go_ret2
        exact ⟨⟨2, rfl⟩, ((Upd.of_below HB.out).trans HSU.out (fun x _ h => h)).trans H3.out (fun x _ h => h)⟩

end Go.Proofs.Ytdnblbahecpmkaa
