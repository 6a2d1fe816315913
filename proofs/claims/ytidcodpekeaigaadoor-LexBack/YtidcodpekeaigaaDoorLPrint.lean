/- lex.Print: tokens as a text. -/
import Derived.Test.YtidcodpekeaigaaDoorLRound
import Derived.Test.YtidcodpekeaigaaDoorLBuild
import Derived.Test.YtidcodpekeaigaaDoorLBare
import Derived.Test.YtidcodpekeaigaaDoorShelf
import Derived.Lib.ItoaLen
import Derived.Lib.AppendIntMem
namespace Go.Proofs.YtidcodpekeaigaaDoor
open Go.RowKit
set_option linter.unusedVariables false

/-- The table of strconv reads as it does, whatever is done from a place on. -/
def TabOk (B : Nat) (w : World) : Prop := Lib.TabBelow Tryd.prog B w "internal/strconv.uint64pow10" .u64 Lib.pow10Tab

set_option maxHeartbeats 2000000 in
theorem written_any (t : Tok) (B : Nat) (w : World) (hg : Good t) (hz : t.text.size ≤ 4000) (hB : B ≤ w.heap.size) (ht : TabOk B w) :
    Calls Tryd.prog 19 #[.agg #[.int .i64 t.kind, .int .i64 t.at_, .string t.text, .int .i64 t.num]] w fun e w' => e = .returned (.string (wrB t)) ∧ Below w.heap.size w w' := by
  obtain ⟨W0, gW⟩ : ∃ W0, W0 = w.alloc (.cells #[.int .i64 t.kind, .int .i64 t.at_, .string t.text, .int .i64 t.num] 33) := ⟨_, rfl⟩
  have hb0 : Below w.heap.size w W0 := by rw [gW]; exact below_one _ _
  rcases hg with ⟨hk, _⟩ | ⟨hk, hn1, hn2⟩ | ⟨hk, _⟩ | ⟨hk, _⟩ | ⟨hk, _⟩
  · have hw : wrB t = t.text := by unfold wrB; rw [if_pos (.inl hk)]
    rw [hw, hk]
    go_enter Tryd.func19, Tryd.ntmps19
    go_wp2_with fail
    go_ret
    exact ⟨rfl, below_one _ _⟩
  · have hw : wrB t = ⟨(Lib.itoa t.num).toArray⟩ := by unfold wrB; rw [hk]; rfl
    have ki : Hid (Calls Tryd.prog 35 #[.int .i64 t.num] W0 fun e w' => e = .returned (.string ⟨(Lib.itoa t.num).toArray⟩) ∧ Below W0.heap.size W0 w') := by
      refine hid ((Tryd.strconv_Itoa t.num (by omega) (by omega) W0 (ht _ (hb0.mono hB))).mono ?_)
      rintro e w' ⟨rfl, q, os, rfl⟩
      exact ⟨rfl, Lib.below_grow _ _ (Nat.le_refl _) q os⟩
    rw [hw, hk]
    rw [hk] at gW
    subst gW
    have HB0 := hid hb0
    clear hb0 ht
    go_enter Tryd.func19, Tryd.ntmps19
    go_wp2_with fail
    refine ki.out.mono ?_
    rintro e w1 ⟨rfl, hb1⟩
    have HB1 := hid (HB0.out.trans (hb1.mono HB0.out.size))
    clear hb1
    go_wp2_with fail
    go_ret
    exact ⟨rfl, HB1.out⟩
  · have hw : wrB t = ⟨#[34]⟩ ++ t.text ++ ⟨#[34]⟩ := by unfold wrB; rw [hk]; rfl
    rw [hw, hk]
    have z1 : (ByteArray.mk #[34]).size = 1 := rfl
    have z2 : (ByteArray.mk #[34] ++ t.text).size = 1 + t.text.size := by rw [size_app, z1]
    have a1 : ∀ W : World, (Op.stringOp .add ⟨#[34]⟩ t.text).run Tryd.prog W = .ok (.string (⟨#[34]⟩ ++ t.text)) W := fun W => run_string_add_sum W _ _ (by rw [z1]; omega)
    have a2 : ∀ W : World, (Op.stringOp .add (⟨#[34]⟩ ++ t.text) ⟨#[34]⟩).run Tryd.prog W = .ok (.string (⟨#[34]⟩ ++ t.text ++ ⟨#[34]⟩)) W := fun W => run_string_add_sum W _ _ (by rw [z1, z2]; omega)
    go_enter Tryd.func19, Tryd.ntmps19
    go_wp2_with fail
    go_ret
    exact ⟨rfl, below_one _ _⟩
  · have hw : wrB t = t.text := by unfold wrB; rw [if_pos (.inr hk)]
    rw [hw, hk]
    go_enter Tryd.func19, Tryd.ntmps19
    go_wp2_with fail
    go_ret
    exact ⟨rfl, below_one _ _⟩
  · rw [wr5 hk, hk]
    go_enter Tryd.func19, Tryd.ntmps19
    go_wp2_with fail
    go_ret
    exact ⟨rfl, below_one _ _⟩

theorem wrB_size {t : Tok} (hg : Good t) (hz : t.text.size ≤ 4000) : (wrB t).size ≤ 4002 := by
  unfold wrB
  split
  · omega
  split
  · rename_i h1 h2
    have hn : -2147483648 ≤ t.num ∧ t.num ≤ 2147483648 := by
      rcases hg with ⟨hk, _⟩ | ⟨hk, hn⟩ | ⟨hk, _⟩ | ⟨hk, _⟩ | ⟨hk, _⟩
      · omega
      · exact hn
      · omega
      · omega
      · omega
    have := Lib.itoa_length_le t.num (by omega) (by omega)
    rw [← list_len]
    show (Lib.itoa t.num).length ≤ 4002
    omega
  split
  · rw [size_app, size_app]
    show 1 + t.text.size + 1 ≤ 4002
    omega
  split
  · show 1 ≤ 4002
    omega
  · show 0 ≤ 4002
    omega

/-- The kind of the last token, if there is one. -/
def lastK (prev : Option Int) : List Tok → Option Int
  | [] => prev
  | t :: l => lastK (some t.kind) l
theorem app_assoc (a b c : ByteArray) : a ++ (b ++ c) = a ++ b ++ c := by
  apply ByteArray.ext
  apply Array.toList_inj.1
  simp only [app_list, List.append_assoc]
theorem app_nil (a : ByteArray) : a ++ ⟨#[]⟩ = a := by
  apply ByteArray.ext
  apply Array.toList_inj.1
  rw [app_list]
  exact List.append_nil _
theorem nil_app (a : ByteArray) : ⟨#[]⟩ ++ a = a := by
  apply ByteArray.ext
  apply Array.toList_inj.1
  rw [app_list]
  rfl
theorem prB_snoc : ∀ (A : List Tok) (prev : Option Int) (t : Tok), prB prev (A ++ [t]) = if sep (lastK prev A) t then prB prev A ++ ⟨#[32]⟩ ++ wrB t else prB prev A ++ wrB t
  | [], prev, t => by
    show (if sep prev t then ⟨#[32]⟩ ++ (wrB t ++ ⟨#[]⟩) else wrB t ++ ⟨#[]⟩) = _
    rw [app_nil]
    show _ = if sep prev t then ⟨#[]⟩ ++ ⟨#[32]⟩ ++ wrB t else ⟨#[]⟩ ++ wrB t
    rw [nil_app, nil_app]
  | a :: A, prev, t => by
    have ih := prB_snoc A (some a.kind) t
    show (if sep prev a then ⟨#[32]⟩ ++ (wrB a ++ prB (some a.kind) (A ++ [t])) else wrB a ++ prB (some a.kind) (A ++ [t])) = if sep (lastK (some a.kind) A) t then (if sep prev a then ⟨#[32]⟩ ++ (wrB a ++ prB (some a.kind) A) else wrB a ++ prB (some a.kind) A) ++ ⟨#[32]⟩ ++ wrB t else (if sep prev a then ⟨#[32]⟩ ++ (wrB a ++ prB (some a.kind) A) else wrB a ++ prB (some a.kind) A) ++ wrB t
    rw [ih]
    by_cases h1 : sep prev a = true <;> by_cases h2 : sep (lastK (some a.kind) A) t = true <;> simp [h1, h2, app_assoc]
theorem lastK_snoc : ∀ (A : List Tok) (prev : Option Int) (t : Tok), lastK prev (A ++ [t]) = some t.kind
  | [], prev, t => rfl
  | a :: A, prev, t => lastK_snoc A (some a.kind) t

/-- A builder's bytes, as its String tells them. -/
theorem bstring_any (b : Nat) (v : Value) (x : ByteArray) (w : World) (h : Bld w b v (Lib.strCells x)) :
    Calls Tryd.prog 20 #[.pointer (some ⟨b, 0, none⟩)] w fun e w' => e = .returned (.string x) ∧ Below b w w' := by
  have hl := h.lt
  obtain ⟨p, hp, hh, ho⟩ := h
  have hat : Lib.BuilderAt 49 5 b b p (Lib.strCells x) w := ⟨Nat.le_refl b, v, hh, own_base ho (Nat.le_succ b), fun e => by have := (ho.lt b e).1; omega⟩
  have hc : Lib.strCells x = Lib.byteCells x.data.toList := rfl
  rw [hc] at hat
  have his : Lib.IsBuilder 49 5 b b (Lib.byteCells x.data.toList) w := by
    rcases hp with rfl | rfl
    · exact .inl hat
    · exact .inr hat
  exact Tryd.Builder_String_any b b x.data.toList w his (Nat.le_of_lt hl)

theorem strCells_app (a b : ByteArray) : Lib.strCells (a ++ b) = Lib.strCells a ++ Lib.strCells b := by
  unfold Lib.strCells
  rw [app_list, List.map_append]

theorem lastK_take (l : List Tok) (j : Nat) (hj : j + 1 ≤ l.length) : lastK none (l.take (j + 1)) = some (l[j]'(by omega)).kind := by
  rw [List.take_succ_eq_append_getElem (by omega), lastK_snoc]

/-- What is laid down of a token. -/
theorem prB_take (l : List Tok) (j : Nat) (hj : j < l.length) (s : Bool) (hs : sep (lastK none (l.take j)) l[j] = s) :
    prB none (l.take (j + 1)) = if s then prB none (l.take j) ++ ⟨#[32]⟩ ++ wrB l[j] else prB none (l.take j) ++ wrB l[j] := by
  rw [List.take_succ_eq_append_getElem hj, prB_snoc, hs]

set_option maxRecDepth 100000 in
set_option maxHeartbeats 8000000 in
theorem print_any (v : Value) (B0 : Nat) (l : List Tok) (w : World) (ho : w.ownsRow B0 33 4 v l.length (toks l)) (hg : ∀ t ∈ l, Good t) (hz : ∀ t ∈ l, t.text.size ≤ 4000) (hn : l.length ≤ 4000) (ht : TabOk w.heap.size w) :
    Calls Tryd.prog 8 #[v] w fun e w' => e = .returned (.string (prB none l)) ∧ Below w.heap.size w w' := by
  have HO := hid ho
  have HG := hid hg
  have HZ := hid hz
  have HT := hid ht
  obtain ⟨a, c, rfl, _, _⟩ := own_shape ho
  obtain ⟨n, gn⟩ : ∃ n, n = l.length := ⟨_, rfl⟩
  rw [← gn] at hn ⊢
  have GN := hid gn
  clear gn ho hg hz ht
  go_enter Tryd.func8, Tryd.ntmps8
  go_wp2_with fail
  go_loopw [8] (fun k wr => ∃ j : Nat, j ≤ n ∧ k = .int .i64 j ∧ Hid (∃ vb, Bld wr w.heap.size vb (Lib.strCells (prB none (l.take j)))) ∧ Hid (Below w.heap.size w wr) ∧ Hid ((prB none (l.take j)).size ≤ 4003 * j)) (fun k _ => n - (intOf k).toNat)
  case atStart =>
    refine ⟨0, Nat.zero_le _, rfl, hid ⟨.slice none 0 0, .pointer none, .inl rfl, heap_alloc_new w _, World.ownsRow_nil _ _ _ _⟩, hid (below_one _ _), hid ?_⟩
    show 0 ≤ 4003 * 0
    omega
  case round =>
    obtain ⟨j, hj, rfl, HBD, HB, HS⟩ := hrel
    by_cases hlt : j < n
    · have hjl : j < l.length := by rw [← GN.out]; exact hlt
      have h1 := own_below HO.out HB.out
      obtain ⟨g1, d1, e1⟩ := own_some h1 (by omega)
      cases e1
      obtain ⟨p0, p1, p2, p3⟩ := toks_cells h1 j hjl
      have hgt := HG.out l[j] (List.getElem_mem hjl)
      have hzt := HZ.out l[j] (List.getElem_mem hjl)
      have hws := wrB_size hgt hzt
      have hsz := HS.out
      obtain ⟨vb, hbd⟩ := HBD.out
      have hbd1 := hbd.below (below_one wr (.cells #[.int .i64 l[j].kind, .int .i64 l[j].at_, .string l[j].text, .int .i64 l[j].num] 33))
      have KW0 := hid (fun (W : World) (hW : Below w.heap.size w W) => written_any l[j] w.heap.size W hgt hzt hW.size (Lib.TabBelow.on HT.out hW))
      obtain ⟨t, gt⟩ : ∃ t, t = l[j] := ⟨_, rfl⟩
      rw [← gt] at p0 p1 p2 p3 hws hbd1 KW0
      obtain ⟨y0, g0⟩ : ∃ y0, y0 = t.kind := ⟨_, rfl⟩
      obtain ⟨y1, g1'⟩ : ∃ y1, y1 = t.at_ := ⟨_, rfl⟩
      obtain ⟨y2, g2'⟩ : ∃ y2, y2 = t.text := ⟨_, rfl⟩
      obtain ⟨y3, g3⟩ : ∃ y3, y3 = t.num := ⟨_, rfl⟩
      rw [← g0] at p0
      rw [← g1'] at p1
      rw [← g2'] at p2
      rw [← g3] at p3
      rw [← g0, ← g1', ← g2', ← g3] at hbd1
      have KW : Hid (∀ (W : World), Below w.heap.size w W → Calls Tryd.prog 19 #[.agg #[.int .i64 y0, .int .i64 y1, .string y2, .int .i64 y3]] W fun e w' => e = .returned (.string (wrB t)) ∧ Below W.heap.size W w') := hid (fun W hW => by
        have := KW0.out W hW
        rw [← g0, ← g1', ← g2', ← g3] at this
        exact this)
      have HB1 : Hid (Below w.heap.size w (wr.alloc (.cells #[.int .i64 y0, .int .i64 y1, .string y2, .int .i64 y3] 33))) := hid (HB.out.trans ((below_one wr _).mono HB.out.size))
      have HBD1 : Hid (∃ vb, Bld (wr.alloc (.cells #[.int .i64 y0, .int .i64 y1, .string y2, .int .i64 y3] 33)) w.heap.size vb (Lib.strCells (prB none (l.take j)))) := hid ⟨vb, hbd1⟩
      have GT := hid gt
      have G0 := hid g0
      clear KW0 g1' g2' g3 hsz hgt hzt
      by_cases hj0 : j = 0
      · subst hj0
        simp only [Nat.zero_mul, Nat.zero_add] at p0 p1 p2 p3
        have HNX : Hid (prB none (l.take (0 + 1)) = prB none (l.take 0) ++ wrB t) := hid (by rw [prB_take l 0 hjl false (by rfl), if_neg (by decide), ← gt])
        have HBW : Hid (Below w.heap.size w (wr.alloc (.cells #[.int .i64 y0, .int .i64 y1, .string y2, .int .i64 y3] 33))) := HB1
        have HBDW : Hid (∃ vb, Bld (wr.alloc (.cells #[.int .i64 y0, .int .i64 y1, .string y2, .int .i64 y3] 33)) w.heap.size vb (Lib.strCells (prB none (l.take 0)))) := HBD1
        have HSZ : Hid ((prB none (l.take 0)).size ≤ 4003 * 0) := HS
        have kw := hid (KW.out (wr.alloc (.cells #[.int .i64 y0, .int .i64 y1, .string y2, .int .i64 y3] 33)) HB1.out)
        clear gt g0 h1 hbd hbd1 HBD HBD1 KW
        go_wp2_with fail
        refine (kw.out).mono ?_
        rintro e w2 ⟨rfl, hb2⟩
        obtain ⟨vx, hbx⟩ := HBDW.out
        have k3 := hid (wstring_any w.heap.size vx _ (wrB t) w2 (hbx.below hb2) (by rw [Lib.strCells_length]; have := HSZ.out; omega))
        have HB2 := hid (HBW.out.trans (hb2.mono HBW.out.size))
        have HGE := hid (fun x (hx : Fb w.heap.size vx x) => (hbx.below hb2).ge hx)
        clear hb2 hbx
        go_wp2_with fail
        refine (k3.out).mono ?_
        rintro e w3 ⟨rfl, hbd3, hu3⟩
        have HB3 : Hid (Below w.heap.size w w3) := hid (HB2.out.trans (hu3.below HB2.out.size (fun x hx => (HGE.out x hx).1)))
        have HBD3 : Hid (∃ vb, Bld w3 w.heap.size vb (Lib.strCells (prB none (l.take (0 + 1))))) := hid (by rw [HNX.out, strCells_app]; exact hbd3)
        have HS3 : Hid ((prB none (l.take (0 + 1))).size ≤ 4003 * (0 + 1)) := hid (by rw [HNX.out, size_app]; have := HSZ.out; omega)
        clear hbd3 hu3
        go_wp2_with fail
        go_roundw
        case rel => exact ⟨0 + 1, by omega, by go_num, HBD3, HB3, HS3⟩
        case measure => simp [intOf]; omega
      · have hj1 : j - 1 < l.length := by omega
        obtain ⟨r0, _, _, _⟩ := toks_cells h1 (j - 1) hj1
        have hlast : lastK none (l.take j) = some l[j - 1].kind := by
          obtain ⟨i, rfl⟩ : ∃ i, j = i + 1 := ⟨j - 1, by omega⟩
          have := lastK_take l i (by omega)
          simpa using this
        obtain ⟨K', gK⟩ : ∃ K', K' = l[j - 1].kind := ⟨_, rfl⟩
        rw [← gK] at r0 hlast
        have r0' : (wr.alloc (.cells #[.int .i64 y0, .int .i64 y1, .string y2, .int .i64 y3] 33)).cell? ⟨g1, (j - 1) * 4, none⟩ = some (.int .i64 K') := by
          rw [(below_one wr _).cell (p := ⟨g1, _, none⟩) (h1.lt g1 rfl).2]; exact r0
        have cj : (0 : Int) < (j : Int) := by omega
        have cj1 : IntKind.i64.wrap ((j : Int) - 1) = (j : Int) - 1 := by rw [IntKind.wrap_i64]; omega
        have cj2 : (0 : Int) ≤ (j : Int) - 1 := by omega
        have cj3 : (j : Int) - 1 < (n : Int) := by omega
        have cj4 : ((j : Int) - 1).toNat = j - 1 := by omega
        by_cases hk5 : y0 = 5
        · subst hk5
          have HNX : Hid (prB none (l.take (j + 1)) = prB none (l.take j) ++ wrB t) := hid (by rw [prB_take l j hjl false (by rw [hlast]; simp [sep, ← gt, ← g0]), if_neg (by decide), ← gt])
          have HBW : Hid (Below w.heap.size w (wr.alloc (.cells #[.int .i64 5, .int .i64 y1, .string y2, .int .i64 y3] 33))) := HB1
          have HBDW : Hid (∃ vb, Bld (wr.alloc (.cells #[.int .i64 5, .int .i64 y1, .string y2, .int .i64 y3] 33)) w.heap.size vb (Lib.strCells (prB none (l.take j)))) := HBD1
          have HSZ : Hid ((prB none (l.take j)).size ≤ 4003 * j) := HS
          have kw := hid (KW.out (wr.alloc (.cells #[.int .i64 5, .int .i64 y1, .string y2, .int .i64 y3] 33)) HB1.out)
          clear gt g0 h1 hbd hbd1 HBD HBD1 hlast gK r0
          go_wp2_with fail
          refine (kw.out).mono ?_
          rintro e w2 ⟨rfl, hb2⟩
          obtain ⟨vx, hbx⟩ := HBDW.out
          have k3 := hid (wstring_any w.heap.size vx _ (wrB t) w2 (hbx.below hb2) (by rw [Lib.strCells_length]; have := HSZ.out; omega))
          have HB2 := hid (HBW.out.trans (hb2.mono HBW.out.size))
          have HGE := hid (fun x (hx : Fb w.heap.size vx x) => (hbx.below hb2).ge hx)
          clear hb2 hbx
          go_wp2_with fail
          refine (k3.out).mono ?_
          rintro e w3 ⟨rfl, hbd3, hu3⟩
          have HB3 : Hid (Below w.heap.size w w3) := hid (HB2.out.trans (hu3.below HB2.out.size (fun x hx => (HGE.out x hx).1)))
          have HBD3 : Hid (∃ vb, Bld w3 w.heap.size vb (Lib.strCells (prB none (l.take (j + 1))))) := hid (by rw [HNX.out, strCells_app]; exact hbd3)
          have HS3 : Hid ((prB none (l.take (j + 1))).size ≤ 4003 * (j + 1)) := hid (by rw [HNX.out, size_app]; have := HSZ.out; omega)
          clear hbd3 hu3
          go_wp2_with fail
          go_roundw
          case rel => exact ⟨j + 1, by omega, by go_num, HBD3, HB3, HS3⟩
          case measure => simp [intOf]; omega
        · by_cases hk6 : K' = 5
          · subst hk6
            have HNX : Hid (prB none (l.take (j + 1)) = prB none (l.take j) ++ wrB t) := hid (by rw [prB_take l j hjl false (by rw [hlast]; simp [sep]), if_neg (by decide), ← gt])
            have HBW : Hid (Below w.heap.size w (wr.alloc (.cells #[.int .i64 y0, .int .i64 y1, .string y2, .int .i64 y3] 33))) := HB1
            have HBDW : Hid (∃ vb, Bld (wr.alloc (.cells #[.int .i64 y0, .int .i64 y1, .string y2, .int .i64 y3] 33)) w.heap.size vb (Lib.strCells (prB none (l.take j)))) := HBD1
            have HSZ : Hid ((prB none (l.take j)).size ≤ 4003 * j) := HS
            have kw := hid (KW.out (wr.alloc (.cells #[.int .i64 y0, .int .i64 y1, .string y2, .int .i64 y3] 33)) HB1.out)
            clear gt g0 h1 hbd hbd1 HBD HBD1 hlast gK r0 KW
            go_wp2_with fail
            refine (kw.out).mono ?_
            rintro e w2 ⟨rfl, hb2⟩
            obtain ⟨vx, hbx⟩ := HBDW.out
            have k3 := hid (wstring_any w.heap.size vx _ (wrB t) w2 (hbx.below hb2) (by rw [Lib.strCells_length]; have := HSZ.out; omega))
            have HB2 := hid (HBW.out.trans (hb2.mono HBW.out.size))
            have HGE := hid (fun x (hx : Fb w.heap.size vx x) => (hbx.below hb2).ge hx)
            clear hb2 hbx
            go_wp2_with fail
            refine (k3.out).mono ?_
            rintro e w3 ⟨rfl, hbd3, hu3⟩
            have HB3 : Hid (Below w.heap.size w w3) := hid (HB2.out.trans (hu3.below HB2.out.size (fun x hx => (HGE.out x hx).1)))
            have HBD3 : Hid (∃ vb, Bld w3 w.heap.size vb (Lib.strCells (prB none (l.take (j + 1))))) := hid (by rw [HNX.out, strCells_app]; exact hbd3)
            have HS3 : Hid ((prB none (l.take (j + 1))).size ≤ 4003 * (j + 1)) := hid (by rw [HNX.out, size_app]; have := HSZ.out; omega)
            clear hbd3 hu3
            go_wp2_with fail
            go_roundw
            case rel => exact ⟨j + 1, by omega, by go_num, HBD3, HB3, HS3⟩
            case measure => simp [intOf]; omega
          · have HNX : Hid (prB none (l.take (j + 1)) = (prB none (l.take j) ++ ⟨#[32]⟩) ++ wrB t) := hid (by rw [prB_take l j hjl true (by rw [hlast]; simp [sep, ← gt, ← g0, hk5, hk6]), if_pos rfl, ← gt])
            have kb := hid (wbyte_any w.heap.size vb _ 32 (wr.alloc (.cells #[.int .i64 y0, .int .i64 y1, .string y2, .int .i64 y3] 33)) hbd1 (by rw [Lib.strCells_length]; have := HS.out; omega))
            have hcb : (wr.alloc (.cells #[.int .i64 y0, .int .i64 y1, .string y2, .int .i64 y3] 33)).heap[wr.heap.size]? = some (.cells #[.int .i64 y0, .int .i64 y1, .string y2, .int .i64 y3] 33 (0, 0)) := heap_alloc_new wr _
            have hnf : ¬ Fb w.heap.size vb wr.heap.size := fun h => by have := (hbd.ge h).2; omega
            have HCB := hid hcb
            have HNF := hid hnf
            have HGE1 := hid (fun x (hx : Fb w.heap.size vb x) => hbd1.ge hx)
            have b5 : (y0 != 5) = true := by simp [hk5]
            have b6 : (K' != 5) = true := by simp [hk6]
            clear gt g0 h1 hbd hbd1 HBD HBD1 hlast gK r0 hcb hnf
            go_wp2_with fail
            refine (kb.out).mono ?_
            rintro e wx ⟨rfl, hbdx, hux⟩
            have hcx := hux.heap HCB.out HNF.out
            have s0 : wx.cell? ⟨wr.heap.size, 0, none⟩ = some (.int .i64 y0) := heap_cells hcx 0 _ rfl
            have s1 : wx.cell? ⟨wr.heap.size, 1, none⟩ = some (.int .i64 y1) := heap_cells hcx 1 _ rfl
            have s2 : wx.cell? ⟨wr.heap.size, 2, none⟩ = some (.string y2) := heap_cells hcx 2 _ rfl
            have s3 : wx.cell? ⟨wr.heap.size, 3, none⟩ = some (.int .i64 y3) := heap_cells hcx 3 _ rfl
            have HBW : Hid (Below w.heap.size w wx) := hid (HB1.out.trans (hux.below HB1.out.size (fun x hx => (HGE1.out x hx).1)))
            have HBDW : Hid (∃ vb, Bld wx w.heap.size vb (Lib.strCells (prB none (l.take j) ++ ⟨#[32]⟩))) := hid (by rw [strCells_app]; exact hbdx)
            have HSZ : Hid ((prB none (l.take j) ++ ⟨#[32]⟩).size ≤ 4003 * j + 1) := hid (by rw [size_app]; have := HS.out; have e : (ByteArray.mk #[32]).size = 1 := rfl; omega)
            have kw := hid (KW.out wx HBW.out)
            clear hbdx hux hcx KW
            go_wp2_with fail
            refine (kw.out).mono ?_
            rintro e w2 ⟨rfl, hb2⟩
            obtain ⟨vx, hbx⟩ := HBDW.out
            have k3 := hid (wstring_any w.heap.size vx _ (wrB t) w2 (hbx.below hb2) (by rw [Lib.strCells_length]; have := HSZ.out; omega))
            have HB2 := hid (HBW.out.trans (hb2.mono HBW.out.size))
            have HGE := hid (fun x (hx : Fb w.heap.size vx x) => (hbx.below hb2).ge hx)
            clear hb2 hbx
            go_wp2_with fail
            refine (k3.out).mono ?_
            rintro e w3 ⟨rfl, hbd3, hu3⟩
            have HB3 : Hid (Below w.heap.size w w3) := hid (HB2.out.trans (hu3.below HB2.out.size (fun x hx => (HGE.out x hx).1)))
            have HBD3 : Hid (∃ vb, Bld w3 w.heap.size vb (Lib.strCells (prB none (l.take (j + 1))))) := hid (by rw [HNX.out, strCells_app]; exact hbd3)
            have HS3 : Hid ((prB none (l.take (j + 1))).size ≤ 4003 * (j + 1)) := hid (by rw [HNX.out, size_app]; have := HSZ.out; omega)
            clear hbd3 hu3
            go_wp2_with fail
            go_roundw
            case rel => exact ⟨j + 1, by omega, by go_num, HBD3, HB3, HS3⟩
            case measure => simp [intOf]; omega
    · obtain rfl : j = n := by omega
      have e3 : l.take j = l := List.take_of_length_le (by rw [GN.out]; exact Nat.le_refl _)
      obtain ⟨vb, hbd⟩ := HBD.out
      rw [e3] at hbd
      have kb := hid (bstring_any w.heap.size vb (prB none l) wr hbd)
      clear hbd
      go_wp2_with fail
      refine kb.out.mono ?_
      rintro e w2 ⟨rfl, hb2⟩
      have HB2 := hid (HB.out.trans hb2)
      clear hb2
      go_wp2_with fail
      go_ret
      exact ⟨rfl, HB2.out⟩

end Go.Proofs.YtidcodpekeaigaaDoor
