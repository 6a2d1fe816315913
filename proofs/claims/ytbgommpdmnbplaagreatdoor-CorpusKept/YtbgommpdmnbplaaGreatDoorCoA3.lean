/- The corpus and what it stands on, merged. -/
import Derived.Test.YtbgommpdmnbplaaGreatDoorCoA1
import Derived.Deep.AppendSrc
import Derived.Laws.BytesArg
import Derived.Laws.BitsAllLaws
import Derived.Test.YtbgommpdmnbplaaGreatDoorCoA2

/- What wire.putNumber does, for every number and every row of its caller's own with room for nine bytes more: the number's bytes stand behind; nothing else turns. -/
namespace Go.Proofs.YtbgommpdmnbplaaGreatDoor
open Go.RowKit Num
set_option maxRecDepth 20000

theorem div_pow (n j : Nat) : (n : Int) / 2 ^ (7 * j) = ((n / 128 ^ j : Nat) : Int) := by
  rw [Int.pow_mul]; simp
theorem or_128 (x : Nat) : bits BinOp.or IntKind.u8 ((x : Int) % 256) 128 = ((x % 128 + 128 : Nat) : Int) := by
  have h : ∀ a : Fin 256, bits BinOp.or IntKind.u8 (a.val : Int) 128 = ((a.val % 128 + 128 : Nat) : Int) := by decide +kernel
  have := h ⟨x % 256, Nat.mod_lt _ (by omega)⟩
  simp only at this
  rw [show (x : Int) % 256 = ((x % 256 : Nat) : Int) by omega, this]
  omega
theorem and_127 (x : Nat) : bits BinOp.and IntKind.u8 ((x : Int) % 256) 127 = ((x % 128 : Nat) : Int) := by
  have h : ∀ a : Fin 256, bits BinOp.and IntKind.u8 (a.val : Int) 127 = ((a.val % 128 : Nat) : Int) := by decide +kernel
  have := h ⟨x % 256, Nat.mod_lt _ (by omega)⟩
  simp only at this
  rw [show (x : Int) % 256 = ((x % 256 : Nat) : Int) by omega, this]
  omega
/-- One byte more in a row with room. -/
theorem own_snoc {w' : World} {B g k cap : Nat} {xs T : List Int} (y z : Int) (hy : y = z) (h : w'.ownsRow B 5 1 (.slice (some ⟨g, 0, none⟩) (k + 1) cap) (k + 1) (xs.map (Value.int .u8) ++ (T.map (Value.int .u8) ++ [.int .u8 y]))) : w'.ownsRow B 5 1 (.slice (some ⟨g, 0, none⟩) (k + 1) cap) (k + 1) ((xs ++ T ++ [z]).map (Value.int .u8)) := by
  subst hy; simpa using h

set_option maxHeartbeats 400000 in
theorem putn_any (B g k cap n : Nat) (xs : List Int) (w : World) (hown : w.ownsRow B 5 1 (.slice (some ⟨g, 0, none⟩) k cap) k (xs.map (Value.int .u8))) (hroom : k + 9 ≤ cap) (hn : n < 9223372036854775808) :
    Calls Tryz.prog 157 #[.slice (some ⟨g, 0, none⟩) k cap, .int .i64 n] w fun e w' => e = .returned (.slice (some ⟨g, 0, none⟩) (k + (enc n).length) cap) ∧
      w'.ownsRow B 5 1 (.slice (some ⟨g, 0, none⟩) (k + (enc n).length) cap) (k + (enc n).length) ((xs ++ enc n).map (Value.int .u8)) ∧ Below B w w' := by
  obtain ⟨c, hc⟩ : ∃ c, c = cnt 9 n := ⟨_, rfl⟩
  have hc8 : c ≤ 8 := by rw [hc]; exact cnt_8 n hn
  obtain ⟨i0, hi, hz0, hz1, hz2⟩ := info_parts Tryz.info5
  have HC := hid hc
  have HO := hid hown
  clear hc hown
  go_enter Tryz.func157, Tryz.ntmps157
  go_wp2
  go_loop [5] (fun s => ∃ j : Nat, j ≤ c ∧ s = .int .i64 ((7 * j : Nat) : Int)) (fun s => 7 * c - (intOf s).toNat)
  case atStart => exact ⟨0, Nat.zero_le _, rfl⟩
  case round =>
    obtain ⟨j, hj, rfl⟩ := hrel
    by_cases hgt : 127 < n / 128 ^ j
    · have hjc : j < c := by rw [HC.out]; exact cnt_of_gt n j hn hgt
      have hd : (127 : Int) < (n : Int) / 2 ^ (7 * j) := by rw [div_pow]; omega
      go_wp2_with fail
      go_round
      case rel => exact ⟨j + 1, by omega, by go_num⟩
      case measure => simp [intOf]; omega
    · have hjc : j = c := by
        have := cnt_of_le n j (by omega)
        rw [← HC.out] at this
        omega
      have hd : (n : Int) / 2 ^ (7 * j) ≤ 127 := by rw [div_pow]; omega
      have hd' : decide ((127 : Int) < (n : Int) / 2 ^ (7 * j)) = false := by simp; omega
      subst hjc
      clear hgt
      go_wp2_with fail
      have hlt := (HO.out.lt g rfl)
      go_loopw [0, 5] (fun v s wr => ∃ (i t : Nat) (T : List Int), i ≤ j ∧ t ≤ 8 ∧ s = .int .i64 ((7 * i : Nat) : Int) ∧ Hid (T.length = t ∧ t + i = j) ∧ Hid (T ++ Num.hi n i = Num.hi n j) ∧ v = .slice (some ⟨g, 0, none⟩) (k + t) cap ∧ Hid (wr.ownsRow B 5 1 (.slice (some ⟨g, 0, none⟩) (k + t) cap) (k + t) ((xs ++ T).map (Value.int .u8))) ∧ Below B w wr) (fun _ s _ => (intOf s).toNat)
      case atStart => exact ⟨j, 0, [], Nat.le_refl _, by omega, rfl, ⟨rfl, by omega⟩, rfl, rfl, hid (by simpa using HO.out), Below.refl _ _⟩
      case round =>
        obtain ⟨i, t, T, hij, ht8, rfl, HT, HH, rfl, HW, hb⟩ := hrel
        clear hd hd'
        have hsz := hb.size
        have hBr : B ≤ wr.heap.size := by omega
        by_cases hi0 : i = 0
        · subst hi0
          go_wp2_with (at_builtin; go_must (refine wpList_append_fits _ rfl (.tmp 24) (.tmp 28) 81 rfl B 5 i0 1 Tryz.underlying81 hi hz1 g (k + t) cap ((xs ++ T).map (Value.int .u8)) rfl (HW.out.alloc _) ⟨wr.heap.size, 0, none⟩ 1 1 [.int .u8 (bits BinOp.and IntKind.u8 ((n : Int) % 256) 127)] rfl rfl (cell_one_new _ _ _) (by simp [Value.oneCell']) (by omega) ?_))
          intro w1 hown1 hgrow1
          have R := own_snoc _ _ (and_127 n) hown1
          have hb1 := (hb.alloc hBr (.cells #[Value.int .u8 (bits BinOp.and IntKind.u8 ((n : Int) % 256) 127)] 5)).grown hgrow1 (by simp; omega) (by intro q hq; simp at hq; omega)
          clear hown1 hgrow1
          go_wp2_with fail
          go_ret
          have hT := HT.out
          have he : xs ++ T ++ [((n % 128 : Nat) : Int)] = xs ++ enc n := by
            have := HH.out
            simp only [Num.hi, List.append_nil] at this
            rw [this, enc, ← HC.out, List.append_assoc]
          have hl : k + t + 1 = k + (enc n).length := by rw [length_enc, ← HC.out]; omega
          rw [he, hl] at R
          exact ⟨by rw [← hl]; rfl, R, hb1⟩
        · obtain ⟨i, rfl⟩ : ∃ q, i = q + 1 := ⟨i - 1, by omega⟩
          have hT := HT.out
          have htj : t + 1 ≤ 8 := by omega
          clear hT
          go_wp2_with (at_builtin; refine wpList_append_fits _ rfl (.tmp 16) (.tmp 22) 81 rfl B 5 i0 1 Tryz.underlying81 hi hz1 g (k + t) cap ((xs ++ T).map (Value.int .u8)) rfl (HW.out.alloc _) ⟨wr.heap.size, 0, none⟩ 1 1 [.int .u8 (bits BinOp.or IntKind.u8 ((n : Int) / 2 ^ (7 * (i + 1)) % 256) 128)] rfl rfl (cell_one_new _ _ _) (by simp [Value.oneCell']) (by omega) ?_)
          intro w1 hown1 hgrow1
          have R := own_snoc (bits BinOp.or IntKind.u8 ((n : Int) / 2 ^ (7 * (i + 1)) % 256) 128) ((n / 128 ^ (i + 1) % 128 + 128 : Nat) : Int) (by rw [div_pow]; exact or_128 _) hown1
          have hb1 := (hb.alloc hBr (.cells #[Value.int .u8 (bits BinOp.or IntKind.u8 ((n : Int) / 2 ^ (7 * (i + 1)) % 256) 128)] 5)).grown hgrow1 (by simp; omega) (by intro q hq; simp at hq; omega)
          have HR := hid R
          clear hown1 hgrow1 R
          go_wp2_with fail
          go_roundw
          case rel => 
            have hT := HT.out
            refine ⟨i, t + 1, T ++ [((n / 128 ^ (i + 1) % 128 + 128 : Nat) : Int)], by omega, by omega, by go_num, ⟨by simp; omega, by omega⟩, ?_, rfl, ?_, hb1⟩
            · have := HH.out
              show _ = _
              rw [← this]
              simp [Num.hi]
            · have := HR.out
              rw [← List.append_assoc]
              exact this
          case measure => simp [intOf]; omega

end Go.Proofs.YtbgommpdmnbplaaGreatDoor

/- What wire.Put does, for every slice of bytes and every int: the bytes, and behind them those of the number (0, if it is below 0), in a new row; nothing old turns. -/
namespace Go.Proofs.YtbgommpdmnbplaaGreatDoor
open Go.RowKit Num
set_option maxRecDepth 20000

theorem putn_int (B g k cap : Nat) (n : Int) (xs : List Int) (w : World) (hown : w.ownsRow B 5 1 (.slice (some ⟨g, 0, none⟩) k cap) k (xs.map (Value.int .u8))) (hroom : k + 9 ≤ cap) (h0 : 0 ≤ n) (hn : n ≤ 9223372036854775807) :
    Calls Tryz.prog 157 #[.slice (some ⟨g, 0, none⟩) k cap, .int .i64 n] w fun e w' => e = .returned (.slice (some ⟨g, 0, none⟩) (k + (enc n.toNat).length) cap) ∧
      w'.ownsRow B 5 1 (.slice (some ⟨g, 0, none⟩) (k + (enc n.toNat).length) cap) (k + (enc n.toNat).length) ((xs ++ enc n.toNat).map (Value.int .u8)) ∧ Below B w w' := by
  obtain ⟨m, rfl⟩ := Int.eq_ofNat_of_zero_le h0
  rw [Int.toNat_natCast]
  exact putn_any B g k cap m xs w hown hroom (by omega)

set_option maxHeartbeats 400000 in
theorem put_any (a0 : Option Addr) (len cap : Nat) (n : Int) (zs : List Int) (w : World) (hs : Src w a0 len zs) (hr : len + 9 ≤ 281474976710656) (hn : n ≤ 9223372036854775807) :
    Calls Tryz.prog 111 #[.slice a0 len cap, .int .i64 n] w fun e w' => e = .returned (.slice (some ⟨w.heap.size, 0, none⟩) (len + (enc n.toNat).length) (len + 9)) ∧
      w'.ownsRow w.heap.size 5 1 (.slice (some ⟨w.heap.size, 0, none⟩) (len + (enc n.toNat).length) (len + 9)) (len + (enc n.toNat).length) ((zs ++ enc n.toNat).map (Value.int .u8)) ∧ Below w.heap.size w w' := by
  have hroom := hid (fun wx hx => room_any a0 len cap 9 zs wx hx hr)
  have HS := hid hs
  clear hs
  go_enter Tryz.func111, Tryz.ntmps111
  go_wp2_with fail
  refine (hroom.out _ HS.out).mono ?_
  rintro e w1 ⟨rfl, hown, hb⟩
  have HO := hid hown
  clear hown
  rcases Int.lt_or_le n 0 with h0 | h0
  · go_wp2_with fail
    refine (putn_int w.heap.size _ _ _ 0 zs _ HO.out (by omega) (by omega) (by omega)).mono ?_
    rintro e w2 ⟨rfl, hown2, hb2⟩
    have H2 := hid hown2
    clear hown2
    go_wp2_with fail
    go_ret
    rw [show n.toNat = (0 : Int).toNat by omega]
    exact ⟨rfl, H2.out, hb.trans hb2⟩
  · go_wp2_with fail
    refine (putn_int w.heap.size _ _ _ n zs _ HO.out (by omega) (by omega) (by omega)).mono ?_
    rintro e w2 ⟨rfl, hown2, hb2⟩
    have H2 := hid hown2
    clear hown2
    go_wp2_with fail
    go_ret
    exact ⟨rfl, H2.out, hb.trans hb2⟩

end Go.Proofs.YtbgommpdmnbplaaGreatDoor

/- Laws for texts: 'append(b, s...)' of a text within the capacity; the bytes of a text as numbers. -/
namespace Go.Proofs.YtbgommpdmnbplaaGreatDoor
open Go.RowKit Num
set_option maxRecDepth 20000

/-- The bytes of a text, as numbers. -/
def str (s : ByteArray) : List Int := s.data.toList.map fun b => (b.toNat : Int)
theorem str_len (s : ByteArray) : (str s).length = s.size := by
  unfold str
  rw [List.length_map, Array.length_toList]
  rfl
theorem str_bytes (s : ByteArray) : Bytes (str s) := by
  intro z hz
  obtain ⟨b, _, rfl⟩ := List.mem_map.1 hz
  have := b.toNat_lt
  omega
theorem str_cells (s : ByteArray) : byteCells s = (str s).map (Value.int .u8) := by
  unfold str byteCells
  rw [List.map_map]
  rfl
theorem str_back (s : ByteArray) : strOfNums (str s) = s := by
  apply ByteArray.ext
  unfold strOfNums str
  rw [List.map_map]
  have : (fun n : Int => UInt8.ofNat n.toNat) ∘ (fun b : UInt8 => (b.toNat : Int)) = id := by
    funext b
    simp
  rw [this, List.map_id]

/-- 'append(out, s...)' of a text, within the capacity. -/
theorem wpList_append_fits_str {P : Program} (w : World) {ops : Array Oper} {rest : List Oper} {o : Oper} {a : Act} {Q : Exit → Act → World → Prop}
    (hg : o.guard = none) (s x : Operand) (t tx : TypeId) (hop : o.op = Op.call { callee := Callee.builtin Builtin.append, args := #[s, x], argTypes := #[t, tx] })
    (base : Nat) (e : TypeId) (i : TypeInfo) (h1 : P.underlying t = some (.slice e)) (hx : P.underlying tx = some .string) (h2 : P.info? e = some i) (h4 : i.size = 1)
    (g k cap : Nat) (xs : List Value) (hs : a.eval s = .slice (some ⟨g, 0, none⟩) k cap) (hown : w.ownsRow base e 1 (.slice (some ⟨g, 0, none⟩) k cap) k xs) (S : ByteArray) (hS : a.eval x = .string S) (b1 : k + S.size ≤ cap)
    (hK : ∀ w', w'.ownsRow base e 1 (.slice (some ⟨g, 0, none⟩) (k + S.size) cap) (k + S.size) (xs ++ byteCells S) → w.grownBy w' (some g) → wpList P ops Q rest (a.put o.dst (.slice (some ⟨g, 0, none⟩) (k + S.size) cap)) w') :
    wpList P ops Q (o :: rest) a w := by
  refine wpList_plain hg fun K hK' => ?_
  have hl := byteCells_length S
  obtain ⟨w', hrun, r1, r2⟩ : ∃ w', (Builtin.append_ #[t, tx] o.type #[.slice (some ⟨g, 0, none⟩) k cap, .string S]).run P w = .ok (.slice (some ⟨g, 0, none⟩) (k + S.size) cap) w' ∧
      w'.ownsRow base e 1 (.slice (some ⟨g, 0, none⟩) (k + S.size) cap) (k + S.size) (xs ++ byteCells S) ∧ w.grownBy w' (some g) := by
    rcases hown.2 with ⟨h, _⟩ | ⟨g', cap', cur, h, hbg, hgg, hnc, hcm, hcs, htake⟩
    · simp at h
    · simp only [Value.slice.injEq, Option.some.injEq, Addr.mk.injEq, and_true, true_and] at h
      obtain ⟨rfl, rfl⟩ := h
      have hxl := hown.1
      have hfit : k + (byteCells S).length ≤ cur.size := by rw [hl, hcs]; omega
      have hf : (Builtin.firstCells 1 S.size (.string S)).run P w = .ok (byteCells S).toArray w := firstCells_string S w
      have hst := run_storeCells_at P g k e (byteCells S) 0 cur w hgg (by simpa using hfit) (Go.Src.ofString (P := P) w hx S).one
      simp only [Nat.add_zero] at hst
      have hr : (Builtin.append_ #[t, tx] o.type #[.slice (some ⟨g, 0, none⟩) k cap, .string S]).run P w =
          .ok (.slice (some ⟨g, 0, none⟩) (k + S.size) cap) (w.setRow g (cur.toList.take k ++ byteCells S ++ cur.toList.drop (k + (byteCells S).length)).toArray) := by
        simp [Builtin.append_, run_underlying h1, run_underlying hx, sizeOf, typeInfo, h2, h4, Builtin.lenOf, b1, hf, Addr.add_lit, hst]
      refine ⟨_, hr, ⟨by rw [List.length_append, hxl, hl]; omega, .inr ⟨g, cap, _, rfl, hbg, setRow_heap w g cur _ e _ hgg, b1, hcm, ?_, ?_⟩⟩, ⟨rfl, rfl, rfl, by simp, fun k _ hk => setRow_other w g k _ (fun e => hk (by simp [e]))⟩⟩
      · simp only [List.size_toArray, List.length_append, List.length_take, List.length_drop, Array.length_toList]
        omega
      · rw [Nat.mul_one] at htake
        rw [htake]
        have : (xs ++ byteCells S).length = (k + S.size) * 1 := by rw [List.length_append, hxl, hl]; omega
        rw [← this]
        exact List.take_left
  unfold Oper.wp
  simp [execOp, hop, resolve, invoke, builtin, hs, hS, hrun, Result.andThen]
  exact hK' _ _ (hK w' r1 r2)

end Go.Proofs.YtbgommpdmnbplaaGreatDoor

/- What wire.Text and wire.Signed do, for every slice of bytes, text and int within reach: the bytes, and behind them those of the text or of the whole number, in a new row; nothing old turns. -/
namespace Go.Proofs.YtbgommpdmnbplaaGreatDoor
open Go.RowKit Num
set_option maxRecDepth 20000

/-- The number that stands for a whole one. -/
def fld (n : Int) : Int := if n < 0 then -2 * n - 1 else 2 * n
/-- A whole number, within its bounds. -/
def clip (n : Int) : Int := min (max n (-4611686018427387904)) 4611686018427387903

theorem i64_compl (a : Int) (h0 : -9223372036854775808 ≤ a) (h1 : a ≤ 9223372036854775807) : bits BinOp.xor IntKind.i64 (-1) a = -1 - a := by
  show IntKind.i64.wrap ((BitVec.ofInt 64 (-1) ^^^ BitVec.ofInt 64 a).toNat : Int) = _
  have h2 : BitVec.ofInt 64 (-1) = BitVec.allOnes 64 := by decide
  rw [h2, BitVec.allOnes_xor, BitVec.toNat_not, BitVec.toNat_ofInt, IntKind.wrap_i64]
  omega

theorem ret_i64 {a b : Int} (h : a = b) : Ending.returned (.int .i64 a) = .returned (.int .i64 b) := by rw [h]

theorem room_int (a0 : Option Addr) (len cap : Nat) (r : Int) (R : Nat) (zs : List Int) (w : World) (hs : Src w a0 len zs) (hR : r = (R : Int)) (hr : len + R ≤ 281474976710656) :
    Calls Tryz.prog 140 #[.slice a0 len cap, .int .i64 r] w fun e w' => e = .returned (.slice (some ⟨w.heap.size, 0, none⟩) len (len + R)) ∧
      w'.ownsRow w.heap.size 5 1 (.slice (some ⟨w.heap.size, 0, none⟩) len (len + R)) len (zs.map (Value.int .u8)) ∧ Below w.heap.size w w' := by
  subst hR
  exact room_any a0 len cap R zs w hs hr

set_option maxHeartbeats 400000 in
theorem text_any (a0 : Option Addr) (len cap : Nat) (S : ByteArray) (zs : List Int) (w : World) (hs : Src w a0 len zs) (hr : len + 9 + S.size ≤ 281474976710656) :
    Calls Tryz.prog 109 #[.slice a0 len cap, .string S] w fun e w' => ∃ c, e = .returned (.slice (some ⟨w.heap.size, 0, none⟩) (len + (enc S.size).length + S.size) c) ∧
      w'.ownsRow w.heap.size 5 1 (.slice (some ⟨w.heap.size, 0, none⟩) (len + (enc S.size).length + S.size) c) (len + (enc S.size).length + S.size) ((zs ++ enc S.size ++ str S).map (Value.int .u8)) ∧ Below w.heap.size w w' := by
  obtain ⟨i0, hi, hz0, hz1, hz2⟩ := info_parts Tryz.info5
  have hroom := hid (fun wx hx => room_int a0 len cap (9 + (S.size : Int)) (9 + S.size) zs wx hx (by omega) (by omega))
  have hl := length_enc S.size
  have hc8 := cnt_8 S.size (by omega)
  obtain ⟨L, gL⟩ : ∃ L, L = (enc S.size).length := ⟨_, rfl⟩
  have hL9 : L ≤ 9 := by omega
  have hputn := hid (fun wx hx => putn_any w.heap.size w.heap.size len (len + (9 + S.size)) S.size zs wx hx (by omega) (by omega))
  rw [← gL] at hputn ⊢
  have HS := hid hs
  clear hs gL hl hc8
  go_enter Tryz.func109, Tryz.ntmps109
  go_wp2_with fail
  refine (hroom.out _ HS.out).mono ?_
  rintro e w1 ⟨rfl, hown, hb⟩
  have HO := hid hown
  clear hown
  go_wp2_with fail
  refine (hputn.out _ HO.out).mono ?_
  rintro e w2 ⟨rfl, hown2, hb2⟩
  have HO2 := hid hown2
  have hlt := hown2.lt w.heap.size rfl
  clear hown2
  go_wp2_with (at_builtin; go_must (refine wpList_append_fits_str _ rfl (.tmp 12) (.tmp 13) 81 9 rfl w.heap.size 5 i0 Tryz.underlying81 Tryz.underlying9 hi hz1 w.heap.size (len + L) (len + (9 + S.size)) _ rfl HO2.out S rfl (by omega) ?_))
  intro w3 hown3 hgrow3
  rw [str_cells] at hown3
  have hb3 := (hb.trans hb2).grown hgrow3 (by omega) (by intro q hq; simp at hq; omega)
  have HO3 := hid hown3
  clear hown3 hgrow3
  go_wp2_with fail
  go_ret
  refine ⟨_, rfl, ?_, hb3⟩
  have := HO3.out
  simpa using this

end Go.Proofs.YtbgommpdmnbplaaGreatDoor

/- What wire's reader does when it reads a whole number or a text: it tells what stands there, or the error, and then stays where it was. -/
namespace Go.Proofs.YtbgommpdmnbplaaGreatDoor
open Go.RowKit Num
set_option maxRecDepth 20000

/-- The whole number that a number stands for. -/
def unf (n : Nat) : Int := if n % 2 = 1 then -1 - ((n / 2 : Nat) : Int) else ((n / 2 : Nat) : Int)
theorem unf_fld (n : Int) : unf (fld n).toNat = n := by
  unfold unf fld
  split <;> split <;> omega

theorem rest_at (B p g len at_ : Nat) (zs : List Int) (w : World) (h : Rdr w B p g len at_ zs) (hlt : at_ < len) :
    Calls Tryz.prog 195 #[.pointer (some ⟨p, 0, none⟩)] w fun e w' => e = .returned (.slice (some ⟨g, at_, none⟩) (len - at_) (len - at_)) ∧ ∃ n, w' = w.drewN n := by
  have c0 := h.c0
  have c1 := h.c1
  have hf := h.fit
  have hcp := h.cap
  clear h
  have hne : ¬ len = at_ := by omega
  go_enter Tryz.func195, Tryz.ntmps195
  go_wp2
  go_quiet (fail)
  go_wp2
  go_ret
  exact ⟨rfl, _, rfl⟩

theorem pass_int (p at_ R : Nat) (r : Int) (w : World) (h1 : w.cell? ⟨p, 1, none⟩ = some (.int .i64 at_)) (hf : w.frozen? ⟨p, 1, none⟩ = false) (hR : r = (R : Int)) (hb : at_ + R ≤ 9223372036854775807) :
    Calls Tryz.prog 196 #[.pointer (some ⟨p, 0, none⟩), .int .i64 r] w fun e w' => e = .returned (.tuple #[]) ∧ w' = w.setCell ⟨p, 1, none⟩ (.int .i64 ((at_ + R : Nat) : Int)) := by
  subst hR
  exact pass_any p at_ R w h1 hf hb

/-- A piece of a reader's bytes. -/
theorem Rdr.piece {w : World} {B p g len at_ : Nat} {zs : List Int} (h : Rdr w B p g len at_ zs) (q n : Nat) (hq : q + n ≤ len) : Src w (some ⟨g, q, none⟩) n ((zs.drop q).take n) := by
  have hl := h.len
  refine ⟨by simp; omega, fun hn => ?_⟩
  obtain ⟨b, o, e, hlt, hc⟩ := h.src.2 (by omega)
  simp only [Option.some.injEq, Addr.mk.injEq] at e
  obtain ⟨rfl, rfl, _⟩ := e
  refine ⟨g, q, rfl, hlt, fun j hj => ?_⟩
  rw [← Nat.zero_add (q + j), hc (q + j) (by omega)]
  simp [List.getD, List.getElem?_drop, hj]

/-- What is read of a text of at most so many bytes: the bytes, how many were passed, the error. -/
def txt (zs : List Int) (most : Int) : List Int × Nat × Nat :=
  if (dec zs).2.2 ≠ 0 then ([], 0, (dec zs).2.2) else if max most 0 < ((dec zs).1 : Int) then ([], 0, 12) else if zs.length - (dec zs).2.1 < (dec zs).1 then ([], 0, 10)
  else ((zs.drop (dec zs).2.1).take (dec zs).1, (dec zs).2.1 + (dec zs).1, 0)

set_option maxHeartbeats 1000000 in
theorem rtext_any (B p g len at_ : Nat) (zs : List Int) (most : Int) (w : World) (h : Rdr w B p g len at_ zs) (hz : Bytes zs) :
    Calls Tryz.prog 144 #[.pointer (some ⟨p, 0, none⟩), .int .i64 most] w fun e w' => e = .returned (.tuple #[.string (strOfNums (txt (zs.drop at_) most).1), .int .i64 ((txt (zs.drop at_) most).2.2 : Nat)]) ∧
      Rdr w' B p g len (at_ + (txt (zs.drop at_) most).2.1) zs ∧ Only p w w' := by
  have k1 := hid (usable_any p w h.c2)
  have k2 := hid (fun wx (hx : Rdr wx B p g len at_ zs) => rest_any B p g len at_ zs wx hx)
  have hd := dec_got (zs.drop at_) (hz.drop at_)
  have hlen := h.len
  have hfit := h.fit
  have hcap := h.cap
  have k3 := hid (fun (wx : World) (a0 : Option Addr) (hs : Src wx a0 (len - at_) (zs.drop at_)) (hn : a0 ≠ none) => number_any a0 (len - at_) (len - at_) (zs.drop at_) wx hs (hz.drop at_) (Nat.le_refl _) (by unfold maxLen; omega) (fun e => absurd e hn))
  have hT : txt (zs.drop at_) most = if (dec (zs.drop at_)).2.2 ≠ 0 then ([], 0, (dec (zs.drop at_)).2.2) else if max most 0 < ((dec (zs.drop at_)).1 : Int) then ([], 0, 12) else if (len - at_) - (dec (zs.drop at_)).2.1 < (dec (zs.drop at_)).1 then ([], 0, 10)
      else (((zs.drop at_).drop (dec (zs.drop at_)).2.1).take (dec (zs.drop at_)).1, (dec (zs.drop at_)).2.1 + (dec (zs.drop at_)).1, 0) := by
    unfold txt; rw [List.length_drop, hlen]
  rw [List.length_drop, hlen] at hd
  obtain ⟨D, gD⟩ : ∃ D, D = dec (zs.drop at_) := ⟨_, rfl⟩
  rw [← gD] at k3 hd hT
  have HR := hid h
  clear gD h hlen hz
  obtain ⟨n, k, e⟩ := D
  simp only at k3 hd hT
  rw [hT]
  clear hT
  by_cases he : e = 0
  · subst he
    obtain ⟨hn, hk1, hk9, hkl, _⟩ : n < 9223372036854775808 ∧ 1 ≤ k ∧ k ≤ 9 ∧ k ≤ len - at_ ∧ True := by
      rcases hd with hd | hd
      · exact ⟨hd.2.1, hd.2.2.1, hd.2.2.2.1, hd.2.2.2.2.1, trivial⟩
      · exact absurd rfl hd.1
    clear hd
    rw [if_neg (by simp)]
    by_cases hlong : max most 0 < (n : Int)
    · rw [if_pos hlong]
      rcases Int.lt_or_le most 0 with hs | hs
      all_goals
        have hl2 : (n : Int) > 0 := by omega
        have hl3 : most < (n : Int) := by omega
        go_enter Tryz.func144, Tryz.ntmps144
        go_wp2_with fail
        refine k1.out.mono ?_
        rintro e w1 ⟨rfl, rfl⟩
        go_wp2_with fail
        refine (k2.out _ HR.out).mono ?_
        rintro e w2 ⟨a0, rfl, hs0, hn0, m, rfl⟩
        have HS := hid hs0
        have HN := hid hn0
        clear hs0 hn0
        go_wp2_with fail
        refine (k3.out _ _ (by exact HS.out.heap rfl) HN.out).mono ?_
        rintro e w3 ⟨rfl, rfl⟩
        go_wp2_with fail
        go_ret2
        exact ⟨rfl, HR.out.drewN m, Only.drewN m⟩
    · rw [if_neg hlong]
      have hm : (most < 0 ∧ (n : Int) ≤ 0) ∨ (0 ≤ most ∧ (n : Int) ≤ most) := by omega
      clear hlong
      by_cases hshort : len - at_ - k < n
      · rw [if_pos hshort]
        rcases hm with ⟨hm1, hm2⟩ | ⟨hm1, hm2⟩
        · exfalso; omega
        rcases Nat.eq_or_lt_of_le hkl with hkk | hkk
        all_goals
          have hq : (len : Int) - at_ - k < n := by omega
          go_enter Tryz.func144, Tryz.ntmps144
          go_wp2_with fail
          refine k1.out.mono ?_
          rintro e w1 ⟨rfl, rfl⟩
          go_wp2_with fail
          refine (k2.out _ HR.out).mono ?_
          rintro e w2 ⟨a0, rfl, hs0, hn0, m, rfl⟩
          have HS := hid hs0
          have HN := hid hn0
          clear hs0 hn0
          go_wp2_with fail
          refine (k3.out _ _ (by exact HS.out.heap rfl) HN.out).mono ?_
          rintro e w3 ⟨rfl, rfl⟩
          go_wp2_with fail
          refine (k2.out _ (HR.out.drewN m)).mono ?_
          rintro e w2 ⟨a1, rfl, hs1, hn1, m1, rfl⟩
          obtain ⟨b, o, rfl, _, _⟩ := hs1.2 (by omega)
          clear hs1 hn1
          go_wp2_with fail
          go_ret2
          exact ⟨rfl, HR.out.drewN _, Only.drewN _⟩
      · rw [if_neg hshort]
        have hkn : at_ + (k + n) ≤ len := by omega
        rcases Nat.eq_or_lt_of_le hkl with hkk | hkk
        · obtain rfl : n = 0 := by omega
          rcases hm with ⟨hm1, hm2⟩ | ⟨hm1, hm2⟩
          all_goals
            go_enter Tryz.func144, Tryz.ntmps144
            go_wp2_with fail
            refine k1.out.mono ?_
            rintro e w1 ⟨rfl, rfl⟩
            go_wp2_with fail
            refine (k2.out _ HR.out).mono ?_
            rintro e w2 ⟨a0, rfl, hs0, hn0, m, rfl⟩
            have HS := hid hs0
            have HN := hid hn0
            clear hs0 hn0
            go_wp2_with fail
            refine (k3.out _ _ (by exact HS.out.heap rfl) HN.out).mono ?_
            rintro e w3 ⟨rfl, rfl⟩
            go_wp2_with fail
            refine (rest_at B p g len at_ zs _ (HR.out.drewN m) (by omega)).mono ?_
            rintro e w2 ⟨rfl, m1, rfl⟩
            go_wp2_with fail
            refine (pass_int p at_ (k + 0) _ _ (HR.out.drewN (m + m1)).c1 (HR.out.drewN (m + m1)).f1 (by omega) (by omega)).mono ?_
            rintro e w4 ⟨rfl, hw4⟩
            have R4 := hid (hw4 ▸ (HR.out.drewN (m + m1)).pass (k + 0) hkn)
            have O4 := hid (hw4 ▸ (Only.drewN (p := p) (m + m1)).trans (Only.setCell 1 _))
            have hcv := (Src.nil w4 (some ⟨g, at_, none⟩)).convert (P := Tryz.prog) 0 81 5 9 Tryz.underlying81 Tryz.underlying5 Tryz.underlying9
            clear hw4
            go_wp2_with fail
            go_ret2
            exact ⟨rfl, R4.out, O4.out⟩
        · rcases hm with ⟨hm1, hm2⟩ | ⟨hm1, hm2⟩
          all_goals
            go_enter Tryz.func144, Tryz.ntmps144
            go_wp2_with fail
            refine k1.out.mono ?_
            rintro e w1 ⟨rfl, rfl⟩
            go_wp2_with fail
            refine (k2.out _ HR.out).mono ?_
            rintro e w2 ⟨a0, rfl, hs0, hn0, m, rfl⟩
            have HS := hid hs0
            have HN := hid hn0
            clear hs0 hn0
            go_wp2_with fail
            refine (k3.out _ _ (by exact HS.out.heap rfl) HN.out).mono ?_
            rintro e w3 ⟨rfl, rfl⟩
            go_wp2_with fail
            refine (rest_at B p g len at_ zs _ (HR.out.drewN m) (by omega)).mono ?_
            rintro e w2 ⟨rfl, m1, rfl⟩
            go_wp2_with fail
            refine (pass_int p at_ (k + n) _ _ (HR.out.drewN (m + m1)).c1 (HR.out.drewN (m + m1)).f1 (by omega) (by omega)).mono ?_
            rintro e w4 ⟨rfl, hw4⟩
            have R4 := hid (hw4 ▸ (HR.out.drewN (m + m1)).pass (k + n) hkn)
            have O4 := hid (hw4 ▸ (Only.drewN (p := p) (m + m1)).trans (Only.setCell 1 _))
            have hcv := (R4.out.piece (at_ + k) n (by omega)).convert (P := Tryz.prog) (len - at_ - k) 81 5 9 Tryz.underlying81 Tryz.underlying5 Tryz.underlying9
            rw [← List.drop_drop] at hcv
            obtain ⟨X, gX⟩ : ∃ X, X = strOfNums (List.take n (List.drop k (List.drop at_ zs))) := ⟨_, rfl⟩
            rw [← gX] at hcv
            have GX := hid gX
            clear hw4 gX
            go_wp2_with fail
            go_ret2
            rw [← GX.out]
            exact ⟨rfl, R4.out, O4.out⟩
  · have hne : ((e : Int) != 0) = true := by simp; omega
    rw [if_pos he]
    go_enter Tryz.func144, Tryz.ntmps144
    go_wp2_with fail
    refine k1.out.mono ?_
    rintro e w1 ⟨rfl, rfl⟩
    go_wp2_with fail
    refine (k2.out _ HR.out).mono ?_
    rintro e w2 ⟨a0, rfl, hs0, hn0, m, rfl⟩
    have HS := hid hs0
    have HN := hid hn0
    clear hs0 hn0
    go_wp2_with fail
    refine (k3.out _ _ (by exact HS.out.heap rfl) HN.out).mono ?_
    rintro e w3 ⟨rfl, rfl⟩
    go_wp2_with fail
    go_ret2
    exact ⟨rfl, HR.out.drewN m, Only.drewN m⟩

end Go.Proofs.YtbgommpdmnbplaaGreatDoor
