/- What it is that a codec's Write writes; the codecs of numbers, whole numbers and texts. -/
import Derived.Test.YtpbhcmfbcnihiaaGreatBPure
import Derived.Test.YtpbhcmfbcnihiaaGreatChecked
import Derived.Test.YtpbhcmfbcnihiaaGreatEqual
import Derived.Deep.RegionHeld3
import Derived.Deep.RegionLaw
import Derived.WalkSpells
namespace Go.Proofs.YtpbhcmfbcnihiaaGreat
open Go.RowKit Num
set_option linter.unusedVariables false
set_option maxRecDepth 20000

theorem below_hp {B : Nat} {w a b : World} (h : Below B w a) (e1 : b.heap = a.heap) (e2 : b.os = a.os) (e3 : b.tape = a.tape) (e4 : b.output = a.output) : Below B w b :=
  ⟨e2.trans h.os, e3.trans h.tape, e4.trans h.output, by rw [e1]; exact h.size, fun k hk => by rw [e1]; exact h.block k hk⟩

/-- Bytes in a row of one's own (or none, of nil). -/
def Ob (W : World) (v : Value) (xs : List Int) : Prop := W.ownsRow 0 5 1 v xs.length (xs.map (Value.int .u8))

/-- What a codec's Write is: it writes a thing's bytes behind others. -/
def Wr {α : Type} (B : Nat) (wc : World) (At : (Nat → Prop) → World → Nat → Nat → α → Prop) (en : α → List Int) (ok : α → Prop) (K : Nat) (caps : Array Value) : Prop :=
  (∀ (args : Array Value) (w : World), (callFunc K args).run Tryz.prog w = .ok (.enter K args) w) ∧
  ∀ (W : World) (b o : Nat) (x : α) (v : Value) (xs : List Int), Upd (fun k => k < B) wc W → (∀ g, v.ownBlock = some g → wc.heap.size ≤ g) → At (fun k => v.ownBlock ≠ some k) W b o x → ok x → Ob W v xs → xs.length + (en x).length ≤ 1099511627776 →
    Calls Tryz.prog K (#[v, .pointer (some ⟨b, o, none⟩)] ++ caps) W fun e W' => ∃ v', e = .returned v' ∧ Ob W' v' (xs ++ en x) ∧ Upd (fun k => v.ownBlock = some k) W W' ∧ (v'.ownBlock = v.ownBlock ∨ ∀ g, v'.ownBlock = some g → W.heap.size ≤ g)

theorem Upd.atc {F : Nat → Prop} {w w' : World} (u : Upd F w w') {b : Nat} (o : Nat) (hl : b < w.heap.size) (hF : ¬ F b) : w'.cell? ⟨b, o, none⟩ = w.cell? ⟨b, o, none⟩ := World.cell?_of_block (a := ⟨b, o, none⟩) (u.block b hl hF)
theorem Wr.more {α : Type} {B B' : Nat} {wc wc' : World} {At : (Nat → Prop) → World → Nat → Nat → α → Prop} {en : α → List Int} {ok : α → Prop} {K : Nat} {caps : Array Value} (h : Wr B wc At en ok K caps) (hB : B' ≤ B) (hu : Upd (fun k => k < B) wc wc') : Wr B' wc' At en ok K caps :=
  ⟨h.1, fun W b o x v xs h1 h2 => h.2 W b o x v xs (hu.trans h1 (fun _ _ hx => Nat.lt_of_lt_of_le hx hB)) (fun g hg => Nat.le_trans hu.size (h2 g hg))⟩
theorem Wr.imp {α : Type} {B : Nat} {wc : World} {At : (Nat → Prop) → World → Nat → Nat → α → Prop} {en en' : α → List Int} {ok ok' : α → Prop} {K : Nat} {caps : Array Value} (h : Wr B wc At en ok K caps) (hok : ∀ x, ok' x → ok x) (he : ∀ x, en' x = en x) : Wr B wc At en' ok' K caps :=
  ⟨h.1, fun W b o x v xs h1 h2 h3 h4 h5 h6 => by rw [he x] at h6 ⊢; exact h.2 W b o x v xs h1 h2 h3 (hok x h4) h5 h6⟩

theorem run_app {W : World} {v : Value} {xs : List Int} (h : Ob W v xs) (ty : TypeId) (g m c : Nat) (zs : List Int) (hs : Src W (some ⟨g, 0, none⟩) m zs) (hl : xs.length + m ≤ 2199023255552) :
    ∃ v' W', (Builtin.append_ #[23, 23] ty #[v, .slice (some ⟨g, 0, none⟩) m c]).run Tryz.prog W = .ok v' W' ∧ Ob W' v' (xs ++ zs) ∧ Upd (fun k => v.ownBlock = some k) W W' ∧ (v'.ownBlock = v.ownBlock ∨ ∀ x, v'.ownBlock = some x → W.heap.size ≤ x) := by
  obtain ⟨i0, hi, hz0, hz1, hz2⟩ := info_parts Tryz.info5
  obtain ⟨v', w', h1, h2, h3, h4, h5⟩ := run_append_where (P := Tryz.prog) W 23 ty 5 i0 (.int .u8 0) 1 1 Tryz.underlying23 hi hz0 hz1 hz2 rfl (by decide) v xs.length (xs.map (Value.int .u8)) h ⟨g, 0, none⟩ m c (zs.map (Value.int .u8)) (by simp [hs.1]) (fun j u hj => by
      have hjl : j < zs.length := by have := (List.getElem?_eq_some_iff.1 hj).1; simpa using this
      have hsl := hs.1
      obtain ⟨b, o', e, _, hc⟩ := hs.2 (by omega)
      cases e
      rw [Addr.add_lit, hc j (by omega), ← hj]
      simp [List.getD, List.getElem?_eq_getElem hjl]) (ints_oneCell _ _) (by unfold maxLen; omega) (by omega)
  refine ⟨v', w', h1, ?_, (Upd.of_grown h3).mono (fun x _ hx => hx.symm), h5⟩
  unfold Ob
  rw [List.length_append, List.map_append, hs.1]
  exact h2

theorem step_append_is {P : Program} {ops : Array Oper} {o : Oper} {a : Act} {w : World} {K : Act → World → Prop} {Q : Exit → Act → World → Prop} {E : Prop}
    (hg : o.guard = none) (d x : Operand) (dT sT : TypeId) (hop : o.op = Op.call { callee := Callee.builtin Builtin.append, args := #[d, x], argTypes := #[dT, sT] })
    (v u : Value) (hd : a.eval d = v) (hx : a.eval x = u) {v' : Value} {w' : World} (hr : (Builtin.append_ #[dT, sT] o.type #[v, u]).run P w = .ok v' w') (hK : K (a.put o.dst v') w') :
    if Region.wanted o (yielded ops a.tmps) = true then Oper.wp P o a w K Q else E := by
  have hw : Region.wanted o (yielded ops a.tmps) = true := by simp [Region.wanted, hg]
  rw [if_pos hw]
  unfold Oper.wp execOp
  simp only [hop, resolve, invoke, builtin, Sem.run_bind, Sem.run_pure, Result.andThen_ok, List.map_toArray, List.map_cons, List.map_nil, hd, hx, hr]
  exact hK
theorem wpList_append_run {P : Program} {w : World} {ops : Array Oper} {rest : List Oper} {o : Oper} {a : Act} {Q : Exit → Act → World → Prop} (hgd : o.guard = none) (d x : Operand) (dT sT : TypeId)
    (hop : o.op = Op.call { callee := Callee.builtin Builtin.append, args := #[d, x], argTypes := #[dT, sT] }) (v u : Value) (hd : a.eval d = v) (hx : a.eval x = u) {v' : Value} {w' : World} (hr : (Builtin.append_ #[dT, sT] o.type #[v, u]).run P w = .ok v' w')
    (hK : wpList P ops Q rest (a.put o.dst v') w') : wpList P ops Q (o :: rest) a w := by
  refine wpList_plain hgd fun K hK' => ?_
  unfold Oper.wp execOp
  simp only [hop, resolve, invoke, builtin, Sem.run_bind, Sem.run_pure, Result.andThen_ok, List.map_toArray, List.map_cons, List.map_nil, hd, hx, hr]
  exact hK' _ _ hK

theorem put_nil (n : Int) (w : World) (hn : n ≤ 9223372036854775807) :
    Calls Tryz.prog 66 #[.slice none 0 0, .int .i64 n] w fun e w' => ∃ g c, e = .returned (.slice (some ⟨g, 0, none⟩) (enc n.toNat).length c) ∧ Src w' (some ⟨g, 0, none⟩) (enc n.toNat).length (enc n.toNat) ∧ Below w.heap.size w w' := by
  refine (put_any none 0 0 n [] w (Src.nil _ _) (by omega) hn).mono ?_
  rintro e w' ⟨rfl, h, hb⟩
  refine ⟨w.heap.size, 0 + 9, by rw [Nat.zero_add], ?_, hb⟩
  have := Src.own h
  simpa using this
theorem signed_nil (n : Int) (w : World) (h1 : -4611686018427387904 ≤ n) (h2 : n ≤ 4611686018427387903) :
    Calls Tryz.prog 115 #[.slice none 0 0, .int .i64 n] w fun e w' => ∃ g c, e = .returned (.slice (some ⟨g, 0, none⟩) (eS n).length c) ∧ Src w' (some ⟨g, 0, none⟩) (eS n).length (eS n) ∧ Below w.heap.size w w' := by
  refine (signed_any none 0 0 n [] w (Src.nil _ _) (by omega)).mono ?_
  rintro e w' ⟨rfl, h, hb⟩
  have hcl : clip n = n := by unfold clip; omega
  rw [hcl] at h ⊢
  refine ⟨w.heap.size, 0 + 9, by rw [Nat.zero_add]; rfl, ?_, hb⟩
  have := Src.own h
  simpa [eS] using this
theorem text_nil (S : ByteArray) (zs : List Int) (w : World) (hS : str S = zs) (hr : S.size ≤ 1099511627776) :
    Calls Tryz.prog 107 #[.slice none 0 0, .string S] w fun e w' => ∃ g c, e = .returned (.slice (some ⟨g, 0, none⟩) (eT zs).length c) ∧ Src w' (some ⟨g, 0, none⟩) (eT zs).length (eT zs) ∧ Below w.heap.size w w' := by
  refine (text_any none 0 0 S [] w (Src.nil _ _) (by omega)).mono ?_
  rintro e w' ⟨c, rfl, h, hb⟩
  have hl : zs.length = S.size := by rw [← hS]; exact str_len S
  have hL : (eT zs).length = 0 + (enc S.size).length + S.size := by unfold eT; rw [List.length_append, hl]; omega
  refine ⟨w.heap.size, c, by rw [hL], ?_, hb⟩
  have := Src.own h
  rw [hL]
  simpa [eT, hl, hS] using this

/-- A number's bounds. -/
def okI (n : Int) : Prop := -2305843009213693952 ≤ n ∧ n ≤ 2305843009213693952

set_option maxHeartbeats 4000000 in
theorem number_wr (m : Int) (hm : m = 0 ∨ m = 1) (B q : Nat) (wc : World) (hqB : B ≤ q) (hq : wc.cell? ⟨q, 0, none⟩ = some (.int .i64 m)) (hql : q < wc.heap.size) : Wr B wc InAt (eN m) okI 65 #[.pointer (some ⟨q, 0, none⟩)] := by
  refine ⟨fun args w => by kernel_rfl, fun W b o n v xs hW hv hx hok hO hlen => ?_⟩
  show Calls Tryz.prog 65 #[v, .pointer (some ⟨b, o, none⟩), .pointer (some ⟨q, 0, none⟩)] W _
  obtain ⟨hxb, hbl, c0⟩ := hx
  have c1 := (hW.atc 0 hql (by omega)).trans hq
  have hqW : q < W.heap.size := Nat.lt_of_lt_of_le hql hW.size
  have hqv : v.ownBlock ≠ some q := fun h => by have := hv q h; omega
  unfold okI at hok
  have kp := hid (fun wx (hx : Below W.heap.size W wx) => put_nil (n + m) wx (by omega))
  have HO := hid hO
  have HXB := hid hxb
  have HQV := hid hqv
  have hml : (eN m n).length = (enc (n + m).toNat).length := rfl
  rw [hml] at hlen
  have he : eN m n = enc (n + m).toNat := rfl
  rw [he]
  obtain ⟨E, gE⟩ : ∃ E, E = enc (n + m).toNat := ⟨_, rfl⟩
  rw [← gE] at kp hlen ⊢
  clear gE he hml hO hxb hqv hv hq
  have hb1 : -9223372036854775808 ≤ n + m := by omega
  have hb2 : n + m ≤ 9223372036854775807 := by omega
  have hwr : IntKind.i64.wrap (n + m) = n + m := by rw [IntKind.wrap_i64]; omega
  go_enter Tryz.func65, Tryz.ntmps65
  go_wp2_with fail
  go_region_held3 (fun wx => wx.cell? ⟨b, o, none⟩ = some (.int .i64 n) ∧ wx.cell? ⟨q, 0, none⟩ = some (.int .i64 m)) (go_keep) (first
    | (go_at_call 66; refine (kp.out _ (below_hp (Below.refl _ W) (by rfl) (by rfl) (by rfl) (by rfl))).mono ?_; rintro e w2 ⟨g, c, rfl, hs2, hb2⟩; have HB2 : Hid (Below W.heap.size W w2) := hid ((below_hp (Below.refl _ W) (by rfl) (by rfl) (by rfl) (by rfl)).trans hb2); have y0 : w2.cell? ⟨b, o, none⟩ = some (.int .i64 n) := (HB2.out.cell (p := ⟨b, o, none⟩) hbl).trans c0; have y1 : w2.cell? ⟨q, 0, none⟩ = some (.int .i64 m) := (HB2.out.cell (p := ⟨q, 0, none⟩) hqW).trans c1; obtain ⟨v', w3, hr3, hO3, hU3, hF3⟩ := run_app (own_below HO.out HB2.out) 23 g E.length c E hs2 (by omega); have hs23 := HB2.out.size; have z0 : w3.cell? ⟨b, o, none⟩ = some (.int .i64 n) := (World.cell?_of_block (a := ⟨b, o, none⟩) (hU3.block b (by omega) HXB.out)).trans y0; have z1 : w3.cell? ⟨q, 0, none⟩ = some (.int .i64 m) := (World.cell?_of_block (a := ⟨q, 0, none⟩) (hU3.block q (by omega) HQV.out)).trans y1; have HO3 := hid hO3; have HU3 : Hid (Upd (fun k => v.ownBlock = some k) W w3) := hid ((Upd.of_below HB2.out).trans hU3 (fun _ _ h => h)); have HF3 : Hid (v'.ownBlock = v.ownBlock ∨ ∀ x, v'.ownBlock = some x → W.heap.size ≤ x) := hid (hF3.imp id (fun h x hx => Nat.le_trans hs23 (h x hx))); clear hb2 hs2 hO3 hU3 hF3 hs23)
    | (refine step_append_is rfl _ _ 23 23 rfl _ _ (by simp [Act.eval]) (by simp [Act.eval]) hr3 ?_))
  go_wp2_with fail
  go_ret
  exact ⟨_, rfl, HO3.out, HU3.out, HF3.out⟩

set_option maxHeartbeats 4000000 in
theorem whole_wr (B : Nat) (wc : World) : Wr B wc InAt eS okI 114 #[] := by
  refine ⟨fun args w => by kernel_rfl, fun W b o n v xs hW hv hx hok hO hlen => ?_⟩
  show Calls Tryz.prog 114 #[v, .pointer (some ⟨b, o, none⟩)] W _
  obtain ⟨hxb, hbl, c0⟩ := hx
  unfold okI at hok
  have kp := hid (fun wx => signed_nil n wx (by omega) (by omega))
  have HO := hid hO
  obtain ⟨E, gE⟩ : ∃ E, E = eS n := ⟨_, rfl⟩
  rw [← gE] at kp hlen ⊢
  clear gE hO hv
  go_enter Tryz.func114, Tryz.ntmps114
  go_wp2_with fail
  refine (kp.out _).mono ?_
  rintro e w2 ⟨g, c, rfl, hs2, hb2⟩
  obtain ⟨v', w3, hr3, hO3, hU3, hF3⟩ := run_app (own_below HO.out hb2) 23 g E.length c E hs2 (by omega)
  have HO3 := hid hO3
  have HU3 : Hid (Upd (fun k => v.ownBlock = some k) W w3) := hid ((Upd.of_below hb2).trans hU3 (fun _ _ h => h))
  have hs23 := hb2.size
  have HF3 : Hid (v'.ownBlock = v.ownBlock ∨ ∀ x, v'.ownBlock = some x → W.heap.size ≤ x) := hid (hF3.imp id (fun h x hx => Nat.le_trans hs23 (h x hx)))
  clear hb2 hs2 hO3 hU3 hF3 hs23
  go_wp2_with (at_builtin; go_must (refine wpList_append_run rfl _ _ 23 23 rfl _ _ rfl rfl hr3 ?_))
  go_wp2_with fail
  go_ret
  exact ⟨_, rfl, HO3.out, HU3.out, HF3.out⟩

theorem str_of {zs : List Int} (h : Bytes zs) : str (strOfNums zs) = zs := by
  unfold str strOfNums
  simp only [List.map_map]
  conv => rhs; rw [← List.map_id zs]
  apply List.map_congr_left
  intro z hz
  have := h z hz
  simp only [Function.comp, id]
  rw [UInt8.toNat_ofNat']
  omega

/-- What a text's bytes may be. -/
def okT (zs : List Int) : Prop := Bytes zs ∧ zs.length ≤ 1048576

set_option maxHeartbeats 4000000 in
theorem text_wr (B : Nat) (wc : World) : Wr B wc BsAt eT okT 106 #[] := by
  refine ⟨fun args w => by kernel_rfl, fun W b o zs v xs hW hv hx hok hO hlen => ?_⟩
  show Calls Tryz.prog 106 #[v, .pointer (some ⟨b, o, none⟩)] W _
  obtain ⟨hxb, hbl, a, n, c, c0, hs, _, hc1, hc2⟩ := hx
  have ec := hs.convert (P := Tryz.prog) c 23 5 9 Tryz.underlying23 Tryz.underlying5 Tryz.underlying9
  have hsz : (strOfNums zs).size = zs.length := by rw [← str_len, str_of hok.1]
  have kp := hid (fun wx => text_nil (strOfNums zs) zs wx (str_of hok.1) (by rw [hsz]; have := hok.2; omega))
  have HO := hid hO
  obtain ⟨E, gE⟩ : ∃ E, E = eT zs := ⟨_, rfl⟩
  rw [← gE] at kp hlen ⊢
  generalize strOfNums zs = S at ec kp
  clear gE hO hv hsz hok hs
  go_enter Tryz.func106, Tryz.ntmps106
  go_wp2_with fail
  refine (kp.out _).mono ?_
  rintro e w2 ⟨g, c, rfl, hs2, hb2⟩
  obtain ⟨v', w3, hr3, hO3, hU3, hF3⟩ := run_app (own_below HO.out hb2) 23 g E.length c E hs2 (by omega)
  have HO3 := hid hO3
  have HU3 : Hid (Upd (fun k => v.ownBlock = some k) W w3) := hid ((Upd.of_below hb2).trans hU3 (fun _ _ h => h))
  have hs23 := hb2.size
  have HF3 : Hid (v'.ownBlock = v.ownBlock ∨ ∀ x, v'.ownBlock = some x → W.heap.size ≤ x) := hid (hF3.imp id (fun h x hx => Nat.le_trans hs23 (h x hx)))
  clear hb2 hs2 hO3 hU3 hF3 hs23
  go_wp2_with (at_builtin; go_must (refine wpList_append_run rfl _ _ 23 23 rfl _ _ rfl rfl hr3 ?_))
  go_wp2_with fail
  go_ret
  exact ⟨_, rfl, HO3.out, HU3.out, HF3.out⟩

end Go.Proofs.YtpbhcmfbcnihiaaGreat
