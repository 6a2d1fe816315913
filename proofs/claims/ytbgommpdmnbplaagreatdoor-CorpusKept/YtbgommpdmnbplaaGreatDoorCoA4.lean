/- The corpus and what it stands on, merged. -/
import Derived.Test.YtbgommpdmnbplaaGreatDoorCoA2
import Derived.WalkSpells
import Derived.Test.YtbgommpdmnbplaaGreatDoorCoA3
import Derived.Lib.ConvBytes

/- The disk that a journal writes to; behind, wipe, writeHead; what a journal on an image is; records. -/
/- A disk that a journal writes to: what is read, what was written, in one epoch at most; the journal's read, write and flush. -/
namespace Go.Proofs.YtbgommpdmnbplaaGreatDoor
open Go.RowKit Num Jr
set_option linter.unusedVariables false
set_option maxRecDepth 20000

/-- What epochs of a disk are. -/
def Eok (n : Nat) (E : List (List (Nat × List Int))) : Prop := ∀ e ∈ E, (e.map (·.1)).Pairwise (· < ·) ∧ ∀ s ∈ e, s.1 < n ∧ s.2.length = 128

theorem Ep.ok.ab {e : Ep} {w : World} {n : Nat} (h : e.ok w n) : (e.ab.map (·.1)).Pairwise (· < ·) ∧ ∀ s ∈ e.ab, s.1 < n ∧ s.2.length = 128 := by
  have hm : e.ab.map (·.1) = e.es.map Snt.sec := by simp [Ep.ab, Snt.ab]
  refine ⟨hm ▸ h.rise.1, fun s hs => ?_⟩
  obtain ⟨t, ht, rfl⟩ := List.mem_map.1 hs
  exact ⟨h.rise.2 t.sec (List.mem_map.2 ⟨t, ht, rfl⟩), (h.es t ht).1⟩

theorem Dk.ok.eok {d : Dk} {w : World} {p : Nat} (h : d.ok w p) : Eok d.n d.ab := by
  intro e he
  obtain ⟨t, ht, rfl⟩ := List.mem_map.1 he
  exact (h.eps t ht).ab

theorem Dk.ok.dlen {d : Dk} {w : World} {p : Nat} (h : d.ok w p) : d.dur.length = d.n * 128 ∧ d.wr.length = d.n * 128 :=
  ⟨by have := h.dur.1; simpa using this, by have := h.wr.1; simpa using this⟩

theorem overE_len2 (es : List (Nat × List Int)) (hs : ∀ s ∈ es, s.2.length ≤ 128) (j : Nat) : ∀ f : Nat → List Int, (f j).length = 128 → (overE f es j).length = 128 := by
  induction es with
  | nil => intro f hf; exact hf
  | cons s es ih =>
    intro f hf
    rw [overE_cons]
    refine ih (fun u hu => hs u (List.mem_cons_of_mem _ hu)) _ ?_
    have := hs s (List.mem_cons_self ..)
    split
    · simp [hf]; omega
    · exact hf

theorem over_len2 (E : List (List (Nat × List Int))) (hs : ∀ e ∈ E, ∀ s ∈ e, s.2.length ≤ 128) (j : Nat) : ∀ f : Nat → List Int, (f j).length = 128 → (over f E j).length = 128 := by
  induction E with
  | nil => intro f hf; exact hf
  | cons e E ih =>
    intro f hf
    show (over (overE f e) E j).length = 128
    exact ih (fun u hu => hs u (List.mem_cons_of_mem _ hu)) _ (overE_len2 e (hs e (List.mem_cons_self ..)) j f hf)

theorem landAll_len2 (N : Nat) (eps : List (List (Nat × List Int))) : ∀ L : List Int, L.length = N * 128 → (∀ e ∈ eps, ∀ s ∈ e, s.1 < N ∧ s.2.length ≤ 128) → (landAll L eps).length = N * 128 := by
  induction eps with
  | nil => intro L h _; exact h
  | cons e eps ih => intro L h hs; exact ih _ (landL_len N e L h (hs e (by simp))) (fun e' he' => hs e' (by simp [he']))

theorem sec_landAll2 (N : Nat) (eps : List (List (Nat × List Int))) : ∀ L : List Int, L.length = N * 128 → (∀ e ∈ eps, ∀ s ∈ e, s.1 < N ∧ s.2.length ≤ 128) → ∀ j, sec (landAll L eps) j = over (sec L) eps j := by
  induction eps with
  | nil => intro L _ _ j; rfl
  | cons e eps ih =>
    intro L h hs j
    show sec (landAll (landL L e) eps) j = over (overE (sec L) e) eps j
    rw [ih _ (landL_len N e L h (hs e (by simp))) (fun e' he' => hs e' (by simp [he'])) j]
    congr 1
    funext k
    exact sec_landL N e L h (hs e (by simp)) k

/-- A write, behind all the epochs. -/
theorem over_writeE (f : Nat → List Int) (E : List (List (Nat × List Int))) (n : Nat) (hE : Eok n E) (hf : ∀ j, j < n → (f j).length = 128) (opn : Bool) (ho : opn = true → E ≠ []) (i : Nat) (bs : List Int) (hb : bs.length = 128) (j : Nat) (hj : j < n) :
    over f (writeE E opn i bs) j = if j = i then bs else over f E j := by
  have hl : ∀ F : List (List (Nat × List Int)), (∀ e ∈ F, e ∈ E) → ∀ k, k < n → (over f F k).length = 128 := fun F hF k hk => over_len2 F (fun e he s hs => by have := ((hE e (hF e he)).2 s hs).2; omega) k f (hf k hk)
  cases opn
  · have e1 : writeE E false i bs = E ++ [[(i, bs)]] := rfl
    rw [e1, over_append]
    show overE (over f E) [(i, bs)] j = _
    rw [overE_cons]
    show (if j = i then bs ++ (over f E j).drop bs.length else over f E j) = _
    split
    · rw [hb, List.drop_of_length_le (by rw [hl E (fun _ h => h) j hj]; exact Nat.le_refl _), List.append_nil]
    · rfl
  · have hne := ho rfl
    obtain ⟨init, e, hie⟩ : ∃ init e, E = init ++ [e] := ⟨E.dropLast, E.getLast hne, (List.dropLast_concat_getLast hne).symm⟩
    have e1 : writeE E true i bs = init ++ [putE i bs e] := by rw [hie]; simp [writeE]
    have hem : e ∈ E := by rw [hie]; simp
    rw [e1, over_append]
    show overE (over f init) (putE i bs e) j = _
    rw [overE_put i bs hb n e (hE e hem).1 (fun s hs => ((hE e hem).2 s hs).2) _ (fun k hk => hl init (fun u hu => by rw [hie]; simp [hu]) k hk) j hj, hie, over_append]
    rfl


/-- One sector turned. -/
def upS (S : Nat → List Int) (i : Nat) (bs : List Int) : Nat → List Int := fun j => if j = i then bs else S j

/-- A disk of n sectors that hold S, one epoch at most under way. -/
structure Jd (d : Dk) (w : World) (p n : Nat) (S : Nat → List Int) : Prop where
  ok : d.ok w p
  dn : d.n = n
  wr : ∀ i, i < n → sec d.wr i = S i
  ov : ∀ i, i < n → over (sec d.dur) d.ab i = S i
  byt : ∀ i, Bytes (S i)
  all : ∀ i, (S i).length = 128
  few : d.eps.length ≤ 1
  opn : d.opn = true ∨ d.eps = []

/-- Nothing is under way. -/
def Dk.rest (d : Dk) : Prop := d.eps = [] ∧ d.opn = false

theorem Jd.len {d : Dk} {w : World} {p n i : Nat} {S : Nat → List Int} (h : Jd d w p n S) (hi : i < n) : (S i).length = 128 := by
  rw [← h.wr i hi]; exact length_sec _ d.n i h.ok.dlen.2 (by rw [h.dn]; exact hi)

theorem Jd.upd {d : Dk} {w w' : World} {p n : Nat} {S : Nat → List Int} {F : Nat → Prop} (h : Jd d w p n S) (u : Upd F w w') (hF : ∀ k ∈ d.foot p, ¬ F k) : Jd d w' p n S :=
  ⟨h.ok.upd u hF, h.dn, h.wr, h.ov, h.byt, h.all, h.few, h.opn⟩

theorem Jd.below {d : Dk} {w w' : World} {p n : Nat} {S : Nat → List Int} (h : Jd d w p n S) (u : Below w.heap.size w w') : Jd d w' p n S :=
  ⟨h.ok.frame fun k hk => u.block k (h.ok.lt k hk), h.dn, h.wr, h.ov, h.byt, h.all, h.few, h.opn⟩

theorem Jd.wrote {d d' : Dk} {w w' : World} {p n i : Nat} {S : Nat → List Int} {bs : List Int} (h : Jd d w p n S) (hi : i < n) (hb : bs.length = 128) (hz : Bytes bs) (hok : d'.ok w' p) (hn : d'.n = d.n) (hd : d'.dur = d.dur) (hw : d'.wr = splice d.wr (i * 128) bs)
    (ha : d'.ab = writeE d.ab d.opn i bs) (ho : d'.opn = true) : Jd d' w' p n (upS S i bs) := by
  have hfl : ∀ j, j < d.n → (sec d.dur j).length = 128 := fun j hj => length_sec _ d.n j h.ok.dlen.1 hj
  refine ⟨hok, by rw [hn, h.dn], fun j hj => ?_, fun j hj => ?_, fun j => ?_, fun j => ?_, ?_, .inl ho⟩
  · rw [hw, sec_splice d.wr bs d.n i j h.ok.dlen.2 (by omega) (by rw [h.dn]; exact hi)]
    unfold upS
    by_cases hji : j = i
    · rw [if_pos hji, if_pos hji, hb, List.drop_of_length_le (by rw [length_sec _ d.n _ h.ok.dlen.2 (by rw [h.dn]; exact hi)]; exact Nat.le_refl _), List.append_nil]
    · rw [if_neg hji, if_neg hji, h.wr j hj]
  · rw [ha, hd, over_writeE (sec d.dur) d.ab d.n h.ok.eok hfl d.opn (fun e => by have := h.ok.last e; simpa [Dk.ab] using this) i bs hb j (by rw [h.dn]; exact hj)]
    unfold upS
    by_cases hji : j = i
    · rw [if_pos hji, if_pos hji]
    · rw [if_neg hji, if_neg hji, h.ov j hj]
  · unfold upS
    by_cases hji : j = i
    · rw [if_pos hji]; exact hz
    · rw [if_neg hji]; exact h.byt j
  · unfold upS
    by_cases hji : j = i
    · rw [if_pos hji]; exact hb
    · rw [if_neg hji]; exact h.all j
  · have e1 : d'.eps.length = d'.ab.length := by simp [Dk.ab]
    have e2 : d.eps.length = d.ab.length := by simp [Dk.ab]
    rw [e1, ha]
    have hf := h.few
    rw [e2] at hf
    cases hop : d.opn
    · rcases h.opn with h1 | h1
      · rw [hop] at h1; cases h1
      · have : d.ab = [] := by simp [Dk.ab, h1]
        rw [this]; simp [writeE]
    · have hne : d.ab ≠ [] := by have := h.ok.last hop; simpa [Dk.ab] using this
      obtain ⟨init, e, hie⟩ : ∃ init e, d.ab = init ++ [e] := ⟨d.ab.dropLast, d.ab.getLast hne, (List.dropLast_concat_getLast hne).symm⟩
      rw [hie] at hf ⊢
      simpa [writeE] using hf

theorem Jd.settled {d : Dk} {w w' : World} {p n : Nat} {S : Nat → List Int} (h : Jd d w p n S) (hs : Settled w d p (landAll d.dur d.ab) w') : ∃ d', Jd d' w' p n S ∧ d'.rest ∧ Upd (· ∈ d.foot p) w w' ∧ Grew w (d.foot p) (d'.foot p) := by
  have hsec : ∀ j, j < n → sec (landAll d.dur d.ab) j = S j := fun j hj => by
    rw [sec_landAll2 d.n d.ab d.dur h.ok.dlen.1 (fun e he s hs => ⟨((h.ok.eok e he).2 s hs).1, by have := ((h.ok.eok e he).2 s hs).2; omega⟩) j, h.ov j hj]
  refine ⟨_, ⟨hs.1, h.dn, hsec, hsec, h.byt, h.all, by simp, .inr rfl⟩, ⟨rfl, rfl⟩, hs.2, fun x hx => .inl ?_⟩
  simp [Dk.foot, vb, Value.ownBlock] at hx ⊢
  rcases hx with hx | hx | hx <;> simp [hx]

set_option maxHeartbeats 1000000 in
theorem jread_any (d : Dk) (p n i : Nat) (S : Nat → List Int) (w : World) (h : Jd d w p n S) (hi : i < n) :
    Calls Tryz.prog 89 #[.agg #[.pointer (some ⟨p, 0, none⟩)], .int .i64 i] w fun e w' => ∃ g c, e = .returned (.tuple #[.slice (some ⟨g, 0, none⟩) 128 c, .nilIface]) ∧
      w'.ownsRow w.heap.size 5 1 (.slice (some ⟨g, 0, none⟩) 128 c) 128 ((S i).map (Value.int .u8)) ∧ Below w.heap.size w w' := by
  obtain ⟨W0, g0⟩ : ∃ W0, W0 = w.alloc (.cells #[.pointer (some ⟨p, 0, none⟩)] 134) := ⟨_, rfl⟩
  have hb0 : Below w.heap.size w W0 := by rw [g0]; exact (Below.refl _ _).alloc (Nat.le_refl _) _
  have k1 := hid (dread d p i W0 (h.below hb0).ok (by rw [h.dn]; exact hi))
  rw [h.wr i hi] at k1
  have G0 := hid g0
  have kw := hid (fun (s : Value) (wx : World) => wrap_ok s wx)
  have hsz : W0.heap.size = w.heap.size + 1 := by rw [g0]; simp
  have HSZ := hid hsz
  clear h hi g0 hsz
  go_enter Tryz.func89, Tryz.ntmps89
  go_wp2_with (first | (go_at_call 131; rw [← G0.out]; refine k1.out.mono ?_; rintro r w1 ⟨g, c, rfl, ho1, hb1⟩; have HO := hid ho1; have HB := hid hb1; clear ho1 hb1) | (go_at_call 132; refine (kw.out _ _).mono ?_; rintro r w2 ⟨rfl, h⟩; subst w2))
  go_ret2
  exact ⟨g, c, rfl, own_base HO.out (by have := HSZ.out; omega), hb0.trans (HB.out.mono (by have := HSZ.out; omega))⟩

set_option maxHeartbeats 1000000 in
theorem jwrite_any (d : Dk) (p n i : Nat) (S : Nat → List Int) (ab : Addr) (cb : Nat) (bs : List Int) (w : World) (h : Jd d w p n S) (hi : i < n) (hs : Src w (some ab) 128 bs) (hz : Bytes bs) (hab : ab.block ∉ d.foot p) :
    Calls Tryz.prog 191 #[.agg #[.pointer (some ⟨p, 0, none⟩)], .int .i64 i, .slice (some ab) 128 cb] w fun e w' => e = .returned .nilIface ∧ ∃ d', Jd d' w' p n (upS S i bs) ∧ Upd (· ∈ d.foot p) w w' ∧ Grew w (d.foot p) (d'.foot p) := by
  obtain ⟨W0, g0⟩ : ∃ W0, W0 = w.alloc (.cells #[.pointer (some ⟨p, 0, none⟩)] 134) := ⟨_, rfl⟩
  have hb0 : Below w.heap.size w W0 := by rw [g0]; exact (Below.refl _ _).alloc (Nat.le_refl _) _
  have h0 := h.below hb0
  have k1 := hid (write_any d p i ab cb bs W0 h0.ok (by rw [h.dn]; exact hi) (hs.below hb0) hab (by have := h.few; omega))
  have hl : bs.length = 128 := hs.1
  have HJ := hid h0
  have G0 := hid g0
  have kw := hid (fun (s : Value) (wx : World) => wrap_ok s wx)
  clear h h0 hs hab g0
  go_enter Tryz.func191, Tryz.ntmps191
  go_wp2_with (first | (go_at_call 227; rw [← G0.out]; refine k1.out.mono ?_; rintro r w1 ⟨rfl, d', hk, hn, _, hd, hw, ha, ho, hu, hg⟩; have HK : Hid (Jd d' w1 p n (upS S i bs)) := hid (HJ.out.wrote hi hl hz hk hn hd hw ha ho); have HU := hid hu; have HG := hid hg; clear hk hn hd hw ha ho hu hg) | (go_at_call 132; refine (kw.out _ _).mono ?_; rintro r w2 ⟨rfl, h⟩; subst w2))
  go_ret
  exact ⟨rfl, d', HK.out, (Upd.of_below (F := (· ∈ d.foot p)) hb0).trans HU.out (fun _ _ h => h), fun x hx => by
    rcases HG.out x hx with h | h
    · exact .inl h
    · exact .inr (Nat.le_trans hb0.size h)⟩

set_option maxHeartbeats 1000000 in
theorem jflush_any (d : Dk) (p n : Nat) (S : Nat → List Int) (w : World) (h : Jd d w p n S) :
    Calls Tryz.prog 192 #[.agg #[.pointer (some ⟨p, 0, none⟩)]] w fun e w' => e = .returned .nilIface ∧ ∃ d', Jd d' w' p n S ∧ d'.rest ∧ Upd (· ∈ d.foot p) w w' ∧ Grew w (d.foot p) (d'.foot p) := by
  obtain ⟨W0, g0⟩ : ∃ W0, W0 = w.alloc (.cells #[.pointer (some ⟨p, 0, none⟩)] 134) := ⟨_, rfl⟩
  have hb0 : Below w.heap.size w W0 := by rw [g0]; exact (Below.refl _ _).alloc (Nat.le_refl _) _
  have h0 := h.below hb0
  have k1 := hid (flush_any d p W0 h0.ok)
  have HJ := hid h0
  have G0 := hid g0
  have kw := hid (fun (s : Value) (wx : World) => wrap_ok s wx)
  clear h h0 g0
  go_enter Tryz.func192, Tryz.ntmps192
  go_wp2_with (first | (go_at_call 228; rw [← G0.out]; refine k1.out.mono ?_; rintro r w1 ⟨rfl, hs⟩; have HK := hid (HJ.out.settled hs); clear hs) | (go_at_call 132; refine (kw.out _ _).mono ?_; rintro r w2 ⟨rfl, h⟩; subst w2))
  go_ret
  obtain ⟨d', h1, h2, h3, h4⟩ := HK.out
  exact ⟨rfl, d', h1, h2, (Upd.of_below (F := (· ∈ d.foot p)) hb0).trans h3 (fun _ _ h => h), fun x hx => by
    rcases h4 x hx with h | h
    · exact .inl h
    · exact .inr (Nat.le_trans hb0.size h)⟩

end Go.Proofs.YtbgommpdmnbplaaGreatDoor

/- What journal's behind does. -/
namespace Go.Proofs.YtbgommpdmnbplaaGreatDoor
open Go.RowKit Num Jr
set_option linter.unusedVariables false
set_option maxRecDepth 20000

theorem Tryz.jinfo3 : (Tryz.prog.info? 3).map (fun i => (i.zero, i.size, i.bytes)) = some (some (.int .i64 0), 1, 8) := by kernel_rfl

/-- Numbers, as cells. -/
def nums (l : List Nat) : List Value := l.map fun k : Nat => Value.int .i64 (k : Int)
theorem nums_snoc (l : List Nat) (k : Nat) : nums (l ++ [k]) = nums l ++ [.int .i64 (k : Int)] := by simp [nums]
theorem nums_len (l : List Nat) : (nums l).length = l.length := by simp [nums]

set_option maxHeartbeats 1000000 in
theorem behind_any (gen first size place : Nat) (w : World) (hs : size ≤ 2048) (hf : first ≤ 4096) (hp : place ≤ 2048) :
    Calls Tryz.prog 186 #[.agg #[.int .i64 gen, .int .i64 first, .int .i64 size], .int .i64 place] w fun e w' => ∃ v, e = .returned v ∧
      w'.ownsRow w.heap.size 3 1 v (size - place) (nums (List.range' (first + place) (size - place))) ∧ Below w.heap.size w w' := by
  obtain ⟨i0, hi0, hz0, hz1, hz2⟩ := info_parts Tryz.jinfo3
  obtain ⟨W0, g0⟩ : ∃ W0, W0 = w.alloc (.cells #[.int .i64 gen, .int .i64 first, .int .i64 size] 136) := ⟨_, rfl⟩
  have hb0 : Below w.heap.size w W0 := by rw [g0]; exact (Below.refl _ _).alloc (Nat.le_refl _) _
  have hsz : W0.heap.size = w.heap.size + 1 := by rw [g0]; simp
  have hbox : W0.heap[w.heap.size]? = some (.cells #[.int .i64 gen, .int .i64 first, .int .i64 size] 136 (0, 0)) := by rw [g0]; exact heap_alloc_new _ _
  obtain ⟨q, gq⟩ : ∃ q, q = w.heap.size := ⟨_, rfl⟩
  rw [← gq] at hbox
  have HBX : Hid (∀ wx, Below W0.heap.size W0 wx → wx.heap[q]? = some (.cells #[.int .i64 gen, .int .i64 first, .int .i64 size] 136 (0, 0))) := hid fun wx hb => by rw [hb.block q (by omega)]; exact hbox
  have HSZ := hid hsz
  have G0 := hid g0
  have GQ := hid gq
  clear g0 hbox hsz gq
  go_enter Tryz.func186, Tryz.ntmps186
  go_wp2_with fail
  rw [← G0.out, ← GQ.out]
  go_loopw [1, 5] (fun k v wr => ∃ i : Nat, k = .int .i64 ((place + i : Nat) : Int) ∧ (i = 0 ∨ place + i ≤ size) ∧ Hid (wr.ownsRow W0.heap.size 3 1 v i (nums (List.range' (first + place) i))) ∧ Hid (Below W0.heap.size W0 wr)) (fun k _ _ => size - (intOf k).toNat)
  case atStart => exact ⟨0, rfl, .inl rfl, hid (by simpa [nums] using World.ownsRow_nil _ _ _ _), hid (Below.refl _ _)⟩
  case round =>
    obtain ⟨i, rfl, hi, HO, HB⟩ := hrel
    obtain ⟨v, gv⟩ : ∃ v, v = u5 := ⟨_, rfl⟩
    rw [← gv] at HO ⊢
    clear gv
    have hbx := HBX.out wr HB.out
    have c1 : wr.cell? ⟨q, 1, none⟩ = some (.int .i64 first) := heap_cells hbx 1 _ rfl
    have c2 : wr.cell? ⟨q, 2, none⟩ = some (.int .i64 size) := heap_cells hbx 2 _ rfl
    obtain ⟨m, gm⟩ : ∃ m, m = place + i := ⟨_, rfl⟩
    rw [← gm]
    have GM := hid gm
    clear hbx
    by_cases h : m < size
    · have hm : m ≤ 2048 := by omega
      have hil : i ≤ 2048 := by omega
      have HR : Hid (nums (List.range' (first + place) i) ++ [.int .i64 ((first : Int) + (m : Int))] = nums (List.range' (first + place) (i + 1))) := hid (by
        rw [List.range'_concat, nums_snoc]; congr 3; have := GM.out; omega)
      have HI := hid hi
      clear gm hi
      have hws : W0.heap.size ≤ wr.heap.size := HB.out.size
      go_wp2_with (at_builtin; go_must (refine wpList_append_own _ rfl _ _ 35 rfl W0.heap.size 3 i0 _ 1 8 Tryz.underlying35 hi0 hz0 hz1 hz2 rfl (by decide) v i _ rfl (HO.out.alloc _) ⟨_, 0, none⟩ 1 1 [.int .i64 ((first : Int) + (m : Int))] rfl rfl (cell_one_new _ _ _) (by simp [Value.oneCell']) (by unfold maxLen; omega) (by omega) (by simp; omega) ?_))
      intro v' w2 hO2 hU hN
      rw [HR.out] at hO2
      have hB2 : Below W0.heap.size W0 w2 := (HB.out.trans (((Below.refl wr.heap.size wr).alloc (Nat.le_refl _) _).mono hws)).trans ((Upd.of_grown hU).below (by simp; omega) (fun x hx => (HO.out.lt x hx.symm).1))
      have HO2 := hid hO2
      have HB2 := hid hB2
      clear hO2 hB2 hU hN c1 c2 hws
      go_wp2_with fail
      go_roundw
      case rel => exact ⟨i + 1, by have := GM.out; subst this; go_num, .inr (by have := GM.out; omega), HO2, HB2⟩
      case measure => simp [intOf]; have := GM.out; omega
    · have h' : ¬ (m : Int) < (size : Int) := by omega
      clear gm
      go_wp2_with fail
      go_ret
      have e : i = size - place := by have := GM.out; omega
      subst e
      exact ⟨_, rfl, own_base HO.out (by have := HSZ.out; omega), hb0.trans (HB.out.mono (by have := HSZ.out; omega))⟩

end Go.Proofs.YtbgommpdmnbplaaGreatDoor

/- What journal's wipe and writeHead do. -/
namespace Go.Proofs.YtbgommpdmnbplaaGreatDoor
open Go.RowKit Num Jr
set_option linter.unusedVariables false
set_option maxRecDepth 20000

/-- A step of a disk: what it holds then, what turned, what is new. -/
structure Jstep (d : Dk) (w : World) (d' : Dk) (w' : World) (p n : Nat) (S' : Nat → List Int) : Prop where
  jd : Jd d' w' p n S'
  upd : Upd (· ∈ d.foot p) w w'
  grew : Grew w (d.foot p) (d'.foot p)

theorem Jstep.refl {d : Dk} {w : World} {p n : Nat} {S : Nat → List Int} (h : Jd d w p n S) : Jstep d w d w p n S := ⟨h, Upd.refl _ _, Grew.refl _ _⟩
theorem Jstep.trans {d d1 d2 : Dk} {w w1 w2 : World} {p n : Nat} {S1 S2 : Nat → List Int} (h : Jstep d w d1 w1 p n S1) (k : Jstep d1 w1 d2 w2 p n S2) : Jstep d w d2 w2 p n S2 :=
  ⟨k.jd, h.upd.comp k.upd h.grew, h.grew.comp h.upd.size k.grew⟩
theorem Jstep.below {d d1 : Dk} {w w1 w2 : World} {p n : Nat} {S1 : Nat → List Int} (h : Jstep d w d1 w1 p n S1) (k : Below w1.heap.size w1 w2) : Jstep d w d1 w2 p n S1 :=
  ⟨h.jd.below k, h.upd.trans (Upd.of_below (F := fun _ => False) k) (fun _ _ h => h.elim), h.grew⟩
theorem Jstep.front {d d1 : Dk} {w w0 w1 : World} {p n : Nat} {S1 : Nat → List Int} (hb : Below w.heap.size w w0) (h : Jstep d w0 d1 w1 p n S1) : Jstep d w d1 w1 p n S1 :=
  ⟨h.jd, (Upd.of_below (F := (· ∈ d.foot p)) hb).trans h.upd (fun _ _ h => h), fun x hx => by
    rcases h.grew x hx with h | h
    · exact .inl h
    · exact .inr (Nat.le_trans hb.size h)⟩
/-- What lay there, outside the disk, lies there still. -/
theorem Jstep.heap {d d1 : Dk} {w w1 : World} {p n k : Nat} {S1 : Nat → List Int} (h : Jstep d w d1 w1 p n S1) (hk : k < w.heap.size) (hn : k ∉ d.foot p) : w1.heap[k]? = w.heap[k]? := h.upd.block k hk hn
theorem Jstep.out {d d1 : Dk} {w w1 : World} {p n k : Nat} {S1 : Nat → List Int} (h : Jstep d w d1 w1 p n S1) (hk : k < w.heap.size) (hn : k ∉ d.foot p) : k ∉ d1.foot p := fun hx => by
  rcases h.grew k hx with h | h
  · exact hn h
  · omega
theorem Jstep.own {d d1 : Dk} {w w1 : World} {p n : Nat} {S1 : Nat → List Int} (h : Jstep d w d1 w1 p n S1) {B e size m : Nat} {v : Value} {xs : List Value} (ho : w.ownsRow B e size v m xs) (hn : ∀ k, v.ownBlock = some k → k ∉ d.foot p) : w1.ownsRow B e size v m xs := h.upd.own ho hn
theorem Jstep.src {d d1 : Dk} {w w1 : World} {p n : Nat} {S1 : Nat → List Int} (h : Jstep d w d1 w1 p n S1) {a : Option Addr} {m : Nat} {zs : List Int} (hs : Src w a m zs) (hn : ∀ b o, a = some ⟨b, o, none⟩ → b ∉ d.foot p) : Src w1 a m zs := h.upd.src hs hn

theorem jwrite_step (d : Dk) (p n i : Nat) (S : Nat → List Int) (ab : Addr) (cb : Nat) (bs : List Int) (w : World) (h : Jd d w p n S) (hi : i < n) (hs : Src w (some ab) 128 bs) (hz : Bytes bs) (hab : ab.block ∉ d.foot p) :
    Calls Tryz.prog 191 #[.agg #[.pointer (some ⟨p, 0, none⟩)], .int .i64 i, .slice (some ab) 128 cb] w fun e w' => e = .returned .nilIface ∧ ∃ d', Jstep d w d' w' p n (upS S i bs) :=
  (jwrite_any d p n i S ab cb bs w h hi hs hz hab).mono fun e w' ⟨h1, d', h2, h3, h4⟩ => ⟨h1, d', h2, h3, h4⟩
theorem jflush_step (d : Dk) (p n : Nat) (S : Nat → List Int) (w : World) (h : Jd d w p n S) :
    Calls Tryz.prog 192 #[.agg #[.pointer (some ⟨p, 0, none⟩)]] w fun e w' => e = .returned .nilIface ∧ ∃ d', Jstep d w d' w' p n S ∧ d'.rest :=
  (jflush_any d p n S w h).mono fun e w' ⟨h1, d', h2, h3, h4, h5⟩ => ⟨h1, d', ⟨h2, h4, h5⟩, h3⟩

def zero128 : List Int := List.replicate 128 0
/-- Some sectors wiped. -/
def wipeS (S : Nat → List Int) (l : List Nat) : Nat → List Int := fun j => if j ∈ l then zero128 else S j
theorem wipeS_nil (S : Nat → List Int) : wipeS S [] = S := by funext j; simp [wipeS]
theorem wipeS_put (S : Nat → List Int) (l : List Nat) (i : Nat) : upS (wipeS S l) i zero128 = wipeS S (l ++ [i]) := by
  funext j
  unfold upS wipeS
  by_cases h : j = i <;> by_cases k : j ∈ l <;> simp [h, k]
theorem wipeS_same (S : Nat → List Int) (l : List Nat) (i : Nat) (h : wipeS S l i = zero128) : wipeS S l = wipeS S (l ++ [i]) := by
  rw [← wipeS_put]
  funext j
  unfold upS
  by_cases hj : j = i
  · rw [if_pos hj, hj, h]
  · rw [if_neg hj]
theorem bytes_zero128 : Bytes zero128 := bytes_rep 128

set_option maxHeartbeats 2000000 in
theorem wipe_any (d : Dk) (p n : Nat) (S : Nat → List Int) (v : Value) (l : List Nat) (w : World) (h : Jd d w p n S) (hr : d.rest) (hl : w.ownsRow 0 3 1 v l.length (nums l)) (hv : ∀ k, v.ownBlock = some k → k ∉ d.foot p) (hln : ∀ i ∈ l, i < n) :
    Calls Tryz.prog 138 #[.agg #[.pointer (some ⟨p, 0, none⟩)], v] w fun e w' => e = .returned .nilIface ∧ ∃ d', Jstep d w d' w' p n (wipeS S l) ∧ d'.rest := by
  obtain ⟨i0, hi, hz0, hz1, hz2⟩ := info_parts Tryz.jinfo5
  obtain ⟨W0, g0⟩ : ∃ W0, W0 = w.alloc (.cells #[.pointer (some ⟨p, 0, none⟩)] 134) := ⟨_, rfl⟩
  have hb0 : Below w.heap.size w W0 := by rw [g0]; exact (Below.refl _ _).alloc (Nat.le_refl _) _
  have hbx0 : W0.heap[w.heap.size]? = some (.cells #[.pointer (some ⟨p, 0, none⟩)] 134 (0, 0)) := by rw [g0]; exact heap_alloc_new _ _
  have hs0 : W0.heap.size = w.heap.size + 1 := by rw [g0]; simp
  obtain ⟨av, cv, rfl, hv1, hv2⟩ := own_shape hl
  obtain ⟨m, gm⟩ : ∃ m, m = l.length := ⟨_, rfl⟩
  rw [← gm] at hl hv1 ⊢
  have G0 := hid g0
  have HJ := hid h
  have HR := hid hr
  have HL := hid hl
  have HV := hid hv
  have HN := hid hln
  have GM := hid gm
  clear g0 h hr hl hv hln gm
  go_enter Tryz.func138, Tryz.ntmps138
  go_wp2_with (at_make; rw [← G0.out]; go_must (refine wpList_make_full _ rfl _ _ 81 rfl W0.heap.size 5 i0 (.int .u8 0) 1 Tryz.underlying81 hi hz0 hz1 .i64 .i64 128 128 128 rfl rfl rfl rfl (by rw [hz2]; omega) (by unfold maxLen; omega) (Nat.le_refl _) ?_))
  intro W1 hown hgrow
  rw [zeros_map] at hown
  have hb1 : Below W0.heap.size W0 W1 := (Below.refl _ _).grown hgrow (by simp) (by intro q hq; cases hq)
  have hbw : Below w.heap.size w W1 := hb0.trans (hb1.mono (by omega))
  have hzlt := (hown.lt (w.heap.size + 1) rfl).2
  obtain ⟨q, gq⟩ : ∃ q, q = w.heap.size := ⟨_, rfl⟩
  have hq1 : q < W1.heap.size := by omega
  have hbx1 : W1.heap[q]? = some (.cells #[.pointer (some ⟨p, 0, none⟩)] 134 (0, 0)) := by rw [hb1.block q (by omega), gq]; exact hbx0
  have hqf : q ∉ d.foot p := fun hx => by have := HJ.out.ok.lt q hx; omega
  obtain ⟨z, gz⟩ : ∃ z, z = w.heap.size + 1 := ⟨_, rfl⟩
  rw [← gz] at hown hzlt
  rw [← gz, ← gq]
  have hzf : z ∉ d.foot p := fun hx => by have := HJ.out.ok.lt z hx; omega
  have J1 : Jd d W1 p n S := HJ.out.below hbw
  have ho1 : W1.ownsRow 0 3 1 (.slice av m cv) m (nums l) := own_below HL.out hbw
  have HO := hid hown
  have HQ : Hid (q ∉ d.foot p ∧ q < W1.heap.size ∧ W1.heap[q]? = some (.cells #[.pointer (some ⟨p, 0, none⟩)] 134 (0, 0))) := hid ⟨hqf, hq1, hbx1⟩
  have HZ : Hid (z ∉ d.foot p ∧ z < W1.heap.size) := hid ⟨hzf, hzlt⟩
  have HJ1 := hid J1
  have HL1 := hid ho1
  have HBW := hid hbw
  clear hown hgrow hb1 hbw hb0 hbx0 hbx1 hqf hq1 hzf hzlt J1 ho1 hs0 gq gz
  go_wp2_with fail
  go_loopw [6, 15] (fun f k wr => ∃ (i : Nat) (b : Bool) (dx : Dk), k = .int .i64 i ∧ f = .bool b ∧ i ≤ m ∧ Hid (Jstep d W1 dx wr p n (wipeS S (l.take i))) ∧ Hid (b = false → dx.rest)) (fun _ k _ => m - (intOf k).toNat)
  case atStart => exact ⟨0, false, d, rfl, rfl, Nat.zero_le _, hid (by rw [List.take_zero, wipeS_nil]; exact Jstep.refl HJ1.out), hid fun _ => HR.out⟩
  case round =>
    obtain ⟨i, b, dx, rfl, rfl, him, HS, HRx⟩ := hrel
    have hbq : wr.heap[q]? = some (.cells #[.pointer (some ⟨p, 0, none⟩)] 134 (0, 0)) := (HS.out.heap HQ.out.2.1 HQ.out.1).trans HQ.out.2.2
    have cq : wr.cell? ⟨q, 0, none⟩ = some (.pointer (some ⟨p, 0, none⟩)) := heap_cells hbq 0 _ rfl
    by_cases hlt : i < m
    · have hil : i < l.length := by rw [← GM.out]; exact hlt
      obtain ⟨k, gk⟩ : ∃ k, k = l[i] := ⟨_, rfl⟩
      have hkn : k < n := by rw [gk]; exact HN.out _ (List.getElem_mem hil)
      obtain ⟨g, rfl⟩ : ∃ g, av = some ⟨g, 0, none⟩ := by
        rcases HL.out.2 with ⟨_, h⟩ | ⟨g, c, cur, h, _⟩
        · omega
        · injection h with h1 h2 h3; exact ⟨g, h1⟩
      have hor := HS.out.own HL1.out HV.out
      have ck : wr.cell? ⟨g, i, none⟩ = some (.int .i64 k) := by
        rw [hor.cellAt i (by omega), nums, List.getElem?_map, List.getElem?_eq_getElem hil, gk]; rfl
      have htk : l.take (i + 1) = l.take i ++ [k] := by rw [List.take_add_one, List.getElem?_eq_getElem hil, gk]; rfl
      obtain ⟨SS, gSS⟩ : ∃ SS, SS = wipeS S (l.take i) := ⟨_, rfl⟩
      rw [← gSS] at HS
      have kr := hid (jread_any dx p n k SS wr HS.out.jd hkn)
      have GSS := hid gSS
      have HTK := hid htk
      clear gk gSS htk hor hbq hil
      have hiv : (i : Int) < (m : Int) := by omega
      go_wp2_with (first | (go_at_call 89; refine kr.out.mono ?_; rintro r w2 ⟨g2, c2, rfl, ho2, hb2⟩; have HO2 := hid ho2; have HB2 := hid hb2; clear ho2 hb2))
      have hst2 := HS.out.below HB2.out
      have hz2 : w2.ownsRow 0 5 1 (.slice (some ⟨z, 0, none⟩) 128 128) 128 (zero128.map (Value.int .u8)) := own_base (hst2.own HO.out (fun x hx => by simp [Value.ownBlock] at hx; subst hx; exact HZ.out.1)) (Nat.zero_le _)
      have ke := hid (equal_dec (some ⟨g2, 0, none⟩) (some ⟨z, 0, none⟩) 128 c2 128 128 (SS k) zero128 w2 (Src.own HO2.out) (Src.own hz2) (HS.out.jd.byt k) bytes_zero128)
      have cq2 : w2.cell? ⟨q, 0, none⟩ = some (.pointer (some ⟨p, 0, none⟩)) := (HB2.out.cell (p := ⟨q, 0, none⟩) (World.block_lt_of_cell? _ _ cq)).trans cq
      have HS2 := hid hst2
      have HZ2 := hid hz2
      clear hst2 hz2 kr cq ck
      by_cases hE : SS k = zero128
      · have hd : decide (SS k = zero128) = true := decide_eq_true hE
        rw [hd] at ke
        have HN1 : Hid (Jstep d W1 dx w2 p n (wipeS S (l.take (i + 1)))) := hid (by
          rw [HTK.out, ← wipeS_same S _ k (by rw [← GSS.out]; exact hE), ← GSS.out]; exact HS2.out)
        clear hE hd
        refine ke.out.mono ?_
        rintro r w3 ⟨rfl, h⟩
        subst w3
        go_wp2_with fail
        go_roundw
        case rel => exact ⟨i + 1, b, dx, by go_num, rfl, by omega, HN1, HRx⟩
        case measure => simp [intOf]; omega
      · have hd : decide (SS k = zero128) = false := decide_eq_false hE
        rw [hd] at ke
        have kw := hid (jwrite_step dx p n k SS ⟨z, 0, none⟩ 128 zero128 w2 HS2.out.jd hkn (Src.own HZ2.out) bytes_zero128 (HS2.out.out HZ.out.2 HZ.out.1))
        clear hE hd
        refine ke.out.mono ?_
        rintro r w3 ⟨rfl, h⟩
        subst w3
        go_wp2_with (first | (go_at_call 191; refine kw.out.mono ?_; rintro r w4 ⟨rfl, d4, hs4⟩; have HS4 : Hid (Jstep d W1 d4 w4 p n (wipeS S (l.take (i + 1)))) := hid (by rw [HTK.out, ← wipeS_put, ← GSS.out]; exact HS2.out.trans hs4); clear hs4))
        go_roundw
        case rel => exact ⟨i + 1, true, d4, by go_num, rfl, by omega, HS4, hid (fun h => by cases h)⟩
        case measure => simp [intOf]; omega
    · obtain rfl : i = m := by omega
      have htk : l.take i = l := List.take_of_length_le (by rw [← GM.out]; exact Nat.le_refl _)
      rw [htk] at HS
      have hiv : ¬ (i : Int) < (i : Int) := by omega
      clear htk hbq
      cases b with
      | false =>
        go_wp2_with fail
        go_ret
        exact ⟨rfl, dx, HS.out.front HBW.out, HRx.out (by trivial)⟩
      | true =>
        have kf := hid (jflush_step dx p n _ wr HS.out.jd)
        go_wp2_with (first | (go_at_call 192; refine kf.out.mono ?_; rintro r w4 ⟨rfl, d4, hs4, hr4⟩; have HS4 := hid (Jstep.front HBW.out (HS.out.trans hs4)); have HR4 := hid hr4; clear hs4 hr4))
        go_ret
        exact ⟨rfl, d4, HS4.out, HR4.out⟩

set_option maxHeartbeats 2000000 in
theorem whead_any (d : Dk) (p n g : Nat) (S : Nat → List Int) (w : World) (h : Jd d w p n S) (hn : 2 ≤ n) (hg : g < 9223372036854775808) (hT : Tab w) :
    Calls Tryz.prog 187 #[.agg #[.pointer (some ⟨p, 0, none⟩)], .int .i64 g] w fun e w' => e = .returned .nilIface ∧ ∃ d', Jstep d w d' w' p n (upS S (g % 2) (headB g)) ∧ d'.rest := by
  obtain ⟨W0, g0⟩ : ∃ W0, W0 = w.alloc (.cells #[.pointer (some ⟨p, 0, none⟩)] 134) := ⟨_, rfl⟩
  have hb0 : Below w.heap.size w W0 := by rw [g0]; exact (Below.refl _ _).alloc (Nat.le_refl _) _
  have hbx0 : W0.heap[w.heap.size]? = some (.cells #[.pointer (some ⟨p, 0, none⟩)] 134 (0, 0)) := by rw [g0]; exact heap_alloc_new _ _
  have hs0 : W0.heap.size = w.heap.size + 1 := by rw [g0]; simp
  obtain ⟨q, gq⟩ : ∃ q, q = w.heap.size := ⟨_, rfl⟩
  rw [← gq] at hbx0
  have hqf : q ∉ d.foot p := fun hx => by have := h.ok.lt q hx; omega
  have cq : W0.cell? ⟨q, 0, none⟩ = some (.pointer (some ⟨p, 0, none⟩)) := heap_cells hbx0 0 _ rfl
  have hTl : 1 < w.heap.size := World.block_lt_of_cell? _ _ (hT 0 (by omega))
  have kh := hid (fun wx => headof_any g wx hg)
  have kd := hid (fun (wx : World) (hb : Below W0.heap.size W0 wx) (hs : wx.heap.size = W0.heap.size) => head_any g wx (hT.below (hb0.trans (hb.mono (by omega))) hTl) hg)
  have kw := hid (fun (wx : World) (hb : Below W0.heap.size W0 wx) (ab : Addr) (hab : W0.heap.size ≤ ab.block) (hs : Src wx (some ab) 128 (headB g)) => jwrite_step d p n (g % 2) S ab 128 (headB g) wx (h.below (hb0.trans (hb.mono (by omega)))) (by omega) hs (bytes_headB g) (fun hx => by have := h.ok.lt _ hx; omega))
  have HJ := hid h
  have G0 := hid g0
  have GQ := hid gq
  have HQ : Hid (q ∉ d.foot p ∧ q < W0.heap.size ∧ W0.heap[q]? = some (.cells #[.pointer (some ⟨p, 0, none⟩)] 134 (0, 0))) := hid ⟨hqf, by omega, hbx0⟩
  have HSZ := hid hs0
  have HB0 := hid hb0
  clear g0 h hT hqf hbx0 hTl gq hs0 hb0
  go_enter Tryz.func187, Tryz.ntmps187
  go_wp2_with fail
  rw [← G0.out, ← GQ.out]
  go_region_held3 (fun wx => wx.cell? ⟨q, 0, none⟩ = some (.pointer (some ⟨p, 0, none⟩))) (go_keep) (first | (go_at_call 184; refine (kh.out _).mono ?_; rintro r w1 ⟨rfl, h⟩; subst w1) | (go_at_call 185; refine (kd.out _ (below_drewN (Below.refl _ _) 1) rfl).mono ?_; rintro r w2 ⟨rfl, ho2, hb2⟩; have HO2 := hid ho2; have HB2 : Hid (Below W0.heap.size W0 w2) := hid ((below_drewN (Below.refl W0.heap.size W0) 1).trans hb2); have cq2 : w2.cell? ⟨q, 0, none⟩ = some (.pointer (some ⟨p, 0, none⟩)) := (HB2.out.cell (p := ⟨q, 0, none⟩) HQ.out.2.1).trans cq; clear ho2 hb2) | (go_at_call 191; refine (kw.out _ HB2.out _ (by exact Nat.le_refl _) (Src.own HO2.out)).mono ?_; rintro r w4 ⟨rfl, d4, hs4⟩; have HS4 := hid (Jstep.front (HB0.out.trans (HB2.out.mono (by have := HSZ.out; omega))) hs4); have cq4 : w4.cell? ⟨q, 0, none⟩ = some (.pointer (some ⟨p, 0, none⟩)) := heap_cells (((Jstep.heap hs4 (Nat.lt_of_lt_of_le HQ.out.2.1 HB2.out.size) HQ.out.1).trans (HB2.out.block q HQ.out.2.1)).trans HQ.out.2.2) 0 _ rfl; clear hs4))
  have kf := hid (jflush_step d4 p n _ w4 HS4.out.jd)
  clear kh kd kw HO2 HB2
  go_wp2_with (first | (go_at_call 192; refine kf.out.mono ?_; rintro r w5 ⟨rfl, d5, hs5, hr5⟩; have HS5 := hid (HS4.out.trans hs5); have HR5 := hid hr5; clear hs5 hr5))
  go_ret
  exact ⟨rfl, d5, HS5.out, HR5.out⟩

end Go.Proofs.YtbgommpdmnbplaaGreatDoor

/- What a journal on an image is: no program here. -/
namespace Go.Proofs.YtbgommpdmnbplaaGreatDoor
open Go.RowKit Num Jr
set_option linter.unusedVariables false

namespace Jr
theorem jtxt_bytes {zs : List Int} (h : Bytes zs) (m : Int) : Bytes (txt zs m).1 := by
  unfold txt
  split
  · exact Bytes.nil
  · split
    · exact Bytes.nil
    · split
      · exact Bytes.nil
      · exact (h.drop _).take _

/-- A text that was read: it is no longer than it may be, and bytes were passed. -/
theorem txt_ok {zs : List Int} (hz : Bytes zs) (m : Nat) (h : (txt zs m).2.2 = 0) : 1 ≤ (txt zs m).2.1 ∧ (txt zs m).2.1 ≤ zs.length ∧ (txt zs m).1.length ≤ m ∧ (txt zs m).1.length < (txt zs m).2.1 := by
  have hd := dec_got zs hz
  unfold txt at h ⊢
  by_cases h0 : (dec zs).2.2 ≠ 0
  · rw [if_pos h0] at h; exact absurd h h0
  · rw [if_neg h0] at h ⊢
    rcases hd with hd | hd
    · by_cases h1 : max (m : Int) 0 < ((dec zs).1 : Int)
      · rw [if_pos h1] at h; cases h
      · rw [if_neg h1] at h ⊢
        by_cases h2 : zs.length - (dec zs).2.1 < (dec zs).1
        · rw [if_pos h2] at h; cases h
        · rw [if_neg h2]
          simp only [List.length_take, List.length_drop]
          omega
    · exact absurd hd.1 h0

/-- The records of a load, behind some. -/
def recsGo : Nat → List Int → List (List Int) → List (List Int)
  | 0, _, _ => []
  | f + 1, zs, acc => if zs = [] then acc else if (txt zs 2000).2.2 ≠ 0 ∨ (txt zs 2000).1 = [] then [] else recsGo f (zs.drop (txt zs 2000).2.1) (acc ++ [(txt zs 2000).1])
/-- The records of a load; none, if it is not texts of records alone. -/
def recsOf (zs : List Int) : List (List Int) := recsGo (zs.length + 1) zs []

/-- The load of a sector. -/
def ldOf (zs : List Int) : List Int := (zs.drop 21).take (zs.getD 1 0).toNat

/-- The load of the group that goes on at a place; none, if its sectors are not there. -/
def loadGo (S : Nat → List Int) (first gen num : Nat) : Nat → Nat → List Int → List Int
  | 0, _, _ => []
  | k + 1, place, acc =>
    if rightS (S (first + place)) place gen num then
      if (S (first + place)).getD 12 0 = 1 then acc ++ ldOf (S (first + place))
      else if (S (first + place)).getD 1 0 < 100 then []
      else loadGo S first gen num k (place + 1) (acc ++ ldOf (S (first + place)))
    else []

theorem rightS_len {zs : List Int} {place gen num : Nat} (h : rightS zs place gen num = true) (hl : zs.length = 128) : 1 ≤ (ldOf zs).length ∧ (ldOf zs).length ≤ 100 ∧ (ldOf zs).length = (zs.getD 1 0).toNat := by
  have h1 := of_decide_eq_true h
  have h2 : (ldOf zs).length = (zs.getD 1 0).toNat := by
    unfold ldOf
    rw [List.length_take, List.length_drop, hl]
    omega
  rw [h2]
  omega

/-- How many sectors a load takes. -/
def needN (k : Nat) : Nat := (k + 99) / 100

/-- A load that is there: its sectors are, too. -/
theorem loadGo_len (S : Nat → List Int) (first gen num : Nat) (hS : ∀ i, (S i).length = 128) : ∀ (k place : Nat) (acc : List Int), (loadGo S first gen num k place acc) ≠ [] → acc.length < (loadGo S first gen num k place acc).length ∧ (loadGo S first gen num k place acc).length ≤ acc.length + 100 * k
  | 0, place, acc => fun h => absurd rfl h
  | k + 1, place, acc => by
    intro h
    unfold loadGo at h ⊢
    by_cases h1 : rightS (S (first + place)) place gen num = true
    · have hl := rightS_len h1 (hS _)
      rw [if_pos h1] at h ⊢
      by_cases h2 : (S (first + place)).getD 12 0 = 1
      · rw [if_pos h2] at h ⊢
        rw [List.length_append]
        omega
      · rw [if_neg h2] at h ⊢
        by_cases h3 : (S (first + place)).getD 1 0 < 100
        · rw [if_pos h3] at h; exact absurd rfl h
        · rw [if_neg h3] at h ⊢
          have ih := loadGo_len S first gen num hS k (place + 1) _ h
          rw [List.length_append] at ih
          omega
    · rw [if_neg h1] at h; exact absurd rfl h

/-- All groups' records, behind some: with how many groups there are, and how many sectors they have. -/
def grpsGo (S : Nat → List Int) (first gen size : Nat) : Nat → Nat → Nat → List (List Int) → List (List Int) × Nat × Nat
  | 0, g, u, acc => (acc, g, u)
  | f + 1, g, u, acc =>
    if recsOf (loadGo S first gen (g + 1) (size - u) u []) = [] then (acc, g, u)
    else grpsGo S first gen size f (g + 1) (u + needN (loadGo S first gen (g + 1) (size - u) u []).length) (acc ++ recsOf (loadGo S first gen (g + 1) (size - u) u []))
def grps (S : Nat → List Int) (first gen size : Nat) : List (List Int) × Nat × Nat := grpsGo S first gen size (size + 1) 0 0 []

theorem recsOf_nil : recsOf [] = [] := by simp [recsOf, recsGo]
end Jr

end Go.Proofs.YtbgommpdmnbplaaGreatDoor

/- What journal's records does: the records of a load, each in memory of its own. -/
namespace Go.Proofs.YtbgommpdmnbplaaGreatDoor
open Go.RowKit Num Jr
set_option linter.unusedVariables false
set_option maxRecDepth 20000

theorem jbytesWorld_below (w : World) (s : ByteArray) : Below w.heap.size w (Lib.bytesWorld w 5 s) :=
  ⟨rfl, rfl, rfl, by rw [Lib.bytesWorld_size]; omega, fun k hk => Lib.bytesWorld_at_old w 5 s k hk⟩
theorem jbytesWorld_src (w : World) (s : ByteArray) : Src (Lib.bytesWorld w 5 s) (some ⟨w.heap.size, 0, none⟩) s.size (str s) :=
  ⟨str_len s, fun _ => ⟨w.heap.size, 0, rfl, by rw [Lib.bytesWorld_size]; omega, fun j hj => by
    rw [Nat.zero_add, Lib.bytesWorld_cell w 5 s j hj]
    have : j < s.data.toList.length := by simpa using hj
    simp [str, List.getD, List.getElem?_eq_getElem this]⟩⟩
theorem jstr_of {zs : List Int} (h : Bytes zs) : str (strOfNums zs) = zs := by
  unfold str strOfNums
  simp only [List.map_map]
  conv => rhs; rw [← List.map_id zs]
  apply List.map_congr_left
  intro z hz
  have := h z hz
  simp only [Function.comp, id]
  rw [UInt8.toNat_ofNat']
  omega

/-- A record as it lies, in a block from B on that is not g. -/
def Rec (w : World) (B : Nat) (g : Option Nat) (u : Value) (bs : List Int) : Prop := ∃ b c, u = .slice (some ⟨b, 0, none⟩) bs.length c ∧ Src w (some ⟨b, 0, none⟩) bs.length bs ∧ B ≤ b ∧ b < w.heap.size ∧ g ≠ some b ∧ bs.length ≤ c ∧ c ≤ 9223372036854775807
/-- Records, in memory from B on. -/
def Rcs (w : World) (B : Nat) (v : Value) (L : List (List Int)) : Prop := ∃ us, w.ownsRow B 81 1 v L.length us ∧ ∀ j, ∀ h : j < L.length, ∃ u, us[j]? = some u ∧ Rec w B v.ownBlock u L[j]

theorem Rec.upd {w w' : World} {B : Nat} {g g' : Option Nat} {F : Nat → Prop} {u : Value} {bs : List Int} (h : Rec w B g u bs) (hu : Upd F w w') (hF : ∀ b, F b → B ≤ b → g = some b) (hg : g' = g ∨ ∀ x, g' = some x → w.heap.size ≤ x) : Rec w' B g' u bs := by
  obtain ⟨b, c, e, h1, h2, h3, h4, h5⟩ := h
  refine ⟨b, c, e, hu.src h1 (fun b' o' e' hb => ?_), h2, Nat.lt_of_lt_of_le h3 hu.size, ?_, h5⟩
  · simp only [Option.some.injEq, Addr.mk.injEq] at e'
    obtain ⟨rfl, _⟩ := e'
    exact h4 (hF _ hb h2)
  · rcases hg with rfl | hg
    · exact h4
    · intro e'
      have := hg b e'
      omega

theorem Rcs.upd {w w' : World} {B : Nat} {v : Value} {L : List (List Int)} {F : Nat → Prop} (h : Rcs w B v L) (hu : Upd F w w') (hF : ∀ b, F b → b < B ∨ w.heap.size ≤ b) : Rcs w' B v L := by
  obtain ⟨us, ho, hj⟩ := h
  refine ⟨us, hu.own ho (fun k hk hf => ?_), fun j hjl => ?_⟩
  · have := ho.lt k hk
    rcases hF k hf with h | h <;> omega
  · obtain ⟨u, h1, b, c, e, h2, h3, h4, h5⟩ := hj j hjl
    refine ⟨u, h1, b, c, e, hu.src h2 (fun b' o' e' hb => ?_), h3, Nat.lt_of_lt_of_le h4 hu.size, h5⟩
    simp only [Option.some.injEq, Addr.mk.injEq] at e'
    obtain ⟨rfl, _⟩ := e'
    rcases hF _ hb with h | h <;> omega

theorem Rcs.below {w w' : World} {B : Nat} {v : Value} {L : List (List Int)} (h : Rcs w B v L) (hu : Below w.heap.size w w') : Rcs w' B v L := h.upd (Upd.of_below (F := fun _ => False) hu) (fun _ h => h.elim)
theorem Rcs.nil (w : World) (B : Nat) : Rcs w B (.slice none 0 0) [] := ⟨[], World.ownsRow_nil _ _ _ _, fun j hj => absurd hj (by simp)⟩

theorem Rcs.base {w : World} {B B' : Nat} {v : Value} {L : List (List Int)} (h : Rcs w B' v L) (hB : B ≤ B') : Rcs w B v L := by
  obtain ⟨us, ho, hj⟩ := h
  refine ⟨us, own_base ho hB, fun j hjl => ?_⟩
  obtain ⟨u, h1, b, c, e, h2, h3, h4⟩ := hj j hjl
  exact ⟨u, h1, b, c, e, h2, Nat.le_trans hB h3, h4⟩

theorem own_rebase {w : World} {B e size n : Nat} {v : Value} {xs : List Value} (h : w.ownsRow 0 e size v n xs) (hB : ∀ x, v.ownBlock = some x → B ≤ x) : w.ownsRow B e size v n xs := by
  refine ⟨h.1, ?_⟩
  rcases h.2 with h1 | ⟨g, c, cur, e1, _, rest⟩
  · exact .inl h1
  · exact .inr ⟨g, c, cur, e1, hB g (by rw [e1]; rfl), rest⟩

/-- Records behind records. -/
theorem Rcs.app {WA w' : World} {B : Nat} {v v' : Value} {L L2 : List (List Int)} {us us2 : List Value} (ho : WA.ownsRow B 81 1 v L.length us) (hj : ∀ j, ∀ h : j < L.length, ∃ u, us[j]? = some u ∧ Rec WA B v.ownBlock u L[j])
    (hl2 : us2.length = L2.length) (hj2 : ∀ j, ∀ h : j < L2.length, ∃ u, us2[j]? = some u ∧ Rec WA B v.ownBlock u L2[j])
    (hO : w'.ownsRow 0 81 1 v' (L.length + L2.length) (us ++ us2)) (hU : Upd (fun x => v.ownBlock = some x) WA w') (hW : v'.ownBlock = v.ownBlock ∨ ∀ x, v'.ownBlock = some x → WA.heap.size ≤ x) (hB : B ≤ WA.heap.size) : Rcs w' B v' (L ++ L2) := by
  have hul : us.length = L.length := by have := ho.1; omega
  have hbase : ∀ x, v'.ownBlock = some x → B ≤ x := fun x hx => by
    rcases hW with h | h
    · exact (ho.lt x (h ▸ hx)).1
    · exact Nat.le_trans hB (h x hx)
  refine ⟨us ++ us2, by rw [List.length_append]; exact own_rebase hO hbase, fun j hjl => ?_⟩
  · rcases Nat.lt_or_ge j L.length with h | h
    · obtain ⟨u, h1, h2⟩ := hj j h
      refine ⟨u, by rw [List.getElem?_append_left (by omega)]; exact h1, ?_⟩
      rw [List.getElem_append_left h]
      exact h2.upd hU (fun b hb _ => hb) hW
    · rw [List.length_append] at hjl
      obtain ⟨u, h1, h2⟩ := hj2 (j - L.length) (by omega)
      refine ⟨u, by rw [List.getElem?_append_right (by omega), hul]; exact h1, ?_⟩
      rw [List.getElem_append_right h]
      exact h2.upd hU (fun b hb _ => hb) hW

theorem Rdr.upd {w w' : World} {B p g len at_ : Nat} {zs : List Int} {F : Nat → Prop} (h : Rdr w B p g len at_ zs) (u : Upd F w w') (hp : ¬ F p) (hg : ¬ F g) : Rdr w' B p g len at_ zs :=
  ⟨u.heap h.own hp, u.src h.src (fun b o e hb => by simp only [Option.some.injEq, Addr.mk.injEq] at e; obtain ⟨rfl, _⟩ := e; exact hg hb), h.lo, h.mid, h.ne, h.fit, h.cap, Nat.lt_of_lt_of_le h.gl u.size⟩

def slen : Value → Nat
  | .slice _ n _ => n
  | _ => 0

set_option maxHeartbeats 2000000 in
theorem records_any (a0 : Option Addr) (ln lc : Nat) (zs : List Int) (w : World) (hs : Src w a0 ln zs) (hz : Bytes zs) (hln : ln ≤ 1000000) :
    Calls Tryz.prog 189 #[.slice a0 ln lc] w fun e w' => ∃ v, e = .returned v ∧ Rcs w' w.heap.size v (recsOf zs) ∧ Below w.heap.size w w' := by
  obtain ⟨i0, hi0, hz0, hz1, hz2⟩ := info_parts Tryz.infoTB
  have ko := hid (over_any a0 ln lc zs w hs (by omega))
  have hzl : zs.length = ln := hs.1
  have HZ := hid hz
  have HZL := hid hzl
  clear hs hz hzl
  go_enter Tryz.func189, Tryz.ntmps189
  go_wp2_with (first | (go_at_call 92; refine ko.out.mono ?_; rintro r w1 ⟨p, rfl, hR, hpl, hb1⟩))
  have HR1 := hid hR
  have HB1 := hid hb1
  have hgl : w.heap.size < w1.heap.size := hR.gl
  clear hR hb1
  go_loopw [3] (fun v wr => Hid (∃ (at_ : Nat) (acc : List (List Int)) (f : Nat), Rdr wr w.heap.size p w.heap.size ln at_ zs ∧ Rcs wr w1.heap.size v acc ∧ acc.length ≤ at_ ∧ ln - at_ < f ∧ recsGo f (zs.drop at_) acc = recsOf zs ∧ Below w.heap.size w wr ∧ w1.heap.size ≤ wr.heap.size)) (fun v _ => ln - slen v)
  case atStart => exact hid ⟨0, [], zs.length + 1, HR1.out, Rcs.nil _ _, Nat.le_refl _, by rw [HZL.out]; omega, by rw [List.drop_zero]; rfl, HB1.out, Nat.le_refl _⟩
  case round =>
    obtain ⟨at_, acc, f, hR, hC, hal, hf, hg, hB, hS⟩ := hrel.out
    clear hrel
    obtain ⟨v, gv⟩ : ∃ v, v = u3 := ⟨_, rfl⟩
    rw [← gv] at hC ⊢
    clear gv
    have hvs : ∃ av cv, v = .slice av acc.length cv := by obtain ⟨us, ho, _⟩ := hC; obtain ⟨av, cv, e, _⟩ := own_shape ho; exact ⟨av, cv, e⟩
    have hfit := hR.fit
    have kl := hid (left_any w.heap.size p w.heap.size ln at_ zs wr hR)
    have kt := hid (fun k => rtext_any w.heap.size p w.heap.size ln at_ zs 2000 (wr.drewN k) (hR.drewN k) HZ.out)
    have HC := hid hC
    have HB := hid hB
    have HG := hid hg
    obtain ⟨R, gR⟩ : ∃ R, R = ln - at_ := ⟨_, rfl⟩
    rw [← gR] at kl
    clear hR hC hB hg
    by_cases h0 : R = 0
    · subst h0
      have hfin : acc = recsOf zs := by
        have h1 : zs.drop at_ = [] := List.drop_of_length_le (by rw [HZL.out]; omega)
        have h2 := HG.out
        rw [h1] at h2
        cases f with
        | zero => omega
        | succ f => rw [← h2]; simp [recsGo]
      have HF := hid hfin
      clear hfin gR
      go_wp2_with (first | (go_at_call 197; refine kl.out.mono ?_; rintro r w2 ⟨rfl, k, rfl⟩))
      go_ret
      obtain ⟨us, ho, hj⟩ := HC.out
      refine ⟨v, rfl, ?_, below_drewN HB.out k⟩
      rw [← HF.out]
      have hU : Upd (fun _ => False) wr (wr.drewN k) := (Upd.refl _ _).drewN k
      exact (HC.out.upd hU (fun _ h => h.elim)).base (by omega)
    · have hpos : (0 : Int) < (R : Int) := by omega
      have htok := fun h => txt_ok (HZ.out.drop at_) 2000 h
      have htb := jtxt_bytes (HZ.out.drop at_) 2000
      obtain ⟨T, gT⟩ : ∃ T, T = txt (zs.drop at_) 2000 := ⟨_, rfl⟩
      have hstep : recsOf zs = if T.2.2 ≠ 0 ∨ T.1 = [] then [] else recsGo (f - 1) ((zs.drop at_).drop T.2.1) (acc ++ [T.1]) := by
        rw [← HG.out, gT]
        cases f with
        | zero => omega
        | succ f =>
          have hne : zs.drop at_ ≠ [] := fun h => by
            have := congrArg List.length h
            rw [List.length_drop, HZL.out] at this
            simp at this
            omega
          rw [recsGo, if_neg hne]
          rfl
      rw [show ((2000 : Nat) : Int) = 2000 by rfl] at htok
      rw [← gT] at kt htok htb
      obtain ⟨t, k, e⟩ := T
      simp only at kt htok htb hstep
      have HST := hid hstep
      have HTB := hid htb
      have HTK := hid htok
      have GR := hid gR
      clear gT hstep htb htok gR
      have hpw : w.heap.size ≤ p := HR1.out.mid
      by_cases he : e = 0
      · subst he
        by_cases ht : t = []
        · subst ht
          have hse : strOfNums [] = ⟨#[]⟩ := rfl
          rw [hse] at kt
          have HF : Hid (recsOf zs = []) := hid (by rw [HST.out, if_pos (Or.inr rfl)])
          clear HST
          go_wp2_with (first | (go_at_call 197; refine kl.out.mono ?_; rintro r w2 ⟨rfl, k2, rfl⟩) | (go_at_call 144; refine (kt.out k2).mono ?_; rintro r w3 ⟨rfl, hR3, hO3⟩; have HO3 := hid hO3; clear hR3 hO3))
          go_ret
          refine ⟨_, rfl, by rw [HF.out]; exact Rcs.nil _ _, (below_drewN HB.out k2).trans (HO3.out.below (by omega))⟩
        · have hk := HTK.out rfl
          rw [List.length_drop, HZL.out] at hk
          have hne : ¬ strOfNums t = ⟨#[]⟩ := fun h => ht (by
            have h1 := strOfNums_size t
            rw [h] at h1
            exact List.eq_nil_of_length_eq_zero h1.symm)
          have hsz : (strOfNums t).size = t.length := strOfNums_size t
          have hst : str (strOfNums t) = t := jstr_of HTB.out
          have HF : Hid (recsGo (f - 1) (zs.drop (at_ + k)) (acc ++ [t]) = recsOf zs) := hid (by
            rw [HST.out, if_neg (by simp [ht]), List.drop_drop])
          obtain ⟨S, gS⟩ : ∃ S, S = strOfNums t := ⟨_, rfl⟩
          rw [← gS] at kt hne hsz hst
          have HSZ := hid hsz
          have HTT := hid hst
          obtain ⟨m, gm⟩ : ∃ m, m = acc.length := ⟨_, rfl⟩
          have GM := hid gm
          have HNE := hid ht
          clear HST gS ht hsz hst gm
          obtain ⟨us, huo, huj⟩ := HC.out
          have HUO := hid huo
          have HUJ := hid huj
          have HUS : Hid (∀ (k2 : Nat) (wx WB : World), Only p (wr.drewN k2) wx → Below wx.heap.size wx WB → ∀ ob, (WB.alloc ob).ownsRow w1.heap.size 81 1 v acc.length us ∧ ∀ j, ∀ h : j < acc.length, ∃ u, us[j]? = some u ∧ Rec (WB.alloc ob) w1.heap.size v.ownBlock u acc[j]) := hid (fun k2 wx WB hO hB ob => by
            have hU : Upd (· = p) wr (WB.alloc ob) := ((show Upd (· = p) wr wx from ⟨hO.os, hO.tape, hO.output, by rw [hO.size]; exact Nat.le_refl _, fun k _ hk => hO.block k hk⟩).trans (Upd.of_below (F := (· = p)) hB) (fun _ _ h => h)).trans (Upd.alloc (· = p) WB ob) (fun _ _ h => h)
            refine ⟨hU.own HUO.out (fun x hx e => by have := (HUO.out.lt x hx).1; omega), fun j hj => ?_⟩
            obtain ⟨u, h1, h2⟩ := HUJ.out j hj
            exact ⟨u, h1, h2.upd hU (fun b hb hB => by omega) (.inl rfl)⟩)
          clear huo huj
          have hem : S.toList.isEmpty = false := by
            cases hc : S.toList.isEmpty with
            | false => rfl
            | true =>
              refine absurd ?_ hne
              have h1 : S.toList = [] := by simpa using hc
              rw [ByteArray.toList_eq] at h1
              cases S with
              | mk A => congr 1; exact Array.ext' (by simpa using h1)
          have hss : S.size ≤ maxLen := by rw [HSZ.out]; unfold maxLen; omega
          clear hne
          go_wp2_with (first | (go_at_call 197; refine kl.out.mono ?_; rintro r w2 ⟨rfl, k2, rfl⟩) | (go_at_call 144; refine (kt.out k2).mono ?_; rintro r w3 ⟨rfl, hR3, hO3⟩; have HO3 := hid hO3; have HR3 := hid hR3; clear hR3 hO3; have hcv := Lib.run_convert_string_bytes (P := Tryz.prog) w3 9 81 5 S Tryz.underlying9 Tryz.underlying81 Tryz.underlying5; obtain ⟨CC, gC⟩ : ∃ CC, CC = grownCap w3 S.size 0 5 := ⟨_, rfl⟩; obtain ⟨WB, gB⟩ : ∃ WB, WB = Lib.bytesWorld w3 5 S := ⟨_, rfl⟩; rw [← gB, ← gC] at hcv; have hWB : Hid (Below w3.heap.size w3 WB) := hid (by rw [gB]; exact jbytesWorld_below w3 S); have hSB : Hid (Src WB (some ⟨w3.heap.size, 0, none⟩) S.size (str S)) := hid (by rw [gB]; exact jbytesWorld_src w3 S); have hc1 : S.size ≤ CC := (by rw [gC]; exact grownCap_ge _ _ _ _); have hc2 : CC ≤ 9223372036854775807 := (by have := grownCap_le_maxLen w3 S.size 0 5 hss; rw [gC]; unfold maxLen at this; omega); clear gC gB) | (at_builtin; go_must (refine wpList_append_where rfl _ _ 22 rfl 81 i0 _ 1 24 Tryz.underlying22 hi0 hz0 hz1 hz2 rfl (by decide) v acc.length us rfl (own_base (HUS.out k2 w3 WB HO3.out hWB.out _).1 (Nat.zero_le _)) ⟨_, 0, none⟩ 1 1 [.slice (some ⟨w3.heap.size, 0, none⟩) S.size CC] rfl rfl (cell_one_new _ _ _) (by simp [Value.oneCell']) (by unfold maxLen; omega) (by omega) ?_)))
          intro v' w4 hO4 hU4 hN4 hW4
          obtain ⟨hA1, hA2⟩ := HUS.out k2 w3 WB HO3.out hWB.out (.cells #[.slice (some ⟨w3.heap.size, 0, none⟩) S.size CC] 81)
          have hs3 : w3.heap.size = wr.heap.size := HO3.out.size
          have hsB := hWB.out.size
          have hcs : WB.heap.size = w3.heap.size + 1 ∨ w3.heap.size ≤ WB.heap.size := .inr hsB
          have hSB2 := hSB.out
          have hlt3 : w3.heap.size < WB.heap.size := by
            obtain ⟨b, o, e, hl, _⟩ := hSB2.2 (by rw [HSZ.out]; exact List.length_pos_iff.2 HNE.out)
            simp only [Option.some.injEq, Addr.mk.injEq] at e
            omega
          have hvlt : ∀ x, v.ownBlock = some x → w1.heap.size ≤ x ∧ x < wr.heap.size := fun x hx => HUO.out.lt x hx
          rw [HSZ.out, HTT.out] at hSB2
          have hrec : Rec (WB.alloc (.cells #[.slice (some ⟨w3.heap.size, 0, none⟩) S.size CC] 81)) w1.heap.size v.ownBlock (.slice (some ⟨w3.heap.size, 0, none⟩) S.size CC) t :=
            ⟨w3.heap.size, CC, by rw [HSZ.out], hSB2.below ((Below.refl _ _).alloc (Nat.le_refl _) _), by omega, by simp; omega, fun h => by have := (hvlt _ h).2; omega, by rw [← HSZ.out]; exact hc1, hc2⟩
          have hC4 : Rcs w4 w1.heap.size v' (acc ++ [t]) := Rcs.app (L2 := [t]) (us2 := [.slice (some ⟨w3.heap.size, 0, none⟩) S.size CC]) hA1 hA2 rfl (fun j hj => by
            have : j = 0 := by simpa using hj
            subst this
            exact ⟨_, rfl, hrec⟩) hO4.out hU4 (by simpa using hW4.out) (by simp; omega)
          have hB4 : Below w3.heap.size w3 (WB.alloc (.cells #[.slice (some ⟨w3.heap.size, 0, none⟩) S.size CC] 81)) := hWB.out.trans (((Below.refl _ _).alloc (Nat.le_refl _) _).mono hsB)
          have hR4 : Rdr w4 w.heap.size p w.heap.size ln (at_ + k) zs := (HR3.out.upd (Upd.of_below (F := fun _ => False) hB4) (fun h => h) (fun h => h)).upd hU4 (fun h => by have := (hvlt _ h).1; omega) (fun h => by have := (hvlt _ h).1; omega)
          have hBw : Below w.heap.size w w4 := (((below_drewN HB.out k2).trans (HO3.out.below (by omega))).trans (hB4.mono (by have := HB.out.size; omega))).trans (hU4.below (by have := HB.out.size; simp; omega) (fun x hx => by have := (hvlt x hx).1; omega))
          have hS4 : w1.heap.size ≤ w4.heap.size := by have := hU4.size; simp at this; omega
          have hvs4 : ∃ av cv, v' = .slice av (acc.length + 1) cv := by obtain ⟨av, cv, e, _⟩ := own_shape hO4.out; exact ⟨av, cv, e⟩
          obtain ⟨av, cv, gv⟩ := hvs
          obtain ⟨av4, cv4, gv4⟩ := hvs4
          subst gv
          subst gv4
          have HC4 := hid hC4
          have HR4 := hid hR4
          have HBw := hid hBw
          clear hO4 hU4 hN4 hW4 hA1 hA2 hrec hC4 hB4 hR4 hBw hSB2 hcv
          go_wp2_with fail
          go_roundw
          case rel => exact hid ⟨at_ + k, acc ++ [t], f - 1, HR4.out, HC4.out, by simp; omega, by omega, HF.out, HBw.out, hS4⟩
          case measure => simp [slen]; omega
      · have he' : ¬ (e : Int) = 0 := by omega
        have HF : Hid (recsOf zs = []) := hid (by rw [HST.out, if_pos (Or.inl he)])
        clear HST
        go_wp2_with (first | (go_at_call 197; refine kl.out.mono ?_; rintro r w2 ⟨rfl, k2, rfl⟩) | (go_at_call 144; refine (kt.out k2).mono ?_; rintro r w3 ⟨rfl, hR3, hO3⟩; have HO3 := hid hO3; clear hR3 hO3))
        go_ret
        refine ⟨_, rfl, by rw [HF.out]; exact Rcs.nil _ _, (below_drewN HB.out k2).trans (HO3.out.below (by omega))⟩

end Go.Proofs.YtbgommpdmnbplaaGreatDoor
