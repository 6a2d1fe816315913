/- What a step of the pair does: both disks answer alike, and hold the same. -/
import Derived.Test.YtcophmafkpbdaaaR2all
import Derived.Deep.RegionHeld3
import Derived.Deep.RegionWith
import Derived.Deep.RegionLaw
import Derived.Deep.DeepCutAuto
import Derived.Deep.CutBlock
namespace Go.Proofs.Ytcophmafkpbdaaa
open Go.RowKit
set_option linter.unusedVariables false

/-- A world whose order is drawn has the same memory: whichever way it is told. -/
theorem undrew {X w6 : World} {Y : World} (h : Below Y.heap.size Y w6) (hY : Y = X ∨ Y = X.drew := by first | exact .inr rfl | exact .inl rfl) : Below X.heap.size X w6 := by
  rcases hY with rfl | rfl
  · exact h
  · exact ⟨h.os, h.tape, h.output, h.size, h.block⟩
theorem undrewU {F : Nat → Prop} {X w6 : World} {Y : World} (h : Upd F Y w6) (hY : Y = X ∨ Y = X.drew := by first | exact .inr rfl | exact .inl rfl) : Upd F X w6 := by
  rcases hY with rfl | rfl
  · exact h
  · exact ⟨h.os, h.tape, h.output, h.size, h.block⟩
theorem own_drew {w : World} {B e size n : Nat} {v : Value} {xs : List Value} (h : w.ownsRow B e size v n xs) : w.drew.ownsRow B e size v n xs := own_below h ((Below.refl _ w).drew)

theorem upd_cells (g o : Nat) (cs : List Value) : ∀ (w : World), Upd (· = g) w (w.setCells g o cs) := by
  induction cs generalizing o with
  | nil => intro w; exact Upd.refl _ _
  | cons c cs ih => intro w; exact (Upd.setCell (F := (· = g)) w ⟨g, o, none⟩ c rfl).trans (ih (o + 1) _) (fun _ _ h => h)

theorem clear_given {w : World} {B : Nat} {av : Option Addr} {lb cv : Nat} {zs : List Value} (ho : w.ownsRow B 5 1 (.slice av lb cv) lb zs) : ∃ w9, (∀ ty, (Builtin.clear_ #[35] ty #[.slice av lb cv]).run Try.prog w = .ok (.tuple #[]) w9) ∧ (w9 = w ∨ ∃ g, av = some ⟨g, 0, none⟩ ∧ Upd (· = g) w w9) := by
  rcases Nat.eq_zero_or_pos lb with h0 | h0
  · subst h0
    refine ⟨w, fun ty => ?_, .inl rfl⟩
    cases av <;> simp [Builtin.clear_, run_underlying Try.underlying35]
  · rcases ho.2 with ⟨e, h1⟩ | ⟨g, cap, cur, e, rest⟩
    · omega
    · injection e with e1 e2 e3
      subst e1
      have hl := ho.1
      refine ⟨w.setCells g 0 (List.replicate lb (.int .u8 0)), fun ty => Lib.run_clear_slice (P := Try.prog) w 35 5 ty (.int .u8 0) Try.underlying35 Try.zeroValue5 rfl rfl g 0 lb cv h0 (fun j hj => ?_) (fun j hj => ?_), .inr ⟨g, rfl, upd_cells _ _ _ _⟩⟩
      · rw [Nat.zero_add, ho.cellAt _ (by omega), List.getElem?_eq_getElem (by omega)]; rfl
      · rw [Nat.zero_add]; exact ho.frozenAt j

theorem giv_some {w : World} {B lb cv : Nat} {av : Option Addr} {zs : List Value} (ho : w.ownsRow B 5 1 (.slice av lb cv) lb zs) (hl : 0 < lb) : ∃ g, av = some ⟨g, 0, none⟩ ∧ B ≤ g := by
  rcases ho.2 with ⟨e, h0⟩ | ⟨g, cap, cur, e, hb, rest⟩
  · omega
  · injection e with e1
    exact ⟨g, e1, hb⟩

theorem args_ok {w W1 wF : World} {pp p q B lb cv nk cp cb : Nat} {d : Dk} {x : Rk} {M N : List Nat} {av kp ab : Option Addr} {bz zs : List Int} (HT : Two w pp d p x q M B) (HTF : Two wF pp d p x q (N ++ M) B) (HR : Rdy W1 wF av lb cv bz kp nk cp zs) (hW : w.heap.size < W1.heap.size) (hSB : Src w ab lb bz) (hbF : Below w.heap.size w wF) (hbB : 0 < lb → ∀ b o, ab = some ⟨b, o, none⟩ → b < B) (hcb : lb ≤ cb) (hcb2 : cb ≤ 9223372036854775807) :
    (lb = 128 → ∃ a, av = some a ∧ Src wF.drew (some a) 128 bz ∧ a.block ∉ d.foot p) ∧ (lb = 128 → ∃ a, ab = some a ∧ Byt wF.drew (N ++ M) (.slice (some a) 128 cb) bz) := by
  constructor
  · intro hl
    subst hl
    obtain ⟨g, rfl, hg⟩ := giv_some HR.giv (by omega)
    exact ⟨_, rfl, (own_src HR.giv).below ((Below.refl _ wF).drew), fun hx => by have := HT.dk.lt g hx; omega⟩
  · intro hl
    subst hl
    obtain ⟨b, o, rfl, _, _⟩ := hSB.2 (by omega)
    exact ⟨_, rfl, ⟨b, o, none⟩, cb, rfl, (hSB.below hbF).below ((Below.refl _ wF).drew), fun hx => by have h1 := HTF.new b hx; have h2 := hbB (by omega) b o rfl; omega, hcb, hcb2⟩

theorem wiped {w wF w8 w9 : World} {pp p q B K lb cv : Nat} {d d' : Dk} {x x' : Rk} {M N M' : List Nat} {av : Option Addr} (hst : Stp wF.drew w8 pp d p x q (N ++ M) B K d' p x' q M') (hback : Stp w w8 pp d p x q M B K d' p x' q M') (hN : ∀ k ∈ N, w.heap.size < k ∧ k < wF.heap.size) (hT : ∀ k, Turns d p x q pp k → k < w.heap.size) (gN : N = vb (.slice av lb cv)) (hc : w9 = w8 ∨ ∃ g, av = some ⟨g, 0, none⟩ ∧ Upd (· = g) w8 w9) (hs8 : w.heap.size < w8.heap.size) :
    Stp w w9 pp d p x q M B K d' p x' q M' ∧ ∀ o, w9.cell? ⟨w.heap.size, o, none⟩ = w8.cell? ⟨w.heap.size, o, none⟩ := by
  rcases hc with rfl | ⟨g, rfl, u⟩
  · exact ⟨hback, fun _ => rfl⟩
  · have hgN : g ∈ N := by rw [gN]; simp [vb, Value.ownBlock]
    have hg := hN g hgN
    refine ⟨hback.wipe (hst.sub g (List.mem_append.2 (.inl hgN))) (by omega) (fun ht => ?_) u, fun o => World.cell?_of_block (a := ⟨w.heap.size, o, none⟩) (u.block _ hs8 (fun e => by have e' : w.heap.size = g := e; omega))⟩
    rcases hst.fresh g ht with h1 | h1
    · have := hT g h1; omega
    · have h2 : wF.heap.size ≤ g := h1; omega

set_option maxHeartbeats 8000000 in
set_option maxRecDepth 20000 in
theorem does_any (pp p q B K : Nat) (d : Dk) (x : Rk) (M : List Nat) (x0 x1 x2 x3 : Int) (ab kb : Option Addr) (lb cb nk ck : Nat) (bz zs : List Int) (w : World) (h : Two w pp d p x q M B) (hs : Same d x) (hK : x.E.length ≤ K) (hK2 : K ≤ 1790000000000)
    (hx0 : -9223372036854775808 ≤ x0 ∧ x0 ≤ 9223372036854775807) (hx3 : x3 ≤ 9223372036854775807) (hb : Src w ab lb bz) (hlb : lb ≤ 140737488355328) (hcb : lb ≤ cb) (hcb2 : cb ≤ 9223372036854775807) (hbn : ab = none → lb = 0 ∧ cb = 0)
    (hz : IntsZ w kb zs) (hnk : zs.length = nk) (hnk2 : nk ≤ 17592186044416) (hck : nk ≤ ck) (hck2 : ck ≤ 9223372036854775807) (hkn : kb = none → nk = 0 ∧ ck = 0) (hbB : 0 < lb → ∀ b o, ab = some ⟨b, o, none⟩ → b < B) (hkB : 0 < nk → ∀ b o, kb = some ⟨b, o, none⟩ → b < B) :
    Calls Try.prog 11 #[.pointer (some ⟨pp, 0, none⟩), .agg #[.int .i64 x0, .int .i64 x1, .int .i64 x2, .int .i64 x3, .slice ab lb cb, .slice kb nk ck]] w fun e w' => e = .returned (.bool true) ∧ ∃ (d' : Dk) (p' : Nat) (x' : Rk) (q' : Nat) (M' : List Nat), Stp w w' pp d p x q M B K d' p' x' q' M' := by
  have hpl := h.lt pp h.pM
  have HT := hid h
  have HS := hid hs
  have HSB := hid hb
  have HZ := hid hz
  have HBN := hid hbn
  have HKN := hid hkn
  have HBB := hid hbB
  have HKB := hid hkB
  have HNK := hid hnk
  obtain ⟨m, gm⟩ : ∃ m, m = x.E.length := ⟨_, rfl⟩
  rw [← gm] at hK
  have GM := hid gm
  clear h hs hb hz hbn hkn hbB hkB gm hnk
  go_enter Try.func11, Try.ntmps11
  go_upto_region 1 with fail
  obtain ⟨W1, gW1⟩ : ∃ W1, W1 = w.alloc (.cells #[.int .i64 x0, .int .i64 x1, .int .i64 x2, .int .i64 x3, .slice ab lb cb, .slice kb nk ck] 38) := ⟨_, rfl⟩
  rw [← gW1]
  have hb1 : Below w.heap.size w W1 := by rw [gW1]; exact one_alloc _ _
  have hs1 : w.heap.size < W1.heap.size := by rw [gW1]; simp
  have e0 : W1.cell? ⟨w.heap.size, 0, none⟩ = some (.int .i64 x0) := by rw [gW1]; simp [go_sem]
  have e1 : W1.cell? ⟨w.heap.size, 1, none⟩ = some (.int .i64 x1) := by rw [gW1]; simp [go_sem]
  have e2 : W1.cell? ⟨w.heap.size, 2, none⟩ = some (.int .i64 x2) := by rw [gW1]; simp [go_sem]
  have e3 : W1.cell? ⟨w.heap.size, 3, none⟩ = some (.int .i64 x3) := by rw [gW1]; simp [go_sem]
  have e4 : W1.cell? ⟨w.heap.size, 4, none⟩ = some (.slice ab lb cb) := by rw [gW1]; simp [go_sem]
  have e5 : W1.cell? ⟨w.heap.size, 5, none⟩ = some (.slice kb nk ck) := by rw [gW1]; simp [go_sem]
  have HB0 : Hid (Below W1.heap.size W1 W1.drew) := hid (Below.refl _ _).drew
  have kc : Hid (∀ wx, Below W1.heap.size W1 wx → Calls Try.prog 21 #[.slice ab lb cb] wx fun e w' => ∃ (av : Option Addr) (cv : Nat), e = .returned (.slice av lb cv) ∧ w'.ownsRow wx.heap.size 5 1 (.slice av lb cv) lb (bz.map (Value.int .u8)) ∧ Below wx.heap.size wx w') := hid (fun wx hbx => clone_opt ab lb cb bz wx (HSB.out.below (hb1.trans (hbx.mono hb1.size))) hlb HBN.out)
  have HB1 := hid hb1
  clear gW1 hb1
  go_cut [5, 6] (fun v5 v6 wx => ∃ av cv kp cp, v5 = .slice av lb cv ∧ v6 = .slice kp nk cp ∧ Hid (Rdy W1 wx av lb cv bz kp nk cp zs))
  case first =>
    go_region_law (first
      | (go_simp; go_at_call 21; refine (kc.out _ (by first | exact HB0.out | exact ((Below.refl _ W1).alloc (Nat.le_refl _) _).drew | exact HBP.out)).mono ?_; rintro e w6 ⟨av, cv, rfl, ho6, hb6⟩; have HOC := hid ho6; have hbu := undrew hb6; have HBC := hid hbu; have hl6 : w.heap.size < w6.heap.size := (by first | exact Nat.lt_of_lt_of_le hs1 hbu.size | exact Nat.lt_of_lt_of_le hs1 (Nat.le_trans (by simp) hbu.size) | exact Nat.lt_of_lt_of_le hs1 (Nat.le_trans HBP.out.size hbu.size)); have g5 : w6.cell? ⟨w.heap.size, 5, none⟩ = some (.slice kb nk ck) := (by first | exact (hbu.cell (p := ⟨w.heap.size, 5, none⟩) hs1).trans e5 | exact (hbu.cell (p := ⟨w.heap.size, 5, none⟩) (Nat.lt_of_lt_of_le hs1 (by simp))).trans (((one_alloc W1 _).cell (p := ⟨w.heap.size, 5, none⟩) hs1).trans e5) | exact (hbu.cell (p := ⟨w.heap.size, 5, none⟩) (Nat.lt_of_lt_of_le hs1 HBP.out.size)).trans ((HBP.out.cell (p := ⟨w.heap.size, 5, none⟩) hs1).trans e5)); clear ho6 hb6 hbu)
      | (refine step_append_keep (by rfl) _ _ (by rfl) _ nk ck kb zs (by simp [Act.eval]; rfl) (by simp [Act.eval]) (by first | exact World.ownsRow_made _ #[] 0 (Nat.zero_le _) (by unfold maxLen; omega) rfl | exact own_drew (World.ownsRow_made W1 #[] 0 (Nat.zero_le _) (by unfold maxLen; omega) rfl) | exact own_below (World.ownsRow_made W1 #[] 0 (Nat.zero_le _) (by unfold maxLen; omega) rfl) HBC.out) (by first | exact HZ.out.below (HB1.out.trans ((((Below.refl _ W1).alloc (Nat.le_refl _) _).drew).mono HB1.out.size)) | exact HZ.out.below (HB1.out.trans ((HBC.out.alloc HBC.out.size _).mono HB1.out.size)) | exact HZ.out.below (HB1.out.trans (((one_alloc W1 _).trans (HBC.out.mono (by simp))).mono HB1.out.size))) HNK.out HKN.out hnk2 ?_; intro kp cp w8 HPK HPU0; have HPU := hid (undrewU HPU0.out); have HBP : Hid (Below W1.heap.size W1 w8) := (by first | exact hid ((one_alloc W1 _).trans (HPU.out.below (by simp) (fun k hk => Nat.le_of_eq (show W1.heap.size = k from (show k = W1.heap.size from hk).symm)))) | exact hid ((rdy1 HBC.out HOC.out HPK.out HPU.out).bel) | exact hid ((rdy2 (Below.refl _ W1) HBC.out HOC.out HPK.out HPU.out).bel)); have hl8 : w.heap.size < w8.heap.size := Nat.lt_of_lt_of_le hs1 HBP.out.size; have g5 : w8.cell? ⟨w.heap.size, 5, none⟩ = some (.slice kb nk ck) := (HBP.out.cell (p := ⟨w.heap.size, 5, none⟩) hs1).trans e5; have g4 : w8.cell? ⟨w.heap.size, 4, none⟩ = some (.slice ab lb cb) := (HBP.out.cell (p := ⟨w.heap.size, 4, none⟩) hs1).trans e4; clear HPU0))
    all_goals
      go_wp2_with fail
      go_meet
      case rel => exact ⟨av, cv, kp, cp, rfl, rfl, by first | exact hid (rdy1 HBC.out HOC.out HPK.out HPU.out) | exact hid (rdy2 (Below.refl _ W1) HBC.out HOC.out HPK.out HPU.out) | exact hid (rdy3 (Below.refl _ W1) HPU.out HPK.out HBC.out HOC.out)⟩
  case rest =>
    obtain ⟨av, cv, kp, cp, rfl, rfl, HR⟩ := hcut
    obtain ⟨wF, gwF⟩ : ∃ wF, wF = wc := ⟨_, rfl⟩
    rw [← gwF] at HR ⊢
    clear gwF
    have hbF : Below w.heap.size w wF := HB1.out.trans (HR.out.bel.mono HB1.out.size)
    have hsF : w.heap.size < wF.heap.size := Nat.lt_of_lt_of_le hs1 HR.out.bel.size
    have f0 := (HR.out.bel.cell (p := ⟨w.heap.size, 0, none⟩) hs1).trans e0
    have f1 := (HR.out.bel.cell (p := ⟨w.heap.size, 1, none⟩) hs1).trans e1
    have f2 := (HR.out.bel.cell (p := ⟨w.heap.size, 2, none⟩) hs1).trans e2
    have f3 := (HR.out.bel.cell (p := ⟨w.heap.size, 3, none⟩) hs1).trans e3
    have f4 := (HR.out.bel.cell (p := ⟨w.heap.size, 4, none⟩) hs1).trans e4
    have f5 := (HR.out.bel.cell (p := ⟨w.heap.size, 5, none⟩) hs1).trans e5
    -- the given bytes' block is written into, too
    obtain ⟨N, gN⟩ : ∃ N, N = vb (.slice av lb cv) := ⟨_, rfl⟩
    have hN : ∀ k ∈ N, w.heap.size < k ∧ k < wF.heap.size := fun k hk => by
      rw [gN] at hk
      have h1 := HR.out.giv.lt k (by simpa [vb] using hk)
      exact ⟨Nat.lt_of_lt_of_le hs1 h1.1, h1.2⟩
    have HTF : Hid (Two wF pp d p x q (N ++ M) B) := hid (HT.out.more hbF (fun k hk => ⟨Nat.le_of_lt (hN k hk).1, (hN k hk).2⟩))
    have HN := hid hN
    have GN := hid gN
    have HBF := hid hbF
    have q0 : wF.cell? ⟨pp, 0, none⟩ = some (.pointer (some ⟨p, 0, none⟩)) := by rw [cell_of_row wF pp 0 _ _ _ HTF.out.cells]; rfl
    have q1 : wF.cell? ⟨pp, 1, none⟩ = some (.pointer (some ⟨q, 0, none⟩)) := by rw [cell_of_row wF pp 1 _ _ _ HTF.out.cells]; rfl
    have hplF : pp < wF.heap.size := Nat.lt_trans hpl hsF
    -- what a step leaves of the cells that are read again
    have HKP : Hid (∀ w8 d' p' x' q' M', Stp wF.drew w8 pp d p x q (N ++ M) B K d' p' x' q' M' → Stp w w8 pp d p x q M B K d' p' x' q' M') := hid (fun w8 d' p' x' q' M' hst => Stp.back (N := N) hst (hbF.trans ((Below.refl _ wF).drew.mono hbF.size)) (fun k hk => Nat.le_of_lt (hN k hk).1))
    have HTL : Hid (∀ k, Turns d p x q pp k → k < w.heap.size) := hid (fun k hk => HT.out.lt k (HT.out.turns k hk))
    have HCL : Hid (∀ (F : Nat → Prop) w8 b o, Upd F wF.drew w8 → (∀ k, F k → k < w.heap.size) → w.heap.size ≤ b → b < wF.heap.size → w8.cell? ⟨b, o, none⟩ = wF.cell? ⟨b, o, none⟩) := hid (fun F w8 b o u hF h1 h2 => World.cell?_of_block (a := ⟨b, o, none⟩) (u.block b h2 (fun hf => by have := hF b hf; omega)))
    have hcap := own_cap HR.out.giv
    clear e0 e1 e2 e3 e4 e5 kc HB0 hN gN hbF
    go_upto_block 0 with fail
    obtain ⟨s, hsw, hs7⟩ : ∃ s : Nat, wrap64 ((IntKind.u64.wrap x0).tmod 7) = (s : Int) ∧ s < 7 := by
      have h0 : 0 ≤ IntKind.u64.wrap x0 ∧ IntKind.u64.wrap x0 < 18446744073709551616 := by rw [IntKind.wrap_u64]; omega
      rw [Int.tmod_eq_emod_of_nonneg h0.1]
      refine ⟨(IntKind.u64.wrap x0 % 7).toNat, ?_, by omega⟩
      unfold wrap64; omega
    rw [hsw]
    clear hsw
    go_cut [7] (fun v7 wx => v7 = .bool true ∧ wx.cell? ⟨w.heap.size, 1, none⟩ = some (.int .i64 x1) ∧ ∃ (d' : Dk) (p' : Nat) (x' : Rk) (q' : Nat) (M' : List Nat), Hid (Stp w wx pp d p x q M B K d' p' x' q' M'))
    case first =>
      rcases (show s = 0 ∨ s = 1 ∨ s = 2 ∨ s = 3 ∨ s = 4 ∨ s = 5 ∨ s = 6 by omega) with rfl | rfl | rfl | rfl | rfl | rfl | rfl
      · have hargs := args_ok HT.out HTF.out HR.out hs1 HSB.out HBF.out HBB.out hcb hcb2
        have kw := hid (write_both (K := K) (HTF.out.below ((Below.refl _ wF).drew)) HS.out (by rw [← GM.out]; exact hK) hK2 x1 av ab lb cv cb bz hargs.1 hargs.2)
        clear hargs
        go_wp2_with fail
        go_region_held3 (fun wx => wx.cell? ⟨pp, 0, none⟩ = some (.pointer (some ⟨p, 0, none⟩)) ∧ wx.cell? ⟨pp, 1, none⟩ = some (.pointer (some ⟨q, 0, none⟩)) ∧ wx.cell? ⟨w.heap.size, 1, none⟩ = some (.int .i64 x1) ∧ wx.cell? ⟨w.heap.size, 4, none⟩ = some (.slice ab lb cb)) (go_keep) (first | (go_at_call 28; refine kw.out.mono ?_; rintro e w7 ⟨r, rfl, hu7, k7⟩; have a0 : w7.cell? ⟨pp, 0, none⟩ = some (.pointer (some ⟨p, 0, none⟩)) := (World.cell?_of_block (a := ⟨pp, 0, none⟩) (hu7.block pp hplF HT.out.pd)).trans q0; have a1 : w7.cell? ⟨pp, 1, none⟩ = some (.pointer (some ⟨q, 0, none⟩)) := (World.cell?_of_block (a := ⟨pp, 1, none⟩) (hu7.block pp hplF HT.out.pd)).trans q1; have b1 : w7.cell? ⟨w.heap.size, 1, none⟩ = some (.int .i64 x1) := (HCL.out _ w7 w.heap.size 1 hu7 (fun k hk => HT.out.dk.lt k hk) (Nat.le_refl _) hsF).trans f1; have b4 : w7.cell? ⟨w.heap.size, 4, none⟩ = some (.slice ab lb cb) := (HCL.out _ w7 w.heap.size 4 hu7 (fun k hk => HT.out.dk.lt k hk) (Nat.le_refl _) hsF).trans f4; have K7 := hid k7; clear hu7 k7) | (go_at_call 29; refine K7.out.mono ?_; rintro e w8 ⟨rfl, hfin⟩; obtain ⟨d', x', M', hst⟩ := hfin; have c0 : w8.cell? ⟨pp, 0, none⟩ = some (.pointer (some ⟨p, 0, none⟩)) := (by rw [cell_of_row w8 pp 0 _ _ _ hst.two.cells]; rfl); have c1 : w8.cell? ⟨pp, 1, none⟩ = some (.pointer (some ⟨q, 0, none⟩)) := (by rw [cell_of_row w8 pp 1 _ _ _ hst.two.cells]; rfl); have d1 : w8.cell? ⟨w.heap.size, 1, none⟩ = some (.int .i64 x1) := (HCL.out _ w8 w.heap.size 1 hst.upd HTL.out (Nat.le_refl _) hsF).trans f1; have d4 : w8.cell? ⟨w.heap.size, 4, none⟩ = some (.slice ab lb cb) := (HCL.out _ w8 w.heap.size 4 hst.upd HTL.out (Nat.le_refl _) hsF).trans f4; have ho8 := hst.upd.own (own_drew HR.out.giv) (fun k hk ht => (by have h1 := HTL.out k ht; have h2 := (HR.out.giv.lt k hk).1; omega)); obtain ⟨w9, hclr, hcc⟩ := clear_given ho8; have hs8 : w.heap.size < w8.heap.size := Nat.lt_of_lt_of_le hsF hst.upd.size; have hwp := wiped hst (HKP.out _ _ _ _ _ _ hst) HN.out HTL.out GN.out hcc hs8; have HWP := hid hwp; clear ho8 hcc hwp; have HST := hid hst; clear hst))
        go_wp2_with fail
        go_meet
        case rel => exact ⟨rfl, ((HWP.out).2 1).trans d1, _, _, _, _, _, hid (HWP.out).1⟩
      · have hargs := args_ok HT.out HTF.out HR.out hs1 HSB.out HBF.out HBB.out hcb hcb2
        have kw := hid (write_both (K := K) (HTF.out.below ((Below.refl _ wF).drew)) HS.out (by rw [← GM.out]; exact hK) hK2 x1 av ab lb cv cb bz hargs.1 hargs.2)
        clear hargs
        go_wp2_with fail
        go_region_held3 (fun wx => wx.cell? ⟨pp, 0, none⟩ = some (.pointer (some ⟨p, 0, none⟩)) ∧ wx.cell? ⟨pp, 1, none⟩ = some (.pointer (some ⟨q, 0, none⟩)) ∧ wx.cell? ⟨w.heap.size, 1, none⟩ = some (.int .i64 x1) ∧ wx.cell? ⟨w.heap.size, 4, none⟩ = some (.slice ab lb cb)) (go_keep) (first | (go_at_call 28; refine kw.out.mono ?_; rintro e w7 ⟨r, rfl, hu7, k7⟩; have a0 : w7.cell? ⟨pp, 0, none⟩ = some (.pointer (some ⟨p, 0, none⟩)) := (World.cell?_of_block (a := ⟨pp, 0, none⟩) (hu7.block pp hplF HT.out.pd)).trans q0; have a1 : w7.cell? ⟨pp, 1, none⟩ = some (.pointer (some ⟨q, 0, none⟩)) := (World.cell?_of_block (a := ⟨pp, 1, none⟩) (hu7.block pp hplF HT.out.pd)).trans q1; have b1 : w7.cell? ⟨w.heap.size, 1, none⟩ = some (.int .i64 x1) := (HCL.out _ w7 w.heap.size 1 hu7 (fun k hk => HT.out.dk.lt k hk) (Nat.le_refl _) hsF).trans f1; have b4 : w7.cell? ⟨w.heap.size, 4, none⟩ = some (.slice ab lb cb) := (HCL.out _ w7 w.heap.size 4 hu7 (fun k hk => HT.out.dk.lt k hk) (Nat.le_refl _) hsF).trans f4; have K7 := hid k7; clear hu7 k7) | (go_at_call 29; refine K7.out.mono ?_; rintro e w8 ⟨rfl, hfin⟩; obtain ⟨d', x', M', hst⟩ := hfin; have c0 : w8.cell? ⟨pp, 0, none⟩ = some (.pointer (some ⟨p, 0, none⟩)) := (by rw [cell_of_row w8 pp 0 _ _ _ hst.two.cells]; rfl); have c1 : w8.cell? ⟨pp, 1, none⟩ = some (.pointer (some ⟨q, 0, none⟩)) := (by rw [cell_of_row w8 pp 1 _ _ _ hst.two.cells]; rfl); have d1 : w8.cell? ⟨w.heap.size, 1, none⟩ = some (.int .i64 x1) := (HCL.out _ w8 w.heap.size 1 hst.upd HTL.out (Nat.le_refl _) hsF).trans f1; have d4 : w8.cell? ⟨w.heap.size, 4, none⟩ = some (.slice ab lb cb) := (HCL.out _ w8 w.heap.size 4 hst.upd HTL.out (Nat.le_refl _) hsF).trans f4; have ho8 := hst.upd.own (own_drew HR.out.giv) (fun k hk ht => (by have h1 := HTL.out k ht; have h2 := (HR.out.giv.lt k hk).1; omega)); obtain ⟨w9, hclr, hcc⟩ := clear_given ho8; have hs8 : w.heap.size < w8.heap.size := Nat.lt_of_lt_of_le hsF hst.upd.size; have hwp := wiped hst (HKP.out _ _ _ _ _ _ hst) HN.out HTL.out GN.out hcc hs8; have HWP := hid hwp; clear ho8 hcc hwp; have HST := hid hst; clear hst))
        go_wp2_with fail
        go_meet
        case rel => exact ⟨rfl, ((HWP.out).2 1).trans d1, _, _, _, _, _, hid (HWP.out).1⟩
      · have hargs := args_ok HT.out HTF.out HR.out hs1 HSB.out HBF.out HBB.out hcb hcb2
        have kw := hid (write_both (K := K) (HTF.out.below ((Below.refl _ wF).drew)) HS.out (by rw [← GM.out]; exact hK) hK2 x1 av ab lb cv cb bz hargs.1 hargs.2)
        clear hargs
        go_wp2_with fail
        go_region_held3 (fun wx => wx.cell? ⟨pp, 0, none⟩ = some (.pointer (some ⟨p, 0, none⟩)) ∧ wx.cell? ⟨pp, 1, none⟩ = some (.pointer (some ⟨q, 0, none⟩)) ∧ wx.cell? ⟨w.heap.size, 1, none⟩ = some (.int .i64 x1) ∧ wx.cell? ⟨w.heap.size, 4, none⟩ = some (.slice ab lb cb)) (go_keep) (first | (go_at_call 28; refine kw.out.mono ?_; rintro e w7 ⟨r, rfl, hu7, k7⟩; have a0 : w7.cell? ⟨pp, 0, none⟩ = some (.pointer (some ⟨p, 0, none⟩)) := (World.cell?_of_block (a := ⟨pp, 0, none⟩) (hu7.block pp hplF HT.out.pd)).trans q0; have a1 : w7.cell? ⟨pp, 1, none⟩ = some (.pointer (some ⟨q, 0, none⟩)) := (World.cell?_of_block (a := ⟨pp, 1, none⟩) (hu7.block pp hplF HT.out.pd)).trans q1; have b1 : w7.cell? ⟨w.heap.size, 1, none⟩ = some (.int .i64 x1) := (HCL.out _ w7 w.heap.size 1 hu7 (fun k hk => HT.out.dk.lt k hk) (Nat.le_refl _) hsF).trans f1; have b4 : w7.cell? ⟨w.heap.size, 4, none⟩ = some (.slice ab lb cb) := (HCL.out _ w7 w.heap.size 4 hu7 (fun k hk => HT.out.dk.lt k hk) (Nat.le_refl _) hsF).trans f4; have K7 := hid k7; clear hu7 k7) | (go_at_call 29; refine K7.out.mono ?_; rintro e w8 ⟨rfl, hfin⟩; obtain ⟨d', x', M', hst⟩ := hfin; have c0 : w8.cell? ⟨pp, 0, none⟩ = some (.pointer (some ⟨p, 0, none⟩)) := (by rw [cell_of_row w8 pp 0 _ _ _ hst.two.cells]; rfl); have c1 : w8.cell? ⟨pp, 1, none⟩ = some (.pointer (some ⟨q, 0, none⟩)) := (by rw [cell_of_row w8 pp 1 _ _ _ hst.two.cells]; rfl); have d1 : w8.cell? ⟨w.heap.size, 1, none⟩ = some (.int .i64 x1) := (HCL.out _ w8 w.heap.size 1 hst.upd HTL.out (Nat.le_refl _) hsF).trans f1; have d4 : w8.cell? ⟨w.heap.size, 4, none⟩ = some (.slice ab lb cb) := (HCL.out _ w8 w.heap.size 4 hst.upd HTL.out (Nat.le_refl _) hsF).trans f4; have ho8 := hst.upd.own (own_drew HR.out.giv) (fun k hk ht => (by have h1 := HTL.out k ht; have h2 := (HR.out.giv.lt k hk).1; omega)); obtain ⟨w9, hclr, hcc⟩ := clear_given ho8; have hs8 : w.heap.size < w8.heap.size := Nat.lt_of_lt_of_le hsF hst.upd.size; have hwp := wiped hst (HKP.out _ _ _ _ _ _ hst) HN.out HTL.out GN.out hcc hs8; have HWP := hid hwp; clear ho8 hcc hwp; have HST := hid hst; clear hst))
        go_wp2_with fail
        go_meet
        case rel => exact ⟨rfl, ((HWP.out).2 1).trans d1, _, _, _, _, _, hid (HWP.out).1⟩
      · have kw := hid (barrier_both (K := K) (HTF.out.below ((Below.refl _ wF).drew)) HS.out (by rw [← GM.out]; exact hK))
        go_wp2_with fail
        go_region_held3 (fun wx => wx.cell? ⟨pp, 0, none⟩ = some (.pointer (some ⟨p, 0, none⟩)) ∧ wx.cell? ⟨pp, 1, none⟩ = some (.pointer (some ⟨q, 0, none⟩))) (go_keep) (first | (go_at_call 30; refine kw.out.mono ?_; rintro e w7 ⟨rfl, hu7, k7⟩; have a0 : w7.cell? ⟨pp, 0, none⟩ = some (.pointer (some ⟨p, 0, none⟩)) := (World.cell?_of_block (a := ⟨pp, 0, none⟩) (hu7.block pp hplF HT.out.pd)).trans q0; have a1 : w7.cell? ⟨pp, 1, none⟩ = some (.pointer (some ⟨q, 0, none⟩)) := (World.cell?_of_block (a := ⟨pp, 1, none⟩) (hu7.block pp hplF HT.out.pd)).trans q1; have b1 : w7.cell? ⟨w.heap.size, 1, none⟩ = some (.int .i64 x1) := (HCL.out _ w7 w.heap.size 1 hu7 (fun k hk => HT.out.dk.lt k hk) (Nat.le_refl _) hsF).trans f1; have K7 := hid k7; clear hu7 k7) | (go_at_call 31; refine K7.out.mono ?_; rintro e w8 ⟨rfl, hfin⟩; obtain ⟨d', x', M', hst⟩ := hfin; have c0 : w8.cell? ⟨pp, 0, none⟩ = some (.pointer (some ⟨p, 0, none⟩)) := (by rw [cell_of_row w8 pp 0 _ _ _ hst.two.cells]; rfl); have c1 : w8.cell? ⟨pp, 1, none⟩ = some (.pointer (some ⟨q, 0, none⟩)) := (by rw [cell_of_row w8 pp 1 _ _ _ hst.two.cells]; rfl); have d1 : w8.cell? ⟨w.heap.size, 1, none⟩ = some (.int .i64 x1) := (HCL.out _ w8 w.heap.size 1 hst.upd HTL.out (Nat.le_refl _) hsF).trans f1; have HST := hid hst; clear hst))
        go_wp2_with fail
        go_meet
        case rel => exact ⟨rfl, d1, _, _, _, _, _, hid (HKP.out _ _ _ _ _ _ HST.out)⟩
      · have kw := hid (flush_both (K := K) (HTF.out.below ((Below.refl _ wF).drew)) HS.out (by rw [← GM.out]; exact hK))
        go_wp2_with fail
        go_region_held3 (fun wx => wx.cell? ⟨pp, 0, none⟩ = some (.pointer (some ⟨p, 0, none⟩)) ∧ wx.cell? ⟨pp, 1, none⟩ = some (.pointer (some ⟨q, 0, none⟩))) (go_keep) (first | (go_at_call 32; refine kw.out.mono ?_; rintro e w7 ⟨rfl, hu7, k7⟩; have a0 : w7.cell? ⟨pp, 0, none⟩ = some (.pointer (some ⟨p, 0, none⟩)) := (World.cell?_of_block (a := ⟨pp, 0, none⟩) (hu7.block pp hplF HT.out.pd)).trans q0; have a1 : w7.cell? ⟨pp, 1, none⟩ = some (.pointer (some ⟨q, 0, none⟩)) := (World.cell?_of_block (a := ⟨pp, 1, none⟩) (hu7.block pp hplF HT.out.pd)).trans q1; have b1 : w7.cell? ⟨w.heap.size, 1, none⟩ = some (.int .i64 x1) := (HCL.out _ w7 w.heap.size 1 hu7 (fun k hk => HT.out.dk.lt k hk) (Nat.le_refl _) hsF).trans f1; have K7 := hid k7; clear hu7 k7) | (go_at_call 33; refine K7.out.mono ?_; rintro e w8 ⟨rfl, hfin⟩; obtain ⟨d', x', M', hst⟩ := hfin; have c0 : w8.cell? ⟨pp, 0, none⟩ = some (.pointer (some ⟨p, 0, none⟩)) := (by rw [cell_of_row w8 pp 0 _ _ _ hst.two.cells]; rfl); have c1 : w8.cell? ⟨pp, 1, none⟩ = some (.pointer (some ⟨q, 0, none⟩)) := (by rw [cell_of_row w8 pp 1 _ _ _ hst.two.cells]; rfl); have d1 : w8.cell? ⟨w.heap.size, 1, none⟩ = some (.int .i64 x1) := (HCL.out _ w8 w.heap.size 1 hst.upd HTL.out (Nat.le_refl _) hsF).trans f1; have HST := hid hst; clear hst))
        go_wp2_with fail
        go_meet
        case rel => exact ⟨rfl, d1, _, _, _, _, _, hid (HKP.out _ _ _ _ _ _ HST.out)⟩
      · have kw := hid (crash_both (K := K) (HTF.out.below ((Below.refl _ wF).drew)) HS.out (by rw [← GM.out]; exact hK) hK2 x2 x3 kp kb nk cp ck zs (HR.out.kee.below ((Below.refl _ wF).drew)) ((HZ.out.below HBF.out).below ((Below.refl _ wF).drew)) HNK.out HR.out.kc.1 HR.out.kc.2 hck hck2 HKB.out hx3)
        go_wp2_with fail
        go_region_held3 (fun wx => wx.cell? ⟨pp, 0, none⟩ = some (.pointer (some ⟨p, 0, none⟩)) ∧ wx.cell? ⟨pp, 1, none⟩ = some (.pointer (some ⟨q, 0, none⟩)) ∧ wx.cell? ⟨w.heap.size, 2, none⟩ = some (.int .i64 x2) ∧ wx.cell? ⟨w.heap.size, 3, none⟩ = some (.int .i64 x3) ∧ wx.cell? ⟨w.heap.size, 5, none⟩ = some (.slice kb nk ck)) (go_keep) (first | (go_at_call 19; refine kw.out.mono ?_; rintro e w7 ⟨r, rfl, hu7, k7⟩; have a0 : w7.cell? ⟨pp, 0, none⟩ = some (.pointer (some ⟨p, 0, none⟩)) := (World.cell?_of_block (a := ⟨pp, 0, none⟩) (hu7.block pp hplF HT.out.pd)).trans q0; have a1 : w7.cell? ⟨pp, 1, none⟩ = some (.pointer (some ⟨q, 0, none⟩)) := (World.cell?_of_block (a := ⟨pp, 1, none⟩) (hu7.block pp hplF HT.out.pd)).trans q1; have b1 : w7.cell? ⟨w.heap.size, 1, none⟩ = some (.int .i64 x1) := (HCL.out _ w7 w.heap.size 1 hu7 (fun k hk => HT.out.dk.lt k hk) (Nat.le_refl _) hsF).trans f1; have b2 : w7.cell? ⟨w.heap.size, 2, none⟩ = some (.int .i64 x2) := (HCL.out _ w7 w.heap.size 2 hu7 (fun k hk => HT.out.dk.lt k hk) (Nat.le_refl _) hsF).trans f2; have b3 : w7.cell? ⟨w.heap.size, 3, none⟩ = some (.int .i64 x3) := (HCL.out _ w7 w.heap.size 3 hu7 (fun k hk => HT.out.dk.lt k hk) (Nat.le_refl _) hsF).trans f3; have b5 : w7.cell? ⟨w.heap.size, 5, none⟩ = some (.slice kb nk ck) := (HCL.out _ w7 w.heap.size 5 hu7 (fun k hk => HT.out.dk.lt k hk) (Nat.le_refl _) hsF).trans f5; have K7 := hid k7; clear hu7 k7) | (go_at_call 34; refine K7.out.mono ?_; rintro e w8 ⟨rfl, hfin⟩; obtain ⟨d', x', M', hst⟩ := hfin; have c0 : w8.cell? ⟨pp, 0, none⟩ = some (.pointer (some ⟨p, 0, none⟩)) := (by rw [cell_of_row w8 pp 0 _ _ _ hst.two.cells]; rfl); have c1 : w8.cell? ⟨pp, 1, none⟩ = some (.pointer (some ⟨q, 0, none⟩)) := (by rw [cell_of_row w8 pp 1 _ _ _ hst.two.cells]; rfl); have d1 : w8.cell? ⟨w.heap.size, 1, none⟩ = some (.int .i64 x1) := (HCL.out _ w8 w.heap.size 1 hst.upd HTL.out (Nat.le_refl _) hsF).trans f1; have d2 : w8.cell? ⟨w.heap.size, 2, none⟩ = some (.int .i64 x2) := (HCL.out _ w8 w.heap.size 2 hst.upd HTL.out (Nat.le_refl _) hsF).trans f2; have d3 : w8.cell? ⟨w.heap.size, 3, none⟩ = some (.int .i64 x3) := (HCL.out _ w8 w.heap.size 3 hst.upd HTL.out (Nat.le_refl _) hsF).trans f3; have d5 : w8.cell? ⟨w.heap.size, 5, none⟩ = some (.slice kb nk ck) := (HCL.out _ w8 w.heap.size 5 hst.upd HTL.out (Nat.le_refl _) hsF).trans f5; have HST := hid hst; clear hst))
        go_wp2_with fail
        go_meet
        case rel => exact ⟨rfl, d1, _, _, _, _, _, hid (HKP.out _ _ _ _ _ _ HST.out)⟩
      · have kw := hid (copy_both (K := K) (HTF.out.below ((Below.refl _ wF).drew)) HS.out (by rw [← GM.out]; exact hK) hK2)
        have z0 : wF.frozen? ⟨pp, 0, none⟩ = false := frozen_of_row wF pp 0 _ _ HTF.out.cells
        have z1 : wF.frozen? ⟨pp, 1, none⟩ = false := frozen_of_row wF pp 1 _ _ HTF.out.cells
        go_wp2_with fail
        go_region_with (first | (go_at_call 9; refine kw.out.mono ?_; rintro e w7 ⟨p', rfl, hb7, k7⟩; have a1 : w7.cell? ⟨pp, 1, none⟩ = some (.pointer (some ⟨q, 0, none⟩)) := (hb7.cell (p := ⟨pp, 1, none⟩) hplF).trans q1; have K7 := hid k7; clear hb7 k7) | (go_at_call 10; refine K7.out.mono ?_; rintro e w8 ⟨q', d', x', M', rfl, hb8, hd8, hx8, hs8, n1, n2, hap, hdM, hMM, hg8, hl8, hE8, hn8⟩; have c0 : w8.cell? ⟨pp, 0, none⟩ = some (.pointer (some ⟨p, 0, none⟩)) := (hb8.cell (p := ⟨pp, 0, none⟩) hplF).trans q0; have c1 : w8.cell? ⟨pp, 1, none⟩ = some (.pointer (some ⟨q, 0, none⟩)) := (hb8.cell (p := ⟨pp, 1, none⟩) hplF).trans q1; have y0 : w8.frozen? ⟨pp, 0, none⟩ = false := (hb8.frozen (p := ⟨pp, 0, none⟩) hplF).trans z0; have y1 : w8.frozen? ⟨pp, 1, none⟩ = false := (hb8.frozen (p := ⟨pp, 1, none⟩) hplF).trans z1; have d1 : w8.cell? ⟨w.heap.size, 1, none⟩ = some (.int .i64 x1) := (hb8.cell (p := ⟨w.heap.size, 1, none⟩) hsF).trans f1; have hcl8 := (hb8.block pp hplF).trans HTF.out.cells; have hmv := fun w9 u hc => Stp.moved (K := K) (w3 := w9) (HTF.out.below ((Below.refl _ wF).drew)) (by rw [← GM.out]; exact hK) hb8 hd8 hx8 hs8 n1 n2 hap hdM hMM hg8 hl8 hE8 hn8 u hc; have HMV := hid hmv; have HCL8 := hid hcl8; clear hb8 hd8 hx8 hs8 n1 n2 hap hdM hMM hg8 hl8 hE8 hn8 hmv hcl8))
        all_goals
          go_wp2_with fail
          go_meet
          case rel =>
            have e1 := heap_setCell_same w8 pp 0 _ _ (.pointer (some ⟨p', 0, none⟩)) HCL8.out
            have e2 := heap_setCell_same _ pp 1 _ _ (.pointer (some ⟨q', 0, none⟩)) e1
            have e3 := heap_setCell_same w8 pp 1 _ _ (.pointer (some ⟨q', 0, none⟩)) HCL8.out
            have e4 := heap_setCell_same _ pp 0 _ _ (.pointer (some ⟨p', 0, none⟩)) e3
            have hne : w.heap.size ≠ pp := by omega
            first
            | exact ⟨rfl, (by rw [cell_setCell_block _ _ _ _ _ hne, cell_setCell_block _ _ _ _ _ hne]; exact d1), _, _, _, _, _, hid (HKP.out _ _ _ _ _ _ (HMV.out _ ((Upd.setCell (F := (· = pp)) w8 ⟨pp, 0, none⟩ _ rfl).trans (Upd.setCell (F := (· = pp)) _ ⟨pp, 1, none⟩ _ rfl) (fun _ _ h => h)) (e2.trans rfl)))⟩
            | exact ⟨rfl, (by rw [cell_setCell_block _ _ _ _ _ hne, cell_setCell_block _ _ _ _ _ hne]; exact d1), _, _, _, _, _, hid (HKP.out _ _ _ _ _ _ (HMV.out _ ((Upd.setCell (F := (· = pp)) w8 ⟨pp, 1, none⟩ _ rfl).trans (Upd.setCell (F := (· = pp)) _ ⟨pp, 0, none⟩ _ rfl) (fun _ _ h => h)) (e4.trans rfl)))⟩
    case rest =>
      obtain ⟨rfl, t1, d', p', x', q', M', HST⟩ := hcut
      obtain ⟨w9, gw9⟩ : ∃ w9, w9 = wc := ⟨_, rfl⟩
      rw [← gw9] at HST t1 ⊢
      have hpl9 := HST.out.two.lt pp HST.out.two.pM
      have hs9 : w.heap.size < w9.heap.size := World.block_lt_of_cell? w9 ⟨w.heap.size, 1, none⟩ t1
      have r0 : w9.cell? ⟨pp, 0, none⟩ = some (.pointer (some ⟨p', 0, none⟩)) := by rw [cell_of_row w9 pp 0 _ _ _ HST.out.two.cells]; rfl
      have r1 : w9.cell? ⟨pp, 1, none⟩ = some (.pointer (some ⟨q', 0, none⟩)) := by rw [cell_of_row w9 pp 1 _ _ _ HST.out.two.cells]; rfl
      have kr := hid (read_both (HST.out.two.below ((Below.refl _ w9).drew)) HST.out.same x1)
      have hcnt := HST.out.cnt
      have ksd := hid (fun wx (hb : Below w9.heap.size w9 wx) => same_two (HST.out.two.below hb) HST.out.same (by omega))
      clear gw9 hcnt
      go_wp2_with fail
      go_region_held3 (fun wx => wx.cell? ⟨pp, 0, none⟩ = some (.pointer (some ⟨p', 0, none⟩)) ∧ wx.cell? ⟨w.heap.size, 1, none⟩ = some (.int .i64 x1)) (go_keep) (first | (go_at_call 35; refine kr.out.mono ?_; rintro e wA ⟨ar, nr, cr, E, rfl, hbA, kA⟩; have hA0 : wA.cell? ⟨pp, 0, none⟩ = some (.pointer (some ⟨p', 0, none⟩)) := (hbA.cell (p := ⟨pp, 0, none⟩) hpl9).trans r0; have hA1 : wA.cell? ⟨pp, 1, none⟩ = some (.pointer (some ⟨q', 0, none⟩)) := (hbA.cell (p := ⟨pp, 1, none⟩) hpl9).trans r1; have hA2 : wA.cell? ⟨w.heap.size, 1, none⟩ = some (.int .i64 x1) := (hbA.cell (p := ⟨w.heap.size, 1, none⟩) hs9).trans t1; have HBA := hid (undrew (X := w9) hbA); have KA := hid (kA _ ((Below.refl _ wA).drew)); clear hbA kA))
      have hplA : pp < wA.heap.size := Nat.lt_of_lt_of_le hpl9 HBA.out.size
      have hsA : w.heap.size < wA.heap.size := Nat.lt_of_lt_of_le hs9 HBA.out.size
      go_wp2_with fail
      go_region_held3 (fun wx => wx.cell? ⟨pp, 1, none⟩ = some (.pointer (some ⟨q', 0, none⟩)) ∧ wx.cell? ⟨w.heap.size, 1, none⟩ = some (.int .i64 x1)) (go_keep) (first | (go_at_call 36; refine KA.out.mono ?_; rintro e wB ⟨ar2, nr2, cr2, z, rfl, hbB, hsr1, hsr2⟩; have hB0 : wB.cell? ⟨pp, 0, none⟩ = some (.pointer (some ⟨p', 0, none⟩)) := (hbB.cell (p := ⟨pp, 0, none⟩) hplA).trans hA0; have hB1 : wB.cell? ⟨pp, 1, none⟩ = some (.pointer (some ⟨q', 0, none⟩)) := (hbB.cell (p := ⟨pp, 1, none⟩) hplA).trans hA1; have hB2 : wB.cell? ⟨w.heap.size, 1, none⟩ = some (.int .i64 x1) := (hbB.cell (p := ⟨w.heap.size, 1, none⟩) hsA).trans hA2; have HBB2 := hid (undrew (X := wA) hbB); have HE1 := hid hsr1; have HE2 := hid hsr2; clear hbB hsr1 hsr2))
      have hb9B : Below w9.heap.size w9 wB := HBA.out.trans (HBB2.out.mono HBA.out.size)
      have keq := hid (equal_yes ar ar2 nr cr nr2 cr2 z wB.drew (HE1.out.below ((Below.refl _ wB).drew)) (HE2.out.below ((Below.refl _ wB).drew)))
      have kS := hid (ksd.out wB.drew (hb9B.trans ((Below.refl _ wB).drew.mono hb9B.size)))
      have HB9 := hid hb9B
      have hplB : pp < wB.heap.size := Nat.lt_of_lt_of_le hplA HBB2.out.size
      clear hb9B
      go_wp2_with fail
      go_region_held3 (fun wx => wx.cell? ⟨pp, 0, none⟩ = some (.pointer (some ⟨p', 0, none⟩)) ∧ wx.cell? ⟨pp, 1, none⟩ = some (.pointer (some ⟨q', 0, none⟩))) (go_keep) (first | (go_at_call 37; refine keq.out.mono ?_; rintro e wz ⟨rfl, hwz⟩; subst wz) | (go_at_call 12; refine kS.out.mono ?_; rintro e wD ⟨rfl, hbD⟩; have hD0 : wD.cell? ⟨pp, 0, none⟩ = some (.pointer (some ⟨p', 0, none⟩)) := (hbD.cell (p := ⟨pp, 0, none⟩) hplB).trans hB0; have hD1 : wD.cell? ⟨pp, 1, none⟩ = some (.pointer (some ⟨q', 0, none⟩)) := (hbD.cell (p := ⟨pp, 1, none⟩) hplB).trans hB1; have HBD := hid (undrew (X := wB) hbD); clear hbD))
      go_wp2_with fail
      go_ret
      exact ⟨rfl, d', p', x', q', M', HST.out.below (HB9.out.trans (HBD.out.mono HB9.out.size))⟩

end Go.Proofs.Ytcophmafkpbdaaa
