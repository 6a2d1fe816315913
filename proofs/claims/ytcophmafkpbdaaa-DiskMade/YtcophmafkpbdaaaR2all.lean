/- The program and the document disk, call by call. -/
import Derived.Test.YtcophmafkpbdaaaR2crash
import Derived.Test.YtcophmafkpbdaaaDCrash
import Derived.Test.YtcophmafkpbdaaaR2copy
import Derived.Test.YtcophmafkpbdaaaR2old2
import Derived.Test.YtcophmafkpbdaaaDCopy
import Derived.Test.YtcophmafkpbdaaaDCrashL
import Derived.Test.YtcophmafkpbdaaaDRead
import Derived.Lib.SliceRun
import Derived.Laws.AppendOwnNone

/- The program's disk and the document's hold the same: what each call leaves, without memory. -/
namespace Go.Proofs.Ytcophmafkpbdaaa
open Go.RowKit
set_option linter.unusedVariables false

structure Same (d : Dk) (x : Rk) : Prop where
  n : d.n = x.n
  dur : ∀ j, j < x.n → sec d.dur j = x.f j
  wr : ∀ j, j < x.n → sec d.wr j = over x.f x.E j
  ab : d.ab = x.E
  opn : d.opn = true ↔ (x.E ≠ [] ∧ x.sl = false)

/-- What epochs of a disk are. -/
def Eok (n : Nat) (E : List (List (Nat × List Int))) : Prop := ∀ e ∈ E, (e.map (·.1)).Pairwise (· < ·) ∧ ∀ s ∈ e, s.1 < n ∧ s.2.length = 128

theorem Ep.ok.ab {e : Ep} {w : World} {n : Nat} (h : e.ok w n) : (e.ab.map (·.1)).Pairwise (· < ·) ∧ ∀ s ∈ e.ab, s.1 < n ∧ s.2.length = 128 := by
  have hm : e.ab.map (·.1) = e.es.map Snt.sec := by simp [Ep.ab, Snt.ab]
  refine ⟨hm ▸ h.rise.1, fun s hs => ?_⟩
  obtain ⟨t, ht, rfl⟩ := List.mem_map.1 hs
  exact ⟨h.rise.2 t.sec (List.mem_map.2 ⟨t, ht, rfl⟩), (h.es t ht).1⟩

theorem Dk.ok.eok {d : Dk} {w : World} {p : Nat} (h : d.ok w p) : Eok d.n d.ab := by
  intro e he
  obtain ⟨t, ht, rfl⟩ := List.mem_map.1 he
  exact (h.eps t ht).ab

theorem Dk.ok.dlen {d : Dk} {w : World} {p : Nat} (h : d.ok w p) : d.dur.length = d.n * 128 ∧ d.wr.length = d.n * 128 :=
  ⟨by have := h.dur.1; simpa using this, by have := h.wr.1; simpa using this⟩

theorem overE_len2 (es : List (Nat × List Int)) (hs : ∀ s ∈ es, s.2.length ≤ 128) (j : Nat) : ∀ f : Nat → List Int, (f j).length = 128 → (overE f es j).length = 128 := by
  induction es with
  | nil => intro f hf; exact hf
  | cons s es ih =>
    intro f hf
    rw [overE_cons]
    refine ih (fun u hu => hs u (List.mem_cons_of_mem _ hu)) _ ?_
    have := hs s (List.mem_cons_self ..)
    split
    · simp [hf]; omega
    · exact hf

theorem over_len2 (E : List (List (Nat × List Int))) (hs : ∀ e ∈ E, ∀ s ∈ e, s.2.length ≤ 128) (j : Nat) : ∀ f : Nat → List Int, (f j).length = 128 → (over f E j).length = 128 := by
  induction E with
  | nil => intro f hf; exact hf
  | cons e E ih =>
    intro f hf
    show (over (overE f e) E j).length = 128
    exact ih (fun u hu => hs u (List.mem_cons_of_mem _ hu)) _ (overE_len2 e (hs e (List.mem_cons_self ..)) j f hf)

theorem landAll_len2 (N : Nat) (eps : List (List (Nat × List Int))) : ∀ L : List Int, L.length = N * 128 → (∀ e ∈ eps, ∀ s ∈ e, s.1 < N ∧ s.2.length ≤ 128) → (landAll L eps).length = N * 128 := by
  induction eps with
  | nil => intro L h _; exact h
  | cons e eps ih => intro L h hs; exact ih _ (landL_len N e L h (hs e (by simp))) (fun e' he' => hs e' (by simp [he']))

theorem sec_landAll2 (N : Nat) (eps : List (List (Nat × List Int))) : ∀ L : List Int, L.length = N * 128 → (∀ e ∈ eps, ∀ s ∈ e, s.1 < N ∧ s.2.length ≤ 128) → ∀ j, sec (landAll L eps) j = over (sec L) eps j := by
  induction eps with
  | nil => intro L _ _ j; rfl
  | cons e eps ih =>
    intro L h hs j
    show sec (landAll (landL L e) eps) j = over (overE (sec L) e) eps j
    rw [ih _ (landL_len N e L h (hs e (by simp))) (fun e' he' => hs e' (by simp [he'])) j]
    congr 1
    funext k
    exact sec_landL N e L h (hs e (by simp)) k

/-- A write, behind all the epochs. -/
theorem over_writeE (f : Nat → List Int) (E : List (List (Nat × List Int))) (n : Nat) (hE : Eok n E) (hf : ∀ j, j < n → (f j).length = 128) (opn : Bool) (ho : opn = true → E ≠ []) (i : Nat) (bs : List Int) (hb : bs.length = 128) (j : Nat) (hj : j < n) :
    over f (writeE E opn i bs) j = if j = i then bs else over f E j := by
  have hl : ∀ F : List (List (Nat × List Int)), (∀ e ∈ F, e ∈ E) → ∀ k, k < n → (over f F k).length = 128 := fun F hF k hk => over_len2 F (fun e he s hs => by have := ((hE e (hF e he)).2 s hs).2; omega) k f (hf k hk)
  cases opn
  · have e1 : writeE E false i bs = E ++ [[(i, bs)]] := rfl
    rw [e1, over_append]
    show overE (over f E) [(i, bs)] j = _
    rw [overE_cons]
    show (if j = i then bs ++ (over f E j).drop bs.length else over f E j) = _
    split
    · rw [hb, List.drop_of_length_le (by rw [hl E (fun _ h => h) j hj]; exact Nat.le_refl _), List.append_nil]
    · rfl
  · have hne := ho rfl
    obtain ⟨init, e, hie⟩ : ∃ init e, E = init ++ [e] := ⟨E.dropLast, E.getLast hne, (List.dropLast_concat_getLast hne).symm⟩
    have e1 : writeE E true i bs = init ++ [putE i bs e] := by rw [hie]; simp [writeE]
    have hem : e ∈ E := by rw [hie]; simp
    rw [e1, over_append]
    show overE (over f init) (putE i bs e) j = _
    rw [overE_put i bs hb n e (hE e hem).1 (fun s hs => ((hE e hem).2 s hs).2) _ (fun k hk => hl init (fun u hu => by rw [hie]; simp [hu]) k hk) j hj, hie, over_append]
    rfl

theorem Same.write {d d' : Dk} {x y : Rk} {w : World} {p i : Nat} {bs : List Int} (h : Same d x) (hok : d.ok w p) (hi : i < x.n) (hb : bs.length = 128) (hn : d'.n = d.n) (hd : d'.dur = d.dur) (hw : d'.wr = splice d.wr (i * 128) bs) (ha : d'.ab = writeE d.ab d.opn i bs) (ho : d'.opn = true)
    (yn : y.n = x.n) (yf : y.f = x.f) (yE : y.E = writeE x.E d.opn i bs) (ysl : y.sl = false) : Same d' y := by
  have hE := hok.eok
  rw [h.ab, h.n] at hE
  have hop : d.opn = true → x.E ≠ [] := fun e => (h.opn.1 e).1
  have hfl : ∀ j, j < x.n → (x.f j).length = 128 := fun j hj => by rw [← h.dur j hj]; exact length_sec _ d.n j hok.dlen.1 (by rw [h.n]; exact hj)
  refine ⟨by rw [hn, h.n, yn], fun j hj => ?_, fun j hj => ?_, by rw [ha, h.ab, yE], ?_⟩
  · rw [yn] at hj; rw [hd, yf]; exact h.dur j hj
  · rw [yn] at hj
    rw [hw, yE, yf, over_writeE x.f x.E x.n hE hfl d.opn hop i bs hb j hj, sec_splice d.wr bs d.n i j hok.dlen.2 (by omega) (by rw [h.n]; exact hi)]
    by_cases hji : j = i
    · rw [if_pos hji, if_pos hji, hb, List.drop_of_length_le (by rw [length_sec _ d.n _ hok.dlen.2 (by rw [h.n]; exact hi)]; exact Nat.le_refl _), List.append_nil]
    · rw [if_neg hji, if_neg hji, h.wr j hj]
  · constructor
    · intro _
      refine ⟨?_, ysl⟩
      rw [yE]
      unfold writeE
      split <;> simp
    · intro _; exact ho

theorem writeE_new {E : List (List (Nat × List Int))} {i : Nat} {bs : List Int} : writeE E false i bs = E ++ [[(i, bs)]] := rfl

theorem writeE_old {E : List (List (Nat × List Int))} {i l : Nat} {bs : List Int} {es : List (Nat × List Int)} (hl : E.length = l + 1) (hes : E[l]? = some es) : writeE E true i bs = E.set l (putE i bs es) := by
  have hne : E ≠ [] := fun e => by rw [e] at hl; simp at hl
  obtain ⟨init, e, hie⟩ : ∃ init e, E = init ++ [e] := ⟨E.dropLast, E.getLast hne, (List.dropLast_concat_getLast hne).symm⟩
  subst hie
  obtain rfl : init.length = l := by simpa using hl
  have : es = e := by simpa using hes.symm
  subst this
  simp [writeE]

theorem Same.settle {d d' : Dk} {x y : Rk} {w : World} {p : Nat} {D : List Int} (h : Same d x) (hn : d'.n = d.n) (hd : d'.dur = D) (hw : d'.wr = D) (he : d'.eps = []) (ho : d'.opn = false) (yn : y.n = x.n) (yE : y.E = []) (hD : ∀ j, j < x.n → sec D j = y.f j) : Same d' y := by
  refine ⟨by rw [hn, h.n, yn], fun j hj => by rw [yn] at hj; rw [hd]; exact hD j hj, fun j hj => by rw [yn] at hj; rw [hw, yE]; exact hD j hj, by rw [yE]; simp [Dk.ab, he], ?_⟩
  rw [ho, yE]
  simp

theorem Same.eok {d : Dk} {x : Rk} {w : World} {p : Nat} (h : Same d x) (hok : d.ok w p) : Eok x.n x.E := by
  have := hok.eok
  rwa [h.ab, h.n] at this

theorem over_congr {x : Rk} {d : Dk} (h : Same d x) (E : List (List (Nat × List Int))) (j : Nat) (hj : j < x.n) : over (sec d.dur) E j = over x.f E j := over_cong E j _ _ (h.dur j hj)

theorem Same.flush {d : Dk} {x : Rk} {w : World} {p : Nat} (h : Same d x) (hok : d.ok w p) (j : Nat) (hj : j < x.n) : sec (landAll d.dur d.ab) j = over x.f x.E j := by
  rw [sec_landAll2 d.n d.ab d.dur hok.dlen.1 (fun e he s hs => ⟨((hok.eok e he).2 s hs).1, by have := ((hok.eok e he).2 s hs).2; omega⟩) j, over_congr h _ j hj, h.ab]

/-- An epoch's sector is as the epoch has it. -/
theorem overE_mem (es : List (Nat × List Int)) (hr : (es.map (·.1)).Pairwise (· < ·)) (s : Nat × List Int) (hs : s ∈ es) : ∀ f : Nat → List Int, overE f es s.1 = s.2 ++ (f s.1).drop s.2.length := by
  induction es with
  | nil => simp at hs
  | cons a es ih =>
    intro f
    rw [overE_cons]
    simp only [List.map_cons, List.pairwise_cons] at hr
    rcases List.mem_cons.1 hs with rfl | hs'
    · rw [overE_other es s.1 (fun t ht => by have := hr.1 t.1 (List.mem_map.2 ⟨t, ht, rfl⟩); omega)]
      simp
    · rw [ih hr.2 hs']
      have := hr.1 s.1 (List.mem_map.2 ⟨s, hs', rfl⟩)
      simp [show ¬ s.1 = a.1 by omega]

theorem mxz_fold (zs : List Int) : ∀ a : Int, (∀ z ∈ zs, z ≤ zs.foldl max a) ∧ a ≤ zs.foldl max a ∧ (zs.foldl max a = a ∨ zs.foldl max a ∈ zs) := by
  induction zs with
  | nil => intro a; exact ⟨fun z hz => by simp at hz, Int.le_refl _, .inl rfl⟩
  | cons b zs ih =>
    intro a
    obtain ⟨h1, h2, h3⟩ := ih (max a b)
    refine ⟨fun z hz => ?_, ?_, ?_⟩
    · rcases List.mem_cons.1 hz with rfl | hz
      · exact Int.le_trans (Int.le_max_right _ _) h2
      · exact h1 z hz
    · exact Int.le_trans (Int.le_max_left _ _) h2
    · simp only [List.foldl_cons]
      rcases h3 with h | h
      · by_cases hab : a ≤ b
        · right; rw [h]; simp [Int.max_eq_right hab]
        · left; rw [h]; omega
      · right; exact List.mem_cons_of_mem _ h

theorem mxz_eq {zs : List Int} {G : Int} (hG : G ∈ zs) (hle : ∀ z ∈ zs, z ≤ G) (h0 : 0 ≤ G) : mxz zs = G := by
  obtain ⟨h1, h2, h3⟩ := mxz_fold zs (-1)
  unfold mxz
  have h4 := h1 G hG
  rcases h3 with h | h
  · omega
  · have := hle _ h; omega

theorem look_mem {nx : List (Nat × List Int)} (hr : (nx.map (·.1)).Pairwise (· < ·)) {s : Nat × List Int} (hs : s ∈ nx) : look nx s.1 = some s.2 := by
  induction nx with
  | nil => simp at hs
  | cons a nx ih =>
    simp only [List.map_cons, List.pairwise_cons] at hr
    unfold look at ih ⊢
    rcases List.mem_cons.1 hs with rfl | hs'
    · simp
    · have := hr.1 s.1 (List.mem_map.2 ⟨s, hs', rfl⟩)
      rw [List.find?_cons_of_neg (by simp; omega)]
      exact ih hr.2 hs'

/-- What a crash leaves of a sector: the program's reckoning, and the document's. -/
theorem torn_kf (nx : List (Nat × List Int)) (hr : (nx.map (·.1)).Pairwise (· < ·)) (hl : ∀ s ∈ nx, s.2.length = 128) (ks : List Nat) (hin : ∀ k ∈ ks, ∃ s ∈ nx, s.1 = k) (T : Nat) (base : Nat → List Int) (j : Nat) (hb : (base j).length = 128) (init : List (Nat × List Int)) (la : List (Nat × List Int))
    (hsel : nx.filter (fun s => decide (s.1 ∈ ks)) = init ++ la) (hla : la = [] ∧ init = [] ∨ ∃ s, la = [s]) :
    overE base (init ++ la.map (fun s => (s.1, s.2.take (min T 128)))) j = kf nx (mxz (ks.map fun (k : Nat) => (k : Int))) T base (ks.map fun (k : Nat) => (k : Int)) j := by
  have hmem : ∀ s, s ∈ init ++ la ↔ s ∈ nx ∧ s.1 ∈ ks := fun s => by rw [← hsel]; simp
  have hrs : ((init ++ la).map (·.1)).Pairwise (· < ·) := by rw [← hsel]; exact hr.sublist ((List.filter_sublist).map _)
  have hkeys : ((init ++ la.map (fun s => (s.1, s.2.take (min T 128)))).map (·.1)) = (init ++ la).map (·.1) := by simp [Function.comp_def]
  have hzin : ∀ i : Nat, ((i : Int) ∈ ks.map fun (k : Nat) => (k : Int)) ↔ i ∈ ks := fun i => by
    simp only [List.mem_map]
    exact ⟨fun ⟨a, ha, e⟩ => by have : a = i := by omega
                                exact this ▸ ha, fun h => ⟨i, h, rfl⟩⟩
  by_cases hj : j ∈ ks
  · obtain ⟨s, hs, rfl⟩ := hin j hj
    have hsm := (hmem s).2 ⟨hs, hj⟩
    have hsl := hl s hs
    obtain ⟨u, rfl⟩ : ∃ u, la = [u] := by
      rcases hla with ⟨h1, h2⟩ | h
      · rw [h1, h2] at hsm; simp at hsm
      · exact h
    have hu := (hmem u).1 (by simp)
    have hlast : ∀ t ∈ init, t.1 < u.1 := fun t ht => by
      rw [List.map_append, List.pairwise_append] at hrs
      exact hrs.2.2 t.1 (List.mem_map.2 ⟨t, ht, rfl⟩) u.1 (by simp)
    have hmx : mxz (ks.map fun (k : Nat) => (k : Int)) = (u.1 : Int) := by
      refine mxz_eq ((hzin _).2 hu.2) (fun z hz => ?_) (by omega)
      obtain ⟨k, hk, rfl⟩ := List.mem_map.1 hz
      obtain ⟨t, ht, rfl⟩ := hin k hk
      rcases List.mem_append.1 ((hmem t).2 ⟨ht, hk⟩) with h | h
      · have := hlast t h; omega
      · simp at h; subst h; omega
    have hkf : kf nx (mxz (ks.map fun (k : Nat) => (k : Int))) T base (ks.map fun (k : Nat) => (k : Int)) s.1 = cutf T s.2 (base s.1) (u.1 : Int) s.1 := by
      unfold kf
      rw [if_pos ((hzin _).2 hj), look_mem hr hs, hmx]
      rfl
    rw [hkf]
    rcases List.mem_append.1 hsm with h | h
    · have h1 := overE_mem _ (hkeys ▸ hrs) s (List.mem_append.2 (.inl h)) base
      rw [h1, hsl, List.drop_of_length_le (by omega), List.append_nil, cutf_no (fun e => by have := hlast s h; omega)]
    · simp at h
      subst h
      have h1 := overE_mem _ (hkeys ▸ hrs) (s.1, s.2.take (min T 128)) (List.mem_append.2 (.inr (by simp))) base
      rw [h1]
      by_cases hT : T < 128
      · rw [cutf_yes (T := T) rfl (by omega) rfl, show min T 128 = T by omega]
        simp [hsl, show min T 128 = T by omega]
      · rw [cutf_no (fun e => hT (by omega)), show min T 128 = 128 by omega]
        show s.2.take 128 ++ (base s.1).drop (s.2.take 128).length = s.2
        rw [List.take_of_length_le (by omega), List.drop_of_length_le (by omega), List.append_nil]
  · have h1 : overE base (init ++ la.map (fun s => (s.1, s.2.take (min T 128)))) j = base j := by
      refine overE_other _ j (fun s hs e => ?_) base
      have hk : s.1 ∈ (init ++ la).map (·.1) := by rw [← hkeys]; exact List.mem_map.2 ⟨s, hs, rfl⟩
      obtain ⟨t, ht, e2⟩ := List.mem_map.1 hk
      exact hj (by rw [← e, ← e2]; exact ((hmem t).1 ht).2)
    rw [h1]
    unfold kf
    rw [if_neg (fun h => hj ((hzin j).1 h))]

theorem Same.crash {d : Dk} {x : Rk} {w : World} {p k T : Nat} {e : Ep} {ks : List Nat} {nx : List (Nat × List Int)} (h : Same d x) (hok : d.ok w p) (hlt : k < d.eps.length) (he : e = d.eps[k]) (hnx : nx = (x.E[k]?).getD []) (hin : ∀ k ∈ ks, ∃ j, ∃ h : j < e.es.length, e.es[j].sec = k) (j : Nat) (hj : j < x.n) :
    sec (landL (landAll d.dur (d.ab.take k)) (tornE (e.es.filter (fun s => decide (s.sec ∈ ks))) T)) j = kf nx (mxz (ks.map fun (k : Nat) => (k : Int))) T (over x.f (x.E.take k)) (ks.map fun (k : Nat) => (k : Int)) j := by
  have hem : e ∈ d.eps := by rw [he]; exact List.getElem_mem hlt
  have hea := (hok.eps e hem).ab
  have hnxe : nx = e.ab := by
    rw [hnx, ← h.ab]
    simp [Dk.ab, List.getElem?_eq_getElem hlt, he]
  have htk : ∀ e' ∈ d.ab.take k, ∀ s ∈ e', s.1 < d.n ∧ s.2.length ≤ 128 := fun e' he' s hs => ⟨((hok.eok e' (List.mem_of_mem_take he')).2 s hs).1, by have := ((hok.eok e' (List.mem_of_mem_take he')).2 s hs).2; omega⟩
  have hfm : (e.es.filter (fun s => decide (s.sec ∈ ks))).map Snt.ab = nx.filter (fun s => decide (s.1 ∈ ks)) := by
    rw [hnxe, Ep.ab, List.filter_map]
    rfl
  have htm : ∀ s ∈ tornE (e.es.filter (fun s => decide (s.sec ∈ ks))) T, s.1 < d.n ∧ s.2.length ≤ 128 := fun s hs => by
    unfold tornE at hs
    rcases List.mem_append.1 hs with h1 | h1
    · obtain ⟨t, ht, rfl⟩ := List.mem_map.1 h1
      have h2 := hea.2 t.ab (List.mem_map.2 ⟨t, (List.mem_filter.1 ((List.dropLast_subset _) ht)).1, rfl⟩)
      exact ⟨h2.1, by omega⟩
    · obtain ⟨t, ht, rfl⟩ := List.mem_map.1 h1
      have ht' : t ∈ e.es.filter (fun s => decide (s.sec ∈ ks)) := by
        have := Option.mem_toList.1 ht
        exact List.mem_of_getLast? this
      have h2 := hea.2 t.ab (List.mem_map.2 ⟨t, (List.mem_filter.1 ht').1, rfl⟩)
      exact ⟨h2.1, by simp; omega⟩
  have hlen := landAll_len2 d.n (d.ab.take k) d.dur hok.dlen.1 htk
  rw [sec_landL d.n _ _ hlen htm j]
  have hbase : sec (landAll d.dur (d.ab.take k)) j = over x.f (x.E.take k) j := by
    rw [sec_landAll2 d.n _ d.dur hok.dlen.1 htk j, over_congr h _ j hj, h.ab]
  rw [overE_cong _ j _ (over x.f (x.E.take k)) hbase]
  have hbl : (over x.f (x.E.take k) j).length = 128 := by rw [← hbase]; exact length_sec _ d.n j hlen (by rw [h.n]; exact hj)
  have key := torn_kf nx (by rw [hnxe]; exact hea.1) (fun s hs => by rw [hnxe] at hs; exact (hea.2 s hs).2) ks (fun k hk => by
    obtain ⟨i, hi, e2⟩ := hin k hk
    exact ⟨e.es[i].ab, by rw [hnxe]; exact List.mem_map.2 ⟨_, List.getElem_mem hi, rfl⟩, e2⟩) T (over x.f (x.E.take k)) j hbl ((e.es.filter (fun s => decide (s.sec ∈ ks))).dropLast.map Snt.ab) ((e.es.filter (fun s => decide (s.sec ∈ ks))).getLast?.toList.map Snt.ab) (by
    rw [← hfm, ← List.map_append]
    congr 1
    rcases List.eq_nil_or_concat (e.es.filter (fun s => decide (s.sec ∈ ks))) with h1 | ⟨ini, s, h1⟩
    · rw [h1]; rfl
    · rw [h1]; simp) (by
    rcases List.eq_nil_or_concat (e.es.filter (fun s => decide (s.sec ∈ ks))) with h1 | ⟨ini, s, h1⟩
    · left; rw [h1]; simp
    · right; rw [h1]; exact ⟨s.ab, by simp⟩)
  rw [← key]
  congr 1
  unfold tornE
  rw [List.map_map]
  rfl

end Go.Proofs.Ytcophmafkpbdaaa

/- A disk of the program beside one of the document, as they lie. -/
namespace Go.Proofs.Ytcophmafkpbdaaa
open Go.RowKit
set_option linter.unusedVariables false

structure Two (w : World) (pp : Nat) (d : Dk) (p : Nat) (x : Rk) (q : Nat) (M : List Nat) (B : Nat) : Prop where
  cells : w.heap[pp]? = some (.cells #[.pointer (some ⟨p, 0, none⟩), .pointer (some ⟨q, 0, none⟩)] 32 (0, 0))
  dk : d.ok w p
  rk : x.ok w q M
  sub : ∀ k ∈ d.foot p, k ∈ M
  pM : pp ∈ M
  lt : ∀ k ∈ M, k < w.heap.size
  apart : ∀ k ∈ x.foot q, k ∉ d.foot p
  pd : pp ∉ d.foot p
  px : pp ∉ x.foot q
  new : ∀ k ∈ M, B ≤ k

theorem Two.base {w : World} {pp p q B : Nat} {d : Dk} {x : Rk} {M : List Nat} (h : Two w pp d p x q M B) : B ≤ w.heap.size := Nat.le_trans (h.new pp h.pM) (Nat.le_of_lt (h.lt pp h.pM))

/-- Nothing that is there turns. -/
theorem Two.below {w w1 : World} {pp p q B : Nat} {d : Dk} {x : Rk} {M : List Nat} (h : Two w pp d p x q M B) (hb : Below w.heap.size w w1) : Two w1 pp d p x q M B :=
  ⟨(hb.block pp (h.lt pp h.pM)).trans h.cells, h.dk.frame fun k hk => hb.block k (h.dk.lt k hk), h.rk.move (Upd.of_below (F := fun _ => False) hb) (fun _ _ h => h.elim) (fun _ _ h => h), h.sub, h.pM, fun k hk => Nat.lt_of_lt_of_le (h.lt k hk) hb.size, h.apart, h.pd, h.px, h.new⟩

/-- Something that is written into by others is named, too. -/
theorem Two.more {w : World} {pp p q B : Nat} {d : Dk} {x : Rk} {M N : List Nat} (h : Two w pp d p x q M B) {w1 : World} (hb : Below w.heap.size w w1) (hN : ∀ k ∈ N, w.heap.size ≤ k ∧ k < w1.heap.size) : Two w1 pp d p x q (N ++ M) B := by
  refine ⟨(hb.block pp (h.lt pp h.pM)).trans h.cells, h.dk.frame fun k hk => hb.block k (h.dk.lt k hk), h.rk.grow (Upd.of_below (F := fun _ => False) hb) (fun _ _ h => h.elim) (fun _ _ h => h) (fun k hk => List.mem_append.2 (.inr hk)) (fun k hk => ?_), fun k hk => List.mem_append.2 (.inr (h.sub k hk)), List.mem_append.2 (.inr h.pM), fun k hk => ?_, h.apart, h.pd, h.px, fun k hk => ?_⟩
  · rcases List.mem_append.1 hk with h1 | h1
    · exact .inr (hN k h1).1
    · exact .inl h1
  · rcases List.mem_append.1 hk with h1 | h1
    · exact (hN k h1).2
    · exact Nat.lt_of_lt_of_le (h.lt k h1) hb.size
  · rcases List.mem_append.1 hk with h1 | h1
    · exact Nat.le_trans h.base (hN k h1).1
    · exact h.new k h1

/-- The program's disk turns. -/
theorem Two.prog {w w1 : World} {pp p q B : Nat} {d d' : Dk} {x : Rk} {M : List Nat} (h : Two w pp d p x q M B) (hd : d'.ok w1 p) (u : Upd (· ∈ d.foot p) w w1) (g : Grew w (d.foot p) (d'.foot p)) : Two w1 pp d' p x q (d'.foot p ++ M) B := by
  have hxl : ∀ k ∈ x.foot q, k < w.heap.size := fun k hk => h.lt k (h.rk.inM k hk)
  refine ⟨(u.block pp (h.lt pp h.pM) h.pd).trans h.cells, hd, h.rk.grow u (fun k _ hk => h.sub k hk) (fun k hk => h.apart k hk) (fun k hk => List.mem_append.2 (.inr hk)) (fun k hk => ?_), fun k hk => List.mem_append.2 (.inl hk), List.mem_append.2 (.inr h.pM), fun k hk => ?_, fun k hk hk2 => ?_, fun hk => ?_, h.px, fun k hk => ?_⟩
  · rcases List.mem_append.1 hk with h1 | h1
    · exact (g k h1).imp (h.sub k) id
    · exact .inl h1
  · rcases List.mem_append.1 hk with h1 | h1
    · exact hd.lt k h1
    · exact Nat.lt_of_lt_of_le (h.lt k h1) u.size
  · rcases g k hk2 with h1 | h1
    · exact h.apart k hk h1
    · have := hxl k hk; omega
  · rcases g pp hk with h1 | h1
    · exact h.pd h1
    · have := h.lt pp h.pM; omega
  · rcases List.mem_append.1 hk with h1 | h1
    · rcases g k h1 with h2 | h2
      · exact h.new k (h.sub k h2)
      · exact Nat.le_trans h.base h2
    · exact h.new k h1

/-- The document's disk turns. -/
theorem Two.doc {w w1 : World} {pp p q B : Nat} {d : Dk} {x x' : Rk} {M M' : List Nat} (h : Two w pp d p x q M B) (hx : x'.ok w1 q M') (u : Upd (· ∈ x.foot q) w w1) (hs : ∀ k ∈ M, k ∈ M') (hg : Grew' w M M') (hl : ∀ k ∈ M', k < w1.heap.size) (hB : x'.gB = x.gB) (hf : ∀ k ∈ eb x'.aE, k ∈ eb x.aE ∨ w.heap.size ≤ k) : Two w1 pp d p x' q M' B := by
  have hf' : ∀ k ∈ x'.foot q, k ∈ x.foot q ∨ w.heap.size ≤ k := fun k hk => by
    have hk' : k = q ∨ k = x'.gB ∨ k ∈ eb x'.aE := by simpa [Rk.foot] using hk
    rcases hk' with h1 | h1 | h1
    · exact .inl (by simp [Rk.foot, h1])
    · exact .inl (by simp [Rk.foot, h1, hB])
    · exact (hf k h1).imp (fun h2 => by simp [Rk.foot, h2]) id
  refine ⟨(u.block pp (h.lt pp h.pM) h.px).trans h.cells, h.dk.upd u (fun k hk hk2 => h.apart k hk2 hk), hx, fun k hk => hs k (h.sub k hk), hs pp h.pM, hl, fun k hk hk2 => ?_, h.pd, fun hk => ?_, fun k hk => ?_⟩
  · rcases hf' k hk with h1 | h1
    · exact h.apart k h1 hk2
    · have := h.dk.lt k hk2; omega
  · rcases hf' pp hk with h1 | h1
    · exact h.px h1
    · have := h.lt pp h.pM; omega
  · rcases hg k hk with h1 | h1
    · exact h.new k h1
    · exact Nat.le_trans h.base h1

theorem Two.docS {w w1 : World} {pp p q B : Nat} {d : Dk} {x x' : Rk} {M : List Nat} (h : Two w pp d p x q M B) (hx : x'.ok w1 q M) (u : Upd (· ∈ x.foot q) w w1) (hB : x'.gB = x.gB) (hf : ∀ k ∈ eb x'.aE, k ∈ eb x.aE ∨ w.heap.size ≤ k) : Two w1 pp d p x' q M B :=
  h.doc hx u (fun _ h => h) (fun _ h => .inl h) (fun k hk => Nat.lt_of_lt_of_le (h.lt k hk) u.size) hB hf

theorem upd_foot {x : Rk} {q : Nat} {w w' : World} (u : Upd (fun b => b = q ∨ b = x.gB) w w') : Upd (· ∈ x.foot q) w w' := u.mono (fun k _ hk => by rcases hk with h | h <;> simp [Rk.foot, h])
theorem upd_head {x : Rk} {q : Nat} {w w' : World} (u : Upd (fun b => b = q) w w') : Upd (· ∈ x.foot q) w w' := u.mono (fun k _ hk => by have h : k = q := hk; simp [Rk.foot, h])

/-- What turns in a step of the pair: the disks that it had, and itself. -/
def Turns (d : Dk) (p : Nat) (x : Rk) (q pp : Nat) (k : Nat) : Prop := k ∈ d.foot p ∨ k ∈ x.foot q ∨ k = pp

/-- The pair behind a step. -/
structure Stp (w w' : World) (pp : Nat) (d : Dk) (p : Nat) (x : Rk) (q : Nat) (M : List Nat) (B : Nat) (K : Nat) (d' : Dk) (p' : Nat) (x' : Rk) (q' : Nat) (M' : List Nat) : Prop where
  two : Two w' pp d' p' x' q' M' B
  same : Same d' x'
  cnt : x'.E.length ≤ K + 1
  upd : Upd (Turns d p x q pp) w w'
  sub : ∀ k ∈ M, k ∈ M'
  grew : Grew' w M M'
  fresh : ∀ k, Turns d' p' x' q' pp k → Turns d p x q pp k ∨ w.heap.size ≤ k
  num : x'.n = x.n

theorem Stp.below {w w' w2 : World} {pp p q B K p' q' : Nat} {d d' : Dk} {x x' : Rk} {M M' : List Nat} (h : Stp w w' pp d p x q M B K d' p' x' q' M') (hb : Below w'.heap.size w' w2) : Stp w w2 pp d p x q M B K d' p' x' q' M' :=
  ⟨h.two.below hb, h.same, h.cnt, h.upd.trans (Upd.of_below (F := Turns d p x q pp) hb) (fun _ _ h => h), h.sub, h.grew, h.fresh, h.num⟩

theorem Stp.ahead {w0 w w' : World} {pp p q B K p' q' : Nat} {d d' : Dk} {x x' : Rk} {M M' : List Nat} (h : Stp w w' pp d p x q M B K d' p' x' q' M') (hb : Below w0.heap.size w0 w) (hM : ∀ k ∈ M, k < w0.heap.size) (hT : ∀ k, Turns d p x q pp k → k < w0.heap.size) : Stp w0 w' pp d p x q M B K d' p' x' q' M' :=
  ⟨h.two, h.same, h.cnt, (Upd.of_below (F := Turns d p x q pp) hb).trans h.upd (fun _ _ h => h), h.sub, fun k hk => (h.grew k hk).imp id (fun h1 => Nat.le_trans hb.size h1), fun k hk => (h.fresh k hk).imp id (fun h1 => Nat.le_trans hb.size h1), h.num⟩

theorem Two.turns {w : World} {pp p q B : Nat} {d : Dk} {x : Rk} {M : List Nat} (h : Two w pp d p x q M B) : ∀ k, Turns d p x q pp k → k ∈ M := fun k hk => by
  rcases hk with h1 | h1 | h1
  · exact h.sub k h1
  · exact h.rk.inM k h1
  · exact h1 ▸ h.pM

/-- A step that leaves all as it was. -/
theorem Stp.quiet {w w' : World} {pp p q B K : Nat} {d : Dk} {x : Rk} {M : List Nat} (h : Two w pp d p x q M B) (hs : Same d x) (hk : x.E.length ≤ K) (hb : Below w.heap.size w w') : Stp w w' pp d p x q M B K d p x q M :=
  ⟨h.below hb, hs, by omega, Upd.of_below hb, fun _ h => h, fun _ h => .inl h, fun _ h => .inl h, rfl⟩

/-- A step on both, one behind the other. -/
theorem Stp.both {w w1 w2 : World} {pp p q B K : Nat} {d d' : Dk} {x x' : Rk} {M M' : List Nat} (h : Two w pp d p x q M B) (hd : d'.ok w1 p) (u : Upd (· ∈ d.foot p) w w1) (g : Grew w (d.foot p) (d'.foot p))
    (hx : x'.ok w2 q M') (u2 : Upd (· ∈ x.foot q) w1 w2) (hs : ∀ k ∈ d'.foot p ++ M, k ∈ M') (hg : Grew' w1 (d'.foot p ++ M) M') (hl : ∀ k ∈ M', k < w2.heap.size) (hB : x'.gB = x.gB) (hf : ∀ k ∈ eb x'.aE, k ∈ eb x.aE ∨ w1.heap.size ≤ k) (hsm : Same d' x') (hc : x'.E.length ≤ K + 1) (hnum : x'.n = x.n) : Stp w w2 pp d p x q M B K d' p x' q M' := by
  refine ⟨(h.prog hd u g).doc hx u2 hs hg hl hB hf, hsm, hc, (u.mono (fun k _ hk => .inl hk)).trans u2 (fun k _ hk => .inr (.inl hk)), fun k hk => hs k (List.mem_append.2 (.inr hk)), fun k hk => ?_, fun k hk => ?_, hnum⟩
  · rcases hg k hk with h1 | h1
    · rcases List.mem_append.1 h1 with h2 | h2
      · exact (g k h2).imp (h.sub k) id
      · exact .inl h2
    · exact .inr (Nat.le_trans u.size h1)
  · rcases hk with h1 | h1 | h1
    · exact (g k h1).imp .inl id
    · have hk' : k = q ∨ k = x'.gB ∨ k ∈ eb x'.aE := by simpa [Rk.foot] using h1
      rcases hk' with h2 | h2 | h2
      · exact .inl (.inr (.inl (by simp [Rk.foot, h2])))
      · exact .inl (.inr (.inl (by simp [Rk.foot, h2, hB])))
      · rcases hf k h2 with h3 | h3
        · exact .inl (.inr (.inl (by simp [Rk.foot, h3])))
        · exact .inr (Nat.le_trans u.size h3)
    · exact .inl (.inr (.inr h1))

end Go.Proofs.Ytcophmafkpbdaaa

/- A call on the program's disk, then the same on the document's: they answer alike, and hold the same behind it. -/
namespace Go.Proofs.Ytcophmafkpbdaaa
open Go.RowKit
set_option linter.unusedVariables false

/-- Both hold the same behind it. -/
def Fin (w : World) (pp : Nat) (d : Dk) (p : Nat) (x : Rk) (q : Nat) (M : List Nat) (B K : Nat) (w' : World) : Prop := ∃ (d' : Dk) (x' : Rk) (M' : List Nat), Stp w w' pp d p x q M B K d' p x' q M'

theorem same_two {w : World} {pp p q B : Nat} {d : Dk} {x : Rk} {M : List Nat} (h : Two w pp d p x q M B) (hs : Same d x) (hK : x.E.length ≤ 1800000000000) : Calls Try.prog 12 #[.pointer (some ⟨p, 0, none⟩), .pointer (some ⟨q, 0, none⟩)] w fun e w' => e = .returned (.bool true) ∧ Below w.heap.size w w' :=
  samedisks_yes d p q x.n x.E.length x.cE _ x.f M x.aE x.E w h.dk h.rk.cell.1 h.rk.cell.2.1 rfl h.rk.B h.rk.epsl hs.n h.rk.n2 (fun j hj => hs.dur j hj) hs.ab h.rk.er.2.1 h.rk.er.2.2.1 (by omega)

theorem Same.cnt {d : Dk} {x : Rk} (h : Same d x) : d.eps.length = x.E.length := by rw [← h.ab]; simp [Dk.ab]

theorem Same.rise {d : Dk} {x : Rk} {w : World} {p : Nat} (h : Same d x) (hok : d.ok w p) {es : List (Nat × List Int)} (he : es ∈ x.E) : (∀ (a b : Nat) (hab : a < b) (h : b < es.length), (es[a]'(by omega)).1 < es[b].1) ∧ es.length ≤ 2048 := by
  have h1 := (h.eok hok es he).1
  refine ⟨fun a b hab hb => ?_, ?_⟩
  · have := List.pairwise_iff_getElem.1 h1 a b (by simp; omega) (by simpa using hb) hab
    simpa using this
  · have h2 := rising_len (es.map (·.1)) x.n 0 (Nat.zero_le _) h1 (fun y hy => by
      obtain ⟨s, hs, rfl⟩ := List.mem_map.1 hy
      exact ⟨Nat.zero_le _, ((h.eok hok es he).2 s hs).1⟩)
    have h3 := hok.n2
    rw [h.n] at h3
    simp at h2
    omega

theorem write_both {w : World} {pp p q B K : Nat} {d : Dk} {x : Rk} {M : List Nat} (h : Two w pp d p x q M B) (hs : Same d x) (hK : x.E.length ≤ K) (hK2 : K ≤ 1790000000000) (i : Int) (av ab : Option Addr) (lb cv cb : Nat) (bz : List Int)
    (hv : lb = 128 → ∃ a, av = some a ∧ Src w (some a) 128 bz ∧ a.block ∉ d.foot p) (hb : lb = 128 → ∃ a, ab = some a ∧ Byt w M (.slice (some a) 128 cb) bz) :
    Calls Try.prog 28 #[.pointer (some ⟨p, 0, none⟩), .int .i64 i, .slice av lb cv] w fun e w1 => ∃ r : Int, e = .returned (.int .i64 r) ∧ Upd (· ∈ d.foot p) w w1 ∧
      Calls Try.prog 29 #[.pointer (some ⟨q, 0, none⟩), .int .i64 i, .slice ab lb cb] w1 fun e2 w2 => e2 = .returned (.int .i64 r) ∧ Fin w pp d p x q M B K w2 := by
  by_cases hi : 0 ≤ i ∧ i < x.n
  · obtain ⟨I, rfl⟩ : ∃ I : Nat, i = (I : Int) := ⟨i.toNat, by omega⟩
    have hI : I < x.n := by omega
    by_cases hl : lb = 128
    · subst hl
      obtain ⟨a, rfl, hsa, ham⟩ := hv rfl
      obtain ⟨a2, rfl, hbt⟩ := hb rfl
      have hbl : bz.length = 128 := hsa.1
      refine (write_any d p I a cv bz w h.dk (by rw [hs.n]; exact hI) hsa ham (by rw [hs.cnt]; omega)).mono ?_
      rintro e w1 ⟨rfl, d', hok', hn, _, hd, hw, ha, ho, hU, hG⟩
      refine ⟨0, rfl, hU, ?_⟩
      have t1 := h.prog hok' hU hG
      have hb1 : Byt w1 (d'.foot p ++ M) (.slice (some a2) 128 cb) bz := hbt.upd (hU.mono (fun k _ hk => h.sub k hk)) (fun k hk => by
        rcases List.mem_append.1 hk with h1 | h1
        · exact (hG k h1).imp (h.sub k) id
        · exact .inl h1)
      cases hop : d.opn
      · have hnew : x.E.length = 0 ∨ x.sl = true := by
          by_cases hE : x.E = []
          · left; simp [hE]
          · right
            cases hsl : x.sl
            · have := hs.opn.2 ⟨hE, hsl⟩; rw [hop] at this; cases this
            · rfl
        refine (rwrite_new x q I cb a2 (d'.foot p ++ M) bz w1 t1.rk t1.lt hI hb1 hnew (by omega)).mono ?_
        rintro e w2 ⟨rfl, y, M', hy, yn, yB, yf, yE, ysl, hg, hsb, hlt, hU2, hfe⟩
        refine ⟨rfl, d', y, M', Stp.both h hok' hU hG hy hU2 hsb hg hlt yB hfe (hs.write h.dk hI hbl hn hd hw ha ho yn yf (by rw [yE, hop]; rfl) ysl) (by rw [yE]; simp; omega) yn⟩
      · obtain ⟨hE, hsl⟩ := hs.opn.1 hop
        obtain ⟨l, hl⟩ : ∃ l, x.E.length = l + 1 := ⟨x.E.length - 1, by have := List.length_pos_iff.2 hE; omega⟩
        have hes : x.E[l]? = some (x.E[l]'(by omega)) := List.getElem?_eq_getElem (by omega)
        have hr := hs.rise h.dk (List.getElem_mem (show l < x.E.length by omega))
        refine (rwrite_old x q I cb l a2 (d'.foot p ++ M) bz _ w1 t1.rk t1.lt hI hb1 hsl hl hes hr.1 hr.2).mono ?_
        rintro e w2 ⟨rfl, y, hy, yn, yB, yf, yE, ysl, hU2, hae⟩
        refine ⟨rfl, d', y, _, Stp.both h hok' hU hG hy hU2 (fun _ h => h) (fun _ h => .inl h) (fun k hk => Nat.lt_of_lt_of_le (t1.lt k hk) hU2.size) yB (fun k hk => .inl (hae ▸ hk)) (hs.write h.dk hI hbl hn hd hw ha ho yn yf (by rw [yE, hop, writeE_old hl hes]) ysl) (by rw [yE]; simp; omega) yn⟩
    · refine (write_len d p I av lb cv w h.dk (by rw [hs.n]; exact hI) hl).mono ?_
      rintro e w1 ⟨rfl, rfl⟩
      refine ⟨1, rfl, Upd.refl _ _, (rwrite_len x q I M ab lb cb w1 h.rk hI hl).mono ?_⟩
      rintro e w2 ⟨rfl, rfl⟩
      exact ⟨rfl, d, x, M, Stp.quiet h hs hK (Below.refl _ _)⟩
  · refine (write_no d p i av lb cv w h.dk (by rw [hs.n]; exact hi)).mono ?_
    rintro e w1 ⟨rfl, rfl⟩
    refine ⟨1, rfl, Upd.refl _ _, (rwrite_no x q M i ab lb cb w1 h.rk hi).mono ?_⟩
    rintro e w2 ⟨rfl, rfl⟩
    exact ⟨rfl, d, x, M, Stp.quiet h hs hK (Below.refl _ _)⟩

theorem barrier_both {w : World} {pp p q B K : Nat} {d : Dk} {x : Rk} {M : List Nat} (h : Two w pp d p x q M B) (hs : Same d x) (hK : x.E.length ≤ K) :
    Calls Try.prog 30 #[.pointer (some ⟨p, 0, none⟩)] w fun e w1 => e = .returned (.int .i64 0) ∧ Upd (· ∈ d.foot p) w w1 ∧
      Calls Try.prog 31 #[.pointer (some ⟨q, 0, none⟩)] w1 fun e2 w2 => e2 = .returned (.int .i64 0) ∧ Fin w pp d p x q M B K w2 := by
  refine (barrier_any d p w h.dk).mono ?_
  rintro e w1 ⟨rfl, hok', hU⟩
  have hU' : Upd (· ∈ d.foot p) w w1 := hU.mono (fun k _ hk => by have : k = p := hk; simp [Dk.foot, this])
  refine ⟨rfl, hU', ?_⟩
  have hG : Grew w (d.foot p) (({ d with opn := false } : Dk).foot p) := fun k hk => .inl hk
  have t1 := h.prog hok' hU' hG
  refine (rbarrier x q _ w1 t1.rk).mono ?_
  rintro e w2 ⟨rfl, hy, hU2⟩
  refine ⟨rfl, { d with opn := false }, _, _, Stp.both h hok' hU' hG hy (upd_head hU2) (fun _ h => h) (fun _ h => .inl h) (fun k hk => Nat.lt_of_lt_of_le (t1.lt k hk) hU2.size) rfl (fun k hk => .inl hk) ⟨hs.n, hs.dur, hs.wr, hs.ab, ?_⟩ (by show x.E.length ≤ _; omega) rfl⟩
  constructor
  · intro e; cases e
  · rintro ⟨h1, h2⟩
    have h3 : 0 < x.E.length := List.length_pos_iff.2 h1
    simp [h3] at h2

theorem settled_two {w w1 : World} {pp p q B : Nat} {d : Dk} {x : Rk} {M : List Nat} {D : List Int} (h : Two w pp d p x q M B) (hst : Settled w d p D w1) : Grew w (d.foot p) (({ d with dur := D, wr := D, ve := .slice none 0 0, eps := [], opn := false } : Dk).foot p) := fun k hk => by
  left
  simp [Dk.foot, vb, Value.ownBlock] at hk ⊢
  rcases hk with h1 | h1 | h1 <;> simp [h1]

theorem flush_both {w : World} {pp p q B K : Nat} {d : Dk} {x : Rk} {M : List Nat} (h : Two w pp d p x q M B) (hs : Same d x) (hK : x.E.length ≤ K) :
    Calls Try.prog 32 #[.pointer (some ⟨p, 0, none⟩)] w fun e w1 => e = .returned (.int .i64 0) ∧ Upd (· ∈ d.foot p) w w1 ∧
      Calls Try.prog 33 #[.pointer (some ⟨q, 0, none⟩)] w1 fun e2 w2 => e2 = .returned (.int .i64 0) ∧ Fin w pp d p x q M B K w2 := by
  refine (flush_any d p w h.dk).mono ?_
  rintro e w1 ⟨rfl, hst⟩
  refine ⟨rfl, hst.2, ?_⟩
  have hG := settled_two h hst
  have t1 := h.prog hst.1 hst.2 hG
  refine (rflush x q _ w1 t1.rk t1.lt).mono ?_
  rintro e w2 ⟨rfl, y, hy, yn, yf, yE, ysl, yB, hU2, hae⟩
  exact ⟨rfl, _, y, _, Stp.both h hst.1 hst.2 hG hy (upd_foot hU2) (fun _ h => h) (fun _ h => .inl h) (fun k hk => Nat.lt_of_lt_of_le (t1.lt k hk) hU2.size) yB (fun k hk => .inl (hae k hk)) (hs.settle (p := p) (w := w) rfl rfl rfl rfl rfl yn yE (fun j hj => by rw [yf]; exact hs.flush h.dk j hj)) (by rw [yE]; simp) yn⟩

theorem IntsZ.upd {w w' : World} {F : Nat → Prop} {a : Option Addr} {zs : List Int} (h : IntsZ w a zs) (u : Upd F w w') (hF : 0 < zs.length → ∀ b o, a = some ⟨b, o, none⟩ → ¬ F b) : IntsZ w' a zs := fun h0 => by
  obtain ⟨b, o, e, hlt, hc⟩ := h h0
  exact ⟨b, o, e, Nat.lt_of_lt_of_le hlt u.size, fun j hj => (World.cell?_of_block (a := ⟨b, o + j, none⟩) (u.block b hlt (hF h0 b o e))).trans (hc j hj)⟩

/-- Numbers of which some can't be kept: the first of these. -/
theorem not_gd {nx : List (Nat × List Int)} {zs : List Int} (h : ¬ Gd nx zs) : ∃ (ks : List Nat) (z : Int) (rest : List Int), zs = ks.map (fun (x : Nat) => (x : Int)) ++ z :: rest ∧ ks.Nodup ∧ (∀ k ∈ ks, ∃ s ∈ nx, s.1 = k) ∧ ((∀ s ∈ nx, (s.1 : Int) ≠ z) ∨ ∃ k ∈ ks, (k : Int) = z) := by
  suffices H : ∀ (ks : List Nat) (rs : List Int), ks.Nodup → (∀ k ∈ ks, ∃ s ∈ nx, s.1 = k) → ¬ Gd nx (ks.map (fun (x : Nat) => (x : Int)) ++ rs) → ∃ (ks' : List Nat) (z : Int) (rest : List Int), ks.map (fun (x : Nat) => (x : Int)) ++ rs = ks'.map (fun (x : Nat) => (x : Int)) ++ z :: rest ∧ ks'.Nodup ∧ (∀ k ∈ ks', ∃ s ∈ nx, s.1 = k) ∧ ((∀ s ∈ nx, (s.1 : Int) ≠ z) ∨ ∃ k ∈ ks', (k : Int) = z) by
    exact H [] zs List.nodup_nil (fun k hk => by simp at hk) h
  intro ks rs
  induction rs generalizing ks with
  | nil =>
    intro h1 h2 h3
    refine absurd ⟨?_, fun z hz => ?_⟩ h3
    · rw [List.append_nil]
      exact List.Pairwise.map _ (fun a b hab e => hab (by omega)) h1
    · rw [List.append_nil] at hz
      obtain ⟨k, hk, rfl⟩ := List.mem_map.1 hz
      obtain ⟨s, hs, e⟩ := h2 k hk
      exact ⟨s, hs, by rw [e]⟩
  | cons z rs ih =>
    intro h1 h2 h3
    by_cases hin : ∃ s ∈ nx, (s.1 : Int) = z
    · by_cases htw : ∃ k ∈ ks, (k : Int) = z
      · exact ⟨ks, z, rs, rfl, h1, h2, .inr htw⟩
      · obtain ⟨s, hs, e⟩ := hin
        have e2 : ks.map (fun (x : Nat) => (x : Int)) ++ z :: rs = (ks ++ [s.1]).map (fun (x : Nat) => (x : Int)) ++ rs := by simp [e]
        rw [e2]
        refine ih (ks ++ [s.1]) ?_ ?_ (by rw [← e2]; exact h3)
        · rw [List.nodup_append]
          refine ⟨h1, by simp, fun a ha b hb e3 => ?_⟩
          simp at hb
          subst hb
          exact htw ⟨a, ha, by rw [e3]; exact e⟩
        · intro k hk
          rcases List.mem_append.1 hk with h4 | h4
          · exact h2 k h4
          · simp at h4; exact ⟨s, hs, h4.symm⟩
    · exact ⟨ks, z, rs, rfl, h1, h2, .inl (fun s hs e => hin ⟨s, hs, e⟩)⟩

theorem gd_nats {nx : List (Nat × List Int)} {zs : List Int} (h : Gd nx zs) : ∃ ks : List Nat, zs = ks.map (fun (x : Nat) => (x : Int)) ∧ ks.Nodup ∧ ∀ k ∈ ks, ∃ s ∈ nx, s.1 = k := by
  refine ⟨zs.map Int.toNat, ?_, ?_, fun k hk => ?_⟩
  · rw [List.map_map]
    refine (List.map_id zs).symm.trans (List.map_congr_left fun z hz => ?_)
    obtain ⟨s, _, e⟩ := h.2 z hz
    simp
    omega
  · refine List.Pairwise.map _ (fun a b hab => ?_) (h.1.imp_of_mem (fun {a b} ha hb hab => (⟨ha, hb, hab⟩ : a ∈ zs ∧ b ∈ zs ∧ a ≠ b)))
    obtain ⟨ha, hb, hne⟩ := hab
    obtain ⟨s, _, e⟩ := h.2 a ha
    obtain ⟨s2, _, e2⟩ := h.2 b hb
    omega
  · obtain ⟨z, hz, rfl⟩ := List.mem_map.1 hk
    obtain ⟨s, hs, e⟩ := h.2 z hz
    exact ⟨s, hs, by omega⟩

/-- The epoch that a crash meets next. -/
theorem next_ep {d : Dk} {x : Rk} {w : World} {p k : Nat} (hs : Same d x) (hok : d.ok w p) (hk : k ≤ x.E.length) : ∃ e : Ep, e.ok w d.n ∧ e.ab = (x.E[k]?).getD [] ∧ Next d k e.v ∧ (∀ h : k < d.eps.length, e = d.eps[k]) := by
  by_cases hlt : k < d.eps.length
  · refine ⟨d.eps[k], hok.eps _ (List.getElem_mem hlt), ?_, .inl ⟨hlt, rfl⟩, fun _ => rfl⟩
    rw [← hs.ab]
    simp [Dk.ab, List.getElem?_eq_getElem hlt]
  · have hke : k = d.eps.length := by rw [hs.cnt]; rw [hs.cnt] at hlt; omega
    refine ⟨⟨.slice none 0 0, []⟩, ⟨World.ownsRow_nil _ _ _ _, fun s h => by simp at h, ⟨by simp, fun y hy => by simp at hy⟩⟩, ?_, .inr ⟨hke, rfl⟩, fun h => absurd h hlt⟩
    rw [List.getElem?_eq_none (by rw [hke, hs.cnt]; exact Nat.le_refl _)]
    rfl

theorem ep_in {e : Ep} {nx : List (Nat × List Int)} (he : e.ab = nx) {k : Nat} (h : ∃ s ∈ nx, s.1 = k) : ∃ j, ∃ h : j < e.es.length, e.es[j].sec = k := by
  obtain ⟨s, hs, e2⟩ := h
  rw [← he] at hs
  obtain ⟨t, ht, rfl⟩ := List.mem_map.1 hs
  obtain ⟨j, hj, rfl⟩ := List.getElem_of_mem ht
  exact ⟨j, hj, e2⟩

theorem crash_both {w : World} {pp p q B K : Nat} {d : Dk} {x : Rk} {M : List Nat} (h : Two w pp d p x q M B) (hs : Same d x) (hK : x.E.length ≤ K) (hK2 : K ≤ 1790000000000) (k t : Int) (kp kb : Option Addr) (nk cp ck : Nat) (zs : List Int)
    (hz : IntsZ w kp zs) (hzb : IntsZ w kb zs) (hnk : zs.length = nk) (h1 : nk ≤ cp) (h2 : cp ≤ 9223372036854775807) (h3 : nk ≤ ck) (h4 : ck ≤ 9223372036854775807) (hkB : 0 < nk → ∀ b o, kb = some ⟨b, o, none⟩ → b < B) (ht : t ≤ 9223372036854775807) :
    Calls Try.prog 19 #[.pointer (some ⟨p, 0, none⟩), .int .i64 k, .slice kp nk cp, .int .i64 t] w fun e w1 => ∃ r : Int, e = .returned (.int .i64 r) ∧ Upd (· ∈ d.foot p) w w1 ∧
      Calls Try.prog 34 #[.pointer (some ⟨q, 0, none⟩), .int .i64 k, .slice kb nk ck, .int .i64 t] w1 fun e2 w2 => e2 = .returned (.int .i64 r) ∧ Fin w pp d p x q M B K w2 := by
  have hkM : 0 < zs.length → ∀ b o, kb = some ⟨b, o, none⟩ → b ∉ M := fun h0 b o e hm => by have h5 := hkB (by omega) b o e; have h6 := h.new b hm; omega
  by_cases hkr : 0 ≤ k ∧ k ≤ x.E.length
  · obtain ⟨k, rfl⟩ : ∃ k' : Nat, k = (k' : Int) := ⟨k.toNat, by omega⟩
    have hkl : k ≤ x.E.length := by omega
    obtain ⟨e, heok, heab, hnext, hee⟩ := next_ep hs h.dk hkl
    obtain ⟨nx, hnx⟩ : ∃ nx, nx = (x.E[k]?).getD [] := ⟨_, rfl⟩
    rw [← hnx] at heab
    obtain ⟨ae, ce, hev, hev1, hev2⟩ := own_shape heok.row
    rw [hev] at hnext
    have hr : ∀ (a b : Nat) (hab : a < b) (h : b < nx.length), (nx[a]'(by omega)).1 < nx[b].1 := by
      intro a b hab hb
      cases e2 : x.E[k]? with
      | none => rw [hnx, e2] at hb; simp at hb
      | some es =>
        have e3 : nx = es := by rw [hnx, e2]; rfl
        subst e3
        exact (hs.rise h.dk (List.mem_of_getElem? e2)).1 a b hab hb
    by_cases hg : Gd nx zs
    · obtain ⟨ks, rfl, hnd, hin⟩ := gd_nats hg
      have hkl2 : ks.length = nk := by simpa using hnk
      subst hkl2
      have hI : Ints w kp ks := fun h0 => by
        obtain ⟨b, o, e1, hl, hc⟩ := hz (by simpa using h0)
        exact ⟨b, o, e1, hl, fun j hj => by rw [hc j (by simpa using hj)]; simp⟩
      have hin2 : ∀ k ∈ ks, ∃ j, ∃ h : j < e.es.length, e.es[j].sec = k := fun k hk => ep_in heab (hin k hk)
      by_cases htn : t < 0
      · refine (crash_ch d p k t _ kp ks.length cp w h.dk hnext true 1 (.inr ⟨rfl, htn, rfl⟩) ((choose_any e d.n w heok h.dk.n2 ae ce hev hev1 hev2 kp cp ks hI h1 h2 hnd hin2).mono fun r w1 ⟨v, e1, _, _, hb⟩ => ⟨⟨v, e1⟩, hb⟩)).mono ?_
        rintro e1 w1 ⟨rfl, hb1⟩
        refine ⟨1, rfl, Upd.of_below hb1, ?_⟩
        have t1 := h.below hb1
        refine (rcrash_any x q k M t kb ks.length ck _ nx w1 t1.rk t1.lt hkl hnx hr (hzb.below hb1) hnk h3 h4 hkM ht).mono ?_
        rintro e2 w2 (⟨hn, _⟩ | ⟨_, _, rfl, hb2⟩ | ⟨_, h0, _⟩)
        · exact absurd hg hn
        · exact ⟨rfl, d, x, M, Stp.quiet h hs hK (hb1.trans (hb2.mono hb1.size))⟩
        · omega
      · obtain ⟨T, rfl⟩ : ∃ T : Nat, t = (T : Int) := ⟨t.toNat, by omega⟩
        obtain ⟨D, hcr, hD⟩ : ∃ D, Calls Try.prog 19 #[.pointer (some ⟨p, 0, none⟩), .int .i64 k, .slice kp ks.length cp, .int .i64 T] w (fun r w' => r = .returned (.int .i64 0) ∧ Settled w d p D w') ∧ ∀ j, j < x.n → sec D j = kf nx (mxz (ks.map fun (k : Nat) => (k : Int))) T (over x.f (x.E.take k)) (ks.map fun (k : Nat) => (k : Int)) j := by
          by_cases hlt : k < d.eps.length
          · obtain rfl := hee hlt
            exact ⟨_, crash_keep d p k T _ kp cp ks w h.dk hlt rfl (by rw [hs.cnt]; omega) (by omega) hI h1 h2 hnd hin2, fun j hj => hs.crash h.dk hlt rfl hnx hin2 j hj⟩
          · have hke : k = d.eps.length := by rw [hs.cnt]; rw [hs.cnt] at hlt; omega
            have hnx0 : nx = [] := by rw [hnx, List.getElem?_eq_none (by rw [hke, hs.cnt]; exact Nat.le_refl _)]; rfl
            obtain rfl : ks = [] := by
              cases ks with
              | nil => rfl
              | cons a ks => obtain ⟨s, hs2, _⟩ := hin a (by simp); rw [hnx0] at hs2; simp at hs2
            refine ⟨_, crash_last d p k T kp cp w h.dk hke (by rw [hs.cnt]; omega) h2, fun j hj => ?_⟩
            rw [hs.flush h.dk j hj, List.map_nil, kf_nil, List.take_of_length_le (by rw [hke, hs.cnt]; exact Nat.le_refl _)]
        refine hcr.mono ?_
        rintro e1 w1 ⟨rfl, hst⟩
        refine ⟨0, rfl, hst.2, ?_⟩
        have hG := settled_two h hst
        have t1 := h.prog hst.1 hst.2 hG
        refine (rcrash_any x q k _ T kb ks.length ck _ nx w1 t1.rk t1.lt hkl hnx hr (hzb.upd hst.2 (fun h0 b o e hm => hkM h0 b o e (h.sub b hm))) hnk h3 h4 (fun h0 b o e hm => by have h5 := hkB (by simpa using h0) b o e; have h6 := t1.new b hm; omega) ht).mono ?_
        rintro e2 w2 (⟨hn, _⟩ | ⟨_, h0, _⟩ | ⟨_, _, rfl, y, hy, yn, yB, yf, yE, ysl, hU2, hae⟩)
        · exact absurd hg hn
        · omega
        · exact ⟨rfl, _, y, _, Stp.both h hst.1 hst.2 hG hy (upd_foot hU2) (fun _ h => h) (fun _ h => .inl h) (fun k hk => Nat.lt_of_lt_of_le (t1.lt k hk) hU2.size) yB (fun k hk => by rw [hae] at hk; simp [eb] at hk) (hs.settle (p := p) (w := w) rfl rfl rfl rfl rfl yn yE (fun j hj => by rw [yf]; exact hD j hj)) (by rw [yE]; simp) yn⟩
    · obtain ⟨ks, z, rest, rfl, hnd, hin, hbad⟩ := not_gd hg
      subst hnk
      refine (crash_ch d p k t _ kp _ cp w h.dk hnext false 20 (.inl ⟨rfl, rfl⟩) ((choose_bad e d.n w heok h.dk.n2 ae ce hev hev1 hev2 kp cp ks z rest hz h1 h2 hnd (fun k hk => ep_in heab (hin k hk)) (hbad.imp (fun h5 j hj => h5 e.es[j].ab (by rw [← heab]; exact List.mem_map.2 ⟨_, List.getElem_mem hj, rfl⟩)) id)).mono fun r w1 ⟨e1, hb⟩ => ⟨⟨_, e1⟩, hb⟩)).mono ?_
      rintro e1 w1 ⟨rfl, hb1⟩
      refine ⟨20, rfl, Upd.of_below hb1, ?_⟩
      have t1 := h.below hb1
      refine (rcrash_any x q k M t kb _ ck _ nx w1 t1.rk t1.lt hkl hnx hr (hzb.below hb1) rfl h3 h4 hkM ht).mono ?_
      rintro e2 w2 (⟨_, rfl, hb2⟩ | ⟨hn, _⟩ | ⟨hn, _⟩)
      · exact ⟨rfl, d, x, M, Stp.quiet h hs hK (hb1.trans (hb2.mono hb1.size))⟩
      · exact absurd hn hg
      · exact absurd hn hg
  · refine (crash_out d p k t kp nk cp w h.dk (by rw [hs.cnt]; omega)).mono ?_
    rintro e1 w1 ⟨rfl, rfl⟩
    refine ⟨20, rfl, Upd.refl _ _, (rcrash_out x q M k t kb nk ck w1 h.rk (by omega)).mono ?_⟩
    rintro e2 w2 ⟨rfl, rfl⟩
    exact ⟨rfl, d, x, M, Stp.quiet h hs hK (Below.refl _ _)⟩

/-- Both copies, then the pair names them. -/
theorem copy_both {w : World} {pp p q B K : Nat} {d : Dk} {x : Rk} {M : List Nat} (h : Two w pp d p x q M B) (hs : Same d x) (hK : x.E.length ≤ K) (hK2 : K ≤ 1790000000000) :
    Calls Try.prog 9 #[.pointer (some ⟨p, 0, none⟩)] w fun e w1 => ∃ p', e = .returned (.pointer (some ⟨p', 0, none⟩)) ∧ Below w.heap.size w w1 ∧
      Calls Try.prog 10 #[.pointer (some ⟨q, 0, none⟩)] w1 fun e2 w2 => ∃ (q' : Nat) (d' : Dk) (x' : Rk) (M' : List Nat), e2 = .returned (.pointer (some ⟨q', 0, none⟩)) ∧ Below w.heap.size w w2 ∧
        d'.ok w2 p' ∧ x'.ok w2 q' M' ∧ Same d' x' ∧ (∀ k ∈ d'.foot p', w.heap.size ≤ k) ∧ (∀ k ∈ x'.foot q', w.heap.size ≤ k) ∧ (∀ k ∈ x'.foot q', k ∉ d'.foot p') ∧ (∀ k ∈ d'.foot p', k ∈ M') ∧ (∀ k ∈ M, k ∈ M') ∧ Grew' w M M' ∧ (∀ k ∈ M', k < w2.heap.size) ∧ x'.E = x.E ∧ x'.n = x.n := by
  refine (copy_any d p w h.dk (by rw [hs.cnt]; omega)).mono ?_
  rintro e w1 ⟨p', d', rfl, hd', dn, dd, dw, da, dop, hnew, hb1⟩
  refine ⟨p', rfl, hb1, ?_⟩
  have t1 := h.more (N := d'.foot p') hb1 (fun k hk => ⟨hnew k hk, hd'.lt k hk⟩)
  refine (rcopy_any x q _ w1 t1.rk t1.lt (by omega) (fun es hes => (hs.rise h.dk hes).2)).mono ?_
  rintro e2 w2 ⟨y, q', Mi, rfl, hc⟩
  have hE : y.E = x.E := by rw [hc.E, List.take_length]
  refine ⟨q', d', y, Mi, rfl, hb1.trans (hc.bel.mono hb1.size), hd'.frame (fun k hk => hc.bel.block k (hd'.lt k hk)), hc.ok, ⟨by rw [dn, hs.n, hc.n], fun j hj => by rw [dd, hc.f]; exact hs.dur j (by rw [← hc.n]; exact hj), fun j hj => by rw [dw, hc.f, hE]; exact hs.wr j (by rw [← hc.n]; exact hj), by rw [da, hE, hs.ab], by rw [dop, hE, hc.sl]; exact hs.opn⟩, hnew, fun k hk => Nat.le_trans hb1.size (hc.foot k hk), fun k hk hk2 => ?_, fun k hk => hc.sub k (List.mem_append.2 (.inl hk)), fun k hk => hc.sub k (List.mem_append.2 (.inr hk)), fun k hk => ?_, hc.lt, hE, hc.n⟩
  · have h5 := hc.foot k hk
    have h6 := hd'.lt k hk2
    omega
  · rcases hc.grew k hk with h5 | h5
    · rcases List.mem_append.1 h5 with h6 | h6
      · exact .inr (hnew k h6)
      · exact .inl h6
    · exact .inr (Nat.le_trans hb1.size h5)

/-- The pair names other disks. -/
theorem Stp.moved {w w2 w3 : World} {pp p q B K p' q' : Nat} {d d' : Dk} {x x' : Rk} {M M' : List Nat} (h : Two w pp d p x q M B) (hK : x.E.length ≤ K) (hb : Below w.heap.size w w2) (hd : d'.ok w2 p') (hx : x'.ok w2 q' M') (hs : Same d' x') (n1 : ∀ k ∈ d'.foot p', w.heap.size ≤ k) (n2 : ∀ k ∈ x'.foot q', w.heap.size ≤ k) (hap : ∀ k ∈ x'.foot q', k ∉ d'.foot p') (hdM : ∀ k ∈ d'.foot p', k ∈ M') (hM : ∀ k ∈ M, k ∈ M') (hg : Grew' w M M') (hl : ∀ k ∈ M', k < w2.heap.size) (hE : x'.E = x.E) (hnum : x'.n = x.n)
    (u : Upd (· = pp) w2 w3) (hc : w3.heap[pp]? = some (.cells #[.pointer (some ⟨p', 0, none⟩), .pointer (some ⟨q', 0, none⟩)] 32 (0, 0))) : Stp w w3 pp d p x q M B K d' p' x' q' M' := by
  have hpl := h.lt pp h.pM
  have hpd : pp ∉ d'.foot p' := fun hk => by have := n1 pp hk; omega
  have hpx : pp ∉ x'.foot q' := fun hk => by have := n2 pp hk; omega
  refine ⟨⟨hc, hd.upd u (fun k hk e => hpd (by have e' : k = pp := e; rw [← e']; exact hk)), hx.move u (fun k _ e => by have e' : k = pp := e; rw [e']; exact hM pp h.pM) (fun k hk e => hpx (by have e' : k = pp := e; rw [← e']; exact hk)), hdM, hM pp h.pM, fun k hk => Nat.lt_of_lt_of_le (hl k hk) u.size, hap, hpd, hpx, fun k hk => ?_⟩, hs, by rw [hE]; omega, (Upd.of_below (F := Turns d p x q pp) hb).trans u (fun k _ e => .inr (.inr e)), hM, hg, fun k hk => ?_, hnum⟩
  · rcases hg k hk with h5 | h5
    · exact h.new k h5
    · exact Nat.le_trans h.base h5
  · rcases hk with h5 | h5 | h5
    · exact .inr (n1 k h5)
    · exact .inr (n2 k h5)
    · exact .inl (.inr (.inr h5))

end Go.Proofs.Ytcophmafkpbdaaa

/- Reading a sector of both disks; what does needs besides. -/
namespace Go.Proofs.Ytcophmafkpbdaaa
open Go.RowKit
set_option linter.unusedVariables false

theorem own_src {w : World} {B : Nat} {a : Option Addr} {n c : Nat} {zs : List Int} (h : w.ownsRow B 5 1 (.slice a n c) n (zs.map (Value.int .u8))) : Src w a n zs := by
  have hl : zs.length = n := by have := h.1; simpa using this
  rcases h.2 with ⟨e, h0⟩ | ⟨g, cap, cur, e, rest⟩
  · subst h0
    exact ⟨hl, fun h => absurd h (Nat.lt_irrefl 0)⟩
  · injection e with e1 e2 e3
    subst e1
    exact Src.own h

theorem read_both {w : World} {pp p q B : Nat} {d : Dk} {x : Rk} {M : List Nat} (h : Two w pp d p x q M B) (hs : Same d x) (i : Int) :
    Calls Try.prog 35 #[.pointer (some ⟨p, 0, none⟩), .int .i64 i] w fun e w1 => ∃ (ar : Option Addr) (nr cr : Nat) (E : Int), e = .returned (.tuple #[.slice ar nr cr, .int .i64 E]) ∧ Below w.heap.size w w1 ∧
      ∀ wx, Below w1.heap.size w1 wx → Calls Try.prog 36 #[.pointer (some ⟨q, 0, none⟩), .int .i64 i] wx fun e2 w2 => ∃ (ar2 : Option Addr) (nr2 cr2 : Nat) (z : List Int), e2 = .returned (.tuple #[.slice ar2 nr2 cr2, .int .i64 E]) ∧ Below wx.heap.size wx w2 ∧ Src w2 ar nr z ∧ Src w2 ar2 nr2 z := by
  by_cases hi : 0 ≤ i ∧ i < x.n
  · obtain ⟨I, rfl⟩ : ∃ I : Nat, i = (I : Int) := ⟨i.toNat, by omega⟩
    have hI : I < x.n := by omega
    refine (dread d p I w h.dk (by rw [hs.n]; exact hI)).mono ?_
    rintro e w1 ⟨g, c, rfl, ho, hb⟩
    refine ⟨_, _, _, 0, rfl, hb, fun wx hbx => ?_⟩
    have t := (h.below hb).below hbx
    refine (rread q x.n I x.E.length x.cE _ x.f M x.aE x.E wx t.rk.cell.1 t.rk.cell.2.1 rfl t.rk.B t.rk.epsl hI t.rk.er.2.1 t.rk.er.2.2.1).mono ?_
    rintro e2 w2 ⟨g2, c2, rfl, ho2, hb2⟩
    refine ⟨_, _, _, sec d.wr I, rfl, hb2, ((own_src ho).below hbx).below hb2, ?_⟩
    rw [hs.wr I hI]
    exact own_src ho2
  · refine (dread_no d p i w h.dk (by rw [hs.n]; exact hi)).mono ?_
    rintro e w1 ⟨rfl, rfl⟩
    refine ⟨none, 0, 0, 1, rfl, Below.refl _ _, fun wx hbx => ?_⟩
    have t := h.below hbx
    refine (rread_no q x.n x.cB _ i wx t.rk.cell.1 hi).mono ?_
    rintro e2 w2 ⟨rfl, rfl⟩
    exact ⟨none, 0, 0, [], rfl, Below.refl _ _, Src.nil _ _, Src.nil _ _⟩

theorem clone_opt (ab : Option Addr) (lb cb : Nat) (zs : List Int) (w : World) (hs : Src w ab lb zs) (hr : lb ≤ 140737488355328) (hn : ab = none → lb = 0 ∧ cb = 0) :
    Calls Try.prog 21 #[.slice ab lb cb] w fun e w' => ∃ (av : Option Addr) (cv : Nat), e = .returned (.slice av lb cv) ∧ w'.ownsRow w.heap.size 5 1 (.slice av lb cv) lb (zs.map (Value.int .u8)) ∧ Below w.heap.size w w' := by
  cases ab with
  | none =>
    obtain ⟨rfl, rfl⟩ := hn rfl
    refine (clone_nil 0 0 w).mono ?_
    rintro e w' ⟨rfl, rfl⟩
    obtain rfl : zs = [] := List.eq_nil_of_length_eq_zero hs.1
    exact ⟨none, 0, rfl, World.ownsRow_nil _ _ _ _, Below.refl _ _⟩
  | some a =>
    refine (clone_any a lb cb zs w hs hr).mono ?_
    rintro e w' ⟨g, c, rfl, ho, hb⟩
    exact ⟨_, c, rfl, ho, hb⟩

theorem Try.info3k : (Try.prog.info? 3).map (fun i => (i.zero, i.size, i.bytes)) = some (some (.int .i64 0), 1, 8) := by kernel_rfl

/-- 'append([]int{}, keep...)' in a region that draws. -/
theorem step_append_keep {ops : Array Oper} {o : Oper} {a : Act} {w : World} {K : Act → World → Prop} {Q : Exit → Act → World → Prop} {E : Prop} (hg : o.guard = none) (dd xx : Operand)
    (hop : o.op = Op.call { callee := Callee.builtin Builtin.append, args := #[dd, xx], argTypes := #[36, 36] }) (g nk ck : Nat) (kb : Option Addr) (zs : List Int) (hd : a.eval dd = .slice (some ⟨g, 0, none⟩) 0 0) (hx : a.eval xx = .slice kb nk ck)
    (hown : w.ownsRow 0 3 1 (.slice (some ⟨g, 0, none⟩) 0 0) 0 []) (hz : IntsZ w kb zs) (hnk : zs.length = nk) (hn : kb = none → nk = 0 ∧ ck = 0) (hb : nk ≤ 17592186044416)
    (hK : ∀ av cv w', Hid (w'.ownsRow 0 3 1 (.slice av nk cv) nk (zs.map (Value.int .i64))) → Hid (Upd (· = g) w w') → K (a.put o.dst (.slice av nk cv)) w') :
    if Region.wanted o (yielded ops a.tmps) = true then Oper.wp Try.prog o a w K Q else E := by
  obtain ⟨i3, hi3, hy0, hy1, hy2⟩ := info_parts Try.info3k
  cases kb with
  | none =>
    obtain ⟨rfl, rfl⟩ := hn rfl
    obtain rfl : zs = [] := List.eq_nil_of_length_eq_zero hnk
    have hrun := run_append_owned_none (P := Try.prog) (w := w) 0 36 o.type 3 i3 1 Try.underlying36 hi3 _ 0 [] hown
    exact step_append_is hg dd xx 36 36 hop _ _ hd hx hrun (hK _ 0 w (hid hown) (hid (Upd.refl _ _)))
  | some ad =>
    obtain ⟨v', w', hr, ho, hgr, _, _⟩ := run_append_where (P := Try.prog) w 36 o.type 3 i3 _ 1 8 Try.underlying36 hi3 hy0 hy1 hy2 rfl (by decide) _ 0 [] hown ad nk ck (zs.map (Value.int .i64)) (by simp [hnk]) (by
      intro j u hj
      have hjl : j < zs.length := by have := (List.getElem?_eq_some_iff.1 hj).1; simpa using this
      obtain ⟨b, o', e, _, hc⟩ := hz (by omega)
      obtain rfl := Option.some.inj e
      rw [Addr.add_lit, hc j hjl, ← hj]
      simp [List.getElem?_eq_getElem hjl]) (fun u hu => by obtain ⟨z, _, rfl⟩ := List.mem_map.1 hu; rfl) (by unfold maxLen; omega) (by omega)
    rw [Nat.zero_add, List.nil_append] at ho
    obtain ⟨av, cv, rfl, _, _⟩ := own_shape ho
    refine step_append_is hg dd xx 36 36 hop _ _ hd hx hr (hK av cv w' (hid ho) (hid ((Upd.of_grown hgr).mono fun k _ hk => ?_)))
    simp [Value.ownBlock] at hk
    exact hk

/-- What does has got behind its first statement. -/
structure Rdy (w wF : World) (av : Option Addr) (lb cv : Nat) (bz : List Int) (kp : Option Addr) (nk cp : Nat) (zs : List Int) : Prop where
  bel : Below w.heap.size w wF
  giv : wF.ownsRow w.heap.size 5 1 (.slice av lb cv) lb (bz.map (Value.int .u8))
  kee : IntsZ wF kp zs
  kc : nk ≤ cp ∧ cp ≤ 9223372036854775807

theorem ints_own {w : World} {a : Option Addr} {n c : Nat} {zs : List Int} (h : w.ownsRow 0 3 1 (.slice a n c) n (zs.map (Value.int .i64))) : IntsZ w a zs := by
  have hl : zs.length = n := by have := h.1; simpa using this
  intro h0
  rcases h.2 with ⟨e, h1⟩ | ⟨g, cap, cur, e, rest⟩
  · omega
  · injection e with e1 e2 e3
    subst e1
    refine ⟨g, 0, rfl, (h.lt g rfl).2, fun j hj => ?_⟩
    rw [Nat.zero_add, h.cellAt _ (by omega)]
    simp [List.getElem?_eq_getElem hj]

theorem rdy1 {w w6 w8 : World} {e : Obj} {av kp : Option Addr} {lb cv nk cp : Nat} {bz zs : List Int} (hb : Below w.heap.size w w6) (ho : w6.ownsRow w.heap.size 5 1 (.slice av lb cv) lb (bz.map (Value.int .u8))) (hk : w8.ownsRow 0 3 1 (.slice kp nk cp) nk (zs.map (Value.int .i64))) (hu : Upd (· = w6.heap.size) (w6.alloc e) w8) : Rdy w w8 av lb cv bz kp nk cp zs := by
  have hb8 : Below w6.heap.size w6 w8 := (one_alloc w6 e).trans (hu.below (by simp) (fun k hk => by have : k = w6.heap.size := hk; omega))
  exact ⟨hb.trans (hb8.mono hb.size), own_below ho hb8, ints_own hk, own_cap hk⟩

theorem rdy2 {w W w6 w8 : World} {e : Obj} {av kp : Option Addr} {lb cv nk cp : Nat} {bz zs : List Int} (hW : Below w.heap.size w W) (hb : Below (W.alloc e).heap.size (W.alloc e) w6) (ho : w6.ownsRow (W.alloc e).heap.size 5 1 (.slice av lb cv) lb (bz.map (Value.int .u8))) (hk : w8.ownsRow 0 3 1 (.slice kp nk cp) nk (zs.map (Value.int .i64))) (hu : Upd (· = W.heap.size) w6 w8) : Rdy w w8 av lb cv bz kp nk cp zs := by
  have h6 : Below W.heap.size W w6 := (one_alloc W e).trans (hb.mono (by simp))
  refine ⟨(hW.trans (h6.mono hW.size)).trans (hu.below (Nat.le_trans hW.size h6.size) (fun k hk => by have : k = W.heap.size := hk; have := hW.size; omega)), ?_, ints_own hk, own_cap hk⟩
  refine own_base (B' := (W.alloc e).heap.size) (hu.own ho (fun k hk e2 => ?_)) (Nat.le_trans hW.size (by simp))
  have h1 := (ho.lt k hk).1
  have h2 : k = W.heap.size := e2
  simp at h1
  omega

theorem rdy3 {w W w6 w8 : World} {e : Obj} {av kp : Option Addr} {lb cv nk cp : Nat} {bz zs : List Int} (hW : Below w.heap.size w W) (hu : Upd (· = W.heap.size) (W.alloc e) w8) (hk : w8.ownsRow 0 3 1 (.slice kp nk cp) nk (zs.map (Value.int .i64))) (hb : Below w8.heap.size w8 w6) (ho : w6.ownsRow w8.heap.size 5 1 (.slice av lb cv) lb (bz.map (Value.int .u8))) : Rdy w w6 av lb cv bz kp nk cp zs := by
  have h8 : Below W.heap.size W w8 := (one_alloc W e).trans (hu.below (by simp) (fun k hk => by have : k = W.heap.size := hk; omega))
  have h8' := hW.trans (h8.mono hW.size)
  exact ⟨h8'.trans (hb.mono h8'.size), own_base ho h8'.size, (ints_own hk).below hb, own_cap hk⟩

theorem Stp.back {w wF w' : World} {pp p q B K p' q' : Nat} {d d' : Dk} {x x' : Rk} {M M' N : List Nat} (h : Stp wF w' pp d p x q (N ++ M) B K d' p' x' q' M') (hb : Below w.heap.size w wF) (hN : ∀ k ∈ N, w.heap.size ≤ k) : Stp w w' pp d p x q M B K d' p' x' q' M' :=
  ⟨h.two, h.same, h.cnt, (Upd.of_below (F := Turns d p x q pp) hb).trans h.upd (fun _ _ h => h), fun k hk => h.sub k (List.mem_append.2 (.inr hk)), fun k hk => by
    rcases h.grew k hk with h1 | h1
    · rcases List.mem_append.1 h1 with h2 | h2
      · exact .inr (hN k h2)
      · exact .inl h2
    · exact .inr (Nat.le_trans hb.size h1), fun k hk => (h.fresh k hk).imp id (fun h1 => Nat.le_trans hb.size h1), h.num⟩

/-- Bytes that the step itself had made are wiped. -/
theorem Stp.wipe {w w8 w9 : World} {pp p q B K p' q' g : Nat} {d d' : Dk} {x x' : Rk} {M M' : List Nat} (h : Stp w w8 pp d p x q M B K d' p' x' q' M') (hgM : g ∈ M') (hg : w.heap.size ≤ g) (hgT : ¬ Turns d' p' x' q' pp g) (u : Upd (· = g) w8 w9) : Stp w w9 pp d p x q M B K d' p' x' q' M' := by
  have hnd : ∀ k, Turns d' p' x' q' pp k → ¬ k = g := fun k hk e => hgT (e ▸ hk)
  refine ⟨⟨(u.block pp (h.two.lt pp h.two.pM) (hnd pp (.inr (.inr rfl)))).trans h.two.cells, h.two.dk.upd u (fun k hk => hnd k (.inl hk)), h.two.rk.move u (fun k _ e => by have e' : k = g := e; rw [e']; exact hgM) (fun k hk => hnd k (.inr (.inl hk))), h.two.sub, h.two.pM, fun k hk => Nat.lt_of_lt_of_le (h.two.lt k hk) u.size, h.two.apart, h.two.pd, h.two.px, h.two.new⟩, h.same, h.cnt, h.upd.trans u (fun k hk e => by have e' : k = g := e; omega), h.sub, h.grew, h.fresh, h.num⟩

end Go.Proofs.Ytcophmafkpbdaaa
