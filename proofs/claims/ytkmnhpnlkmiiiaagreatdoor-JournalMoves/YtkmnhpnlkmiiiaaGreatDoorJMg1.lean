/- The journal, merged. -/
import Derived.Test.YtkmnhpnlkmiiiaaGreatDoorJOpenS
import Derived.Test.YtkmnhpnlkmiiiaaGreatDoorBack
import Derived.Test.YtkmnhpnlkmiiiaaGreatDoorWritten
import Derived.Test.YtkmnhpnlkmiiiaaGreatDoorDImg
import Derived.Test.YtkmnhpnlkmiiiaaGreatDoorJOpen

/- What a commit and a new beginning leave on an image: no program here. -/
namespace Go.Proofs.YtkmnhpnlkmiiiaaGreatDoor
open Go.RowKit Num Jr
set_option linter.unusedVariables false

namespace Jr
/-- The bytes ahead of a sector's load. -/
def sectHd (place gen num : Nat) (last : Bool) (k : Nat) : List Int := [74, (k : Int)] ++ le place 2 ++ le gen 8 ++ [if last then 1 else 0] ++ le num 8
theorem length_sectHd (place gen num : Nat) (last : Bool) (k : Nat) : (sectHd place gen num last k).length = 21 := by simp [sectHd, length_le]
theorem sectB_hd (place gen num : Nat) (last : Bool) (load : List Int) : ∃ r, sectB place gen num last load = sectHd place gen num last load.length ++ (load ++ r) := by
  refine ⟨List.replicate (102 - load.length) 0 ++ le (Crc.crc ([74, ((load.length : Nat) : Int)] ++ le place 2 ++ le gen 8 ++ [if last then 1 else 0] ++ le num 8 ++ load ++ List.replicate (102 - load.length) 0)) 4 ++ [165], ?_⟩
  simp [sectB, seald, sectHd]
theorem sectB_used (place gen num : Nat) (last : Bool) (load : List Int) : (sectB place gen num last load).getD 1 0 = (load.length : Int) := by
  obtain ⟨r, e⟩ := sectB_hd place gen num last load
  rw [e]; simp [sectHd]
theorem sectB_last (place gen num : Nat) (last : Bool) (load : List Int) : (sectB place gen num last load).getD 12 0 = if last then 1 else 0 := by
  obtain ⟨r, e⟩ := sectB_hd place gen num last load
  have h12 : ([74, ((load.length : Nat) : Int)] ++ le place 2 ++ le gen 8).length = 12 := by simp [length_le]
  rw [e, sectHd, List.getD_eq_getElem?_getD]
  rw [List.append_assoc, List.append_assoc, List.getElem?_append_right (by omega), h12]
  simp
theorem sectB_load (place gen num : Nat) (last : Bool) (load : List Int) : ldOf (sectB place gen num last load) = load := by
  unfold ldOf
  rw [sectB_used, Int.toNat_natCast]
  obtain ⟨r, e⟩ := sectB_hd place gen num last load
  rw [e, List.drop_left' (length_sectHd _ _ _ _ _), List.take_left' rfl]
theorem rightS_sect (place gen num : Nat) (last : Bool) (load : List Int) (h1 : 1 ≤ load.length) (h2 : load.length ≤ 100) : rightS (sectB place gen num last load) place gen num = true := by
  unfold rightS
  have hl : decide ((sectB place gen num last load).getD 12 0 = 1) = last := by rw [sectB_last]; cases last <;> simp
  have hld : ((sectB place gen num last load).drop 21).take ((sectB place gen num last load).getD 1 0).toNat = load := sectB_load place gen num last load
  rw [hl, hld, sectB_used]
  exact decide_eq_true ⟨by omega, by omega, rfl⟩

/-- A group's sectors, from a place on. -/
def writeGo (first gen num : Nat) : Nat → (Nat → List Int) → Nat → List Int → (Nat → List Int)
  | 0, S, _, _ => S
  | f + 1, S, place, load => if load = [] then S else writeGo first gen num f (upS S (first + place) (sectB place gen num (decide (load.drop 100 = [])) (load.take 100))) (place + 1) (load.drop 100)

theorem writeGo_out (first gen num : Nat) : ∀ (f : Nat) (S : Nat → List Int) (place : Nat) (load : List Int) (i : Nat), (i < first + place ∨ first + place + needN load.length ≤ i) → writeGo first gen num f S place load i = S i
  | 0, S, place, load, i, _ => rfl
  | f + 1, S, place, load, i, h => by
    unfold writeGo
    by_cases hl : load = []
    · rw [if_pos hl]
    · rw [if_neg hl]
      have hp : 0 < load.length := List.length_pos_iff.2 hl
      have hn := needN_pos load.length hp
      have hd : needN (load.drop 100).length ≤ needN load.length - 1 := by rw [List.length_drop]; unfold needN; omega
      rw [writeGo_out first gen num f _ (place + 1) (load.drop 100) i (by omega)]
      unfold upS
      rw [if_neg (by omega)]

theorem writeGo_len (first gen num : Nat) : ∀ (f : Nat) (S : Nat → List Int) (place : Nat) (load : List Int), (∀ i, (S i).length = 128) → ∀ i, (writeGo first gen num f S place load i).length = 128
  | 0, S, place, load, h => h
  | f + 1, S, place, load, h => by
    unfold writeGo
    by_cases hl : load = []
    · rw [if_pos hl]; exact h
    · rw [if_neg hl]
      refine writeGo_len first gen num f _ _ _ (fun i => ?_)
      unfold upS
      split
      · exact length_sectB _ _ _ _ _ (by simp; omega)
      · exact h i

/-- A group that was written is read. -/
theorem loadGo_write (first gen num : Nat) : ∀ (f : Nat) (S : Nat → List Int) (place : Nat) (load acc : List Int) (k : Nat), load ≠ [] → needN load.length ≤ f → needN load.length ≤ k → loadGo (writeGo first gen num f S place load) first gen num k place acc = acc ++ load
  | 0, S, place, load, acc, k, hl, hf, hk => by
    have := needN_pos load.length (List.length_pos_iff.2 hl); omega
  | f + 1, S, place, load, acc, k, hl, hf, hk => by
    have hp : 0 < load.length := List.length_pos_iff.2 hl
    have hn := needN_pos load.length hp
    obtain ⟨k, rfl⟩ : ∃ k', k = k' + 1 := ⟨k - 1, by omega⟩
    have hd : needN (load.drop 100).length = needN load.length - 1 := by rw [List.length_drop]; unfold needN; omega
    rw [writeGo, if_neg hl]
    obtain ⟨T, gT⟩ : ∃ T, T = writeGo first gen num f (upS S (first + place) (sectB place gen num (decide (load.drop 100 = [])) (load.take 100))) (place + 1) (load.drop 100) := ⟨_, rfl⟩
    rw [← gT]
    have hT : T (first + place) = sectB place gen num (decide (load.drop 100 = [])) (load.take 100) := by
      rw [gT, writeGo_out first gen num f _ (place + 1) (load.drop 100) (first + place) (by omega)]
      simp [upS]
    have htl : (load.take 100).length = min 100 load.length := by rw [List.length_take]
    rw [loadGo, hT, if_pos (rightS_sect _ _ _ _ _ (by omega) (by omega)), sectB_last, sectB_used, sectB_load]
    by_cases hz : load.drop 100 = []
    · have hlen : load.length ≤ 100 := by have := congrArg List.length hz; rw [List.length_drop] at this; simp at this; omega
      rw [if_pos (by simp [hz]), List.take_of_length_le hlen]
    · have hlen : 100 < load.length := by
        rcases Nat.lt_or_ge 100 load.length with h | h
        · exact h
        · exact absurd (List.drop_of_length_le h) hz
      rw [if_neg (by simp [hz]), if_neg (by rw [htl]; omega), gT]
      rw [loadGo_write first gen num f _ (place + 1) (load.drop 100) (acc ++ load.take 100) k hz (by omega) (by omega), List.append_assoc, List.take_append_drop]

/-- A record as a text of wire. -/
def txtB (r : List Int) : List Int := enc r.length ++ r
def loadOf (L : List (List Int)) : List Int := (L.map txtB).flatten
theorem loadOf_append (a b : List (List Int)) : loadOf (a ++ b) = loadOf a ++ loadOf b := by simp [loadOf]
def RecOk (r : List Int) : Prop := 1 ≤ r.length ∧ r.length ≤ 2000 ∧ Bytes r
theorem enc_pos (n : Nat) : 0 < (enc n).length := by rw [length_enc]; omega
theorem loadOf_nil {L : List (List Int)} (h : loadOf L = []) : L = [] := by
  cases L with
  | nil => rfl
  | cons a r =>
    exfalso
    have h1 : 0 < (loadOf (a :: r)).length := by
      have := enc_pos a.length
      simp only [loadOf, List.map_cons, List.flatten_cons, txtB, List.length_append]
      omega
    rw [h] at h1
    simp at h1
theorem txt_rec (r rest : List Int) (h : RecOk r) : txt (txtB r ++ rest) 2000 = (r, (enc r.length).length + r.length, 0) := by
  have hd : dec (txtB r ++ rest) = (r.length, (enc r.length).length, 0) := by
    rw [txtB, List.append_assoc]; exact dec_enc r.length (by have := h.2.1; omega) (r ++ rest)
  unfold txt
  rw [hd]
  have h2 := h.2.1
  rw [if_neg (by simp), if_neg (by simp; omega), if_neg (by simp [txtB])]
  simp only [txtB, List.append_assoc]
  rw [List.drop_left' rfl, List.take_left' rfl]
theorem bytes_txtB {r : List Int} (h : Bytes r) : Bytes (txtB r) := (enc_bytes _).append h
theorem bytes_loadOf {L : List (List Int)} (h : ∀ r ∈ L, RecOk r) : Bytes (loadOf L) := by
  intro z hz
  obtain ⟨l, hl, hz'⟩ := List.mem_flatten.1 hz
  obtain ⟨r, hr, rfl⟩ := List.mem_map.1 hl
  exact bytes_txtB (h r hr).2.2 z hz'
theorem recsGo_load (L : List (List Int)) : ∀ (f : Nat) (acc : List (List Int)), (∀ r ∈ L, RecOk r) → (loadOf L).length < f → recsGo f (loadOf L) acc = acc ++ L := by
  induction L with
  | nil =>
    intro f acc _ hf
    cases f with
    | zero => simp at hf
    | succ f => simp [loadOf, recsGo]
  | cons r L ih =>
    intro f acc hL hf
    cases f with
    | zero => omega
    | succ f =>
      have hr := hL r (List.mem_cons_self ..)
      have e : loadOf (r :: L) = txtB r ++ loadOf L := by simp [loadOf]
      have hne : loadOf (r :: L) ≠ [] := fun h => by have := loadOf_nil h; cases this
      rw [recsGo, if_neg hne, e, txt_rec r _ hr]
      have hr0 : r ≠ [] := fun h => by have := hr.1; rw [h] at this; simp at this
      rw [if_neg (by simp [hr0])]
      simp only
      have hdl : (enc r.length).length + r.length = (txtB r).length := by simp [txtB]
      rw [hdl, List.drop_left' rfl, ih f (acc ++ [r]) (fun x hx => hL x (List.mem_cons_of_mem _ hx)) (by
        rw [e, List.length_append] at hf
        have := enc_pos r.length
        simp only [txtB, List.length_append] at hf
        omega)]
      simp
theorem recsOf_load (L : List (List Int)) (h : ∀ r ∈ L, RecOk r) : recsOf (loadOf L) = L := by
  rw [recsOf, recsGo_load L _ [] h (by omega), List.nil_append]

/-- What was read of an image is read of another one that is alike up to there; it goes on from there. -/
theorem grpsGo_then (S T : Nat → List Int) (first gen size : Nat) (hS : ∀ i, (S i).length = 128) : ∀ (f g u : Nat) (acc : List (List Int)), u ≤ size → size - u < f →
    (∀ i, i < (grpsGo S first gen size f g u acc).2.2 → T (first + i) = S (first + i)) → ∃ f', size - (grpsGo S first gen size f g u acc).2.2 < f' ∧ grpsGo T first gen size f g u acc = grpsGo T first gen size f' (grpsGo S first gen size f g u acc).2.1 (grpsGo S first gen size f g u acc).2.2 (grpsGo S first gen size f g u acc).1
  | 0, g, u, acc, hu, hf => by omega
  | f + 1, g, u, acc, hu, hf => by
    intro hT
    by_cases h : recsOf (loadGo S first gen (g + 1) (size - u) u []) = []
    · have e : grpsGo S first gen size (f + 1) g u acc = (acc, g, u) := by rw [grpsGo, if_pos h]
      rw [e]
      exact ⟨f + 1, hf, rfl⟩
    · have hn : loadGo S first gen (g + 1) (size - u) u [] ≠ [] := fun e => h (by rw [e]; exact recsOf_nil)
      have hl := loadGo_len S first gen (g + 1) hS (size - u) u [] hn
      simp only [List.length_nil, Nat.zero_add] at hl
      have h1 := needN_le _ _ hl.2
      have h2 := needN_pos _ hl.1
      have e : grpsGo S first gen size (f + 1) g u acc = grpsGo S first gen size f (g + 1) (u + needN (loadGo S first gen (g + 1) (size - u) u []).length) (acc ++ recsOf (loadGo S first gen (g + 1) (size - u) u [])) := by rw [grpsGo, if_neg h]
      rw [e] at hT ⊢
      have hle := grpsGo_le S first gen size hS f (g + 1) (u + needN (loadGo S first gen (g + 1) (size - u) u []).length) (acc ++ recsOf (loadGo S first gen (g + 1) (size - u) u [])) (by omega)
      have hload : loadGo T first gen (g + 1) (size - u) u [] = loadGo S first gen (g + 1) (size - u) u [] := (loadGo_eq S T first gen (g + 1) hS (size - u) u [] hn).2 0 (fun i hi hl' => hT i (by
        simp only [List.length_nil, Nat.sub_zero] at hl'
        omega))
      have e2 : grpsGo T first gen size (f + 1) g u acc = grpsGo T first gen size f (g + 1) (u + needN (loadGo S first gen (g + 1) (size - u) u []).length) (acc ++ recsOf (loadGo S first gen (g + 1) (size - u) u [])) := by
        rw [grpsGo, hload, if_neg h]
      rw [e2]
      exact grpsGo_then S T first gen size hS f (g + 1) _ _ (by omega) (by omega) hT

/-- An image with a journal: its generation, its records, groups and used sectors. -/
structure JI (n : Nat) (S : Nat → List Int) (gen : Nat) (done : List (List Int)) (groups used : Nat) : Prop where
  len : ∀ i, (S i).length = 128
  g1 : 1 ≤ gen
  g2 : gen ≤ 2147483648
  head : rightH (S (gen % 2)) (gen % 2) = gen
  other : rightH (S ((gen + 1) % 2)) ((gen + 1) % 2) < gen
  grp : grps S (firstOf gen n) gen (szOf n) = (done, groups, used)
  use : used ≤ szOf n
  zero : ∀ i, used ≤ i → i < szOf n → S (firstOf gen n + i) = zero128
  oth : S ((gen + 1) % 2) = zero128 ∨ ∃ k, 1 ≤ k ∧ k ≤ 2147483648 ∧ k % 2 = (gen + 1) % 2 ∧ S ((gen + 1) % 2) = headB k

/-- A right head. -/
theorem rightH_is {zs : List Int} {i k : Nat} (h : rightH zs i = k) (hk : k ≠ 0) : 1 ≤ k ∧ k ≤ 2147483648 ∧ k % 2 = i ∧ zs = headB k := by
  unfold rightH at h
  split at h
  · rename_i hc
    rw [h] at hc
    exact ⟨by omega, by omega, hc.2.2.1, hc.2.2.2⟩
  · omega

theorem JI.newest {n : Nat} {S : Nat → List Int} {gen : Nat} {done : List (List Int)} {groups used : Nat} (h : JI n S gen done groups used) : Jr.newest S = gen := by
  have h1 := h.head
  have h2 := h.other
  unfold Jr.newest
  rcases (show gen % 2 = 0 ∨ gen % 2 = 1 by omega) with e | e
  · have e2 : (gen + 1) % 2 = 1 := by omega
    rw [e] at h1
    rw [e2] at h2
    omega
  · have e2 : (gen + 1) % 2 = 0 := by omega
    rw [e] at h1
    rw [e2] at h2
    omega
theorem JI.opened {n : Nat} {S : Nat → List Int} {gen : Nat} {done : List (List Int)} {groups used : Nat} (h : JI n S gen done groups used) : Jr.opened n S = (done, groups, used) ∧ openGen S = gen := by
  have hn := h.newest
  have hg := h.g1
  unfold Jr.opened openGen
  rw [hn, if_neg (by omega), if_neg (by omega)]
  exact ⟨h.grp, rfl⟩

/-- Another area's sectors. -/
theorem area_apart (g n i j : Nat) (hi : i < szOf n) (hj : j < szOf n) : firstOf (g + 1) n + i ≠ firstOf g n + j := by
  unfold firstOf szOf at *
  rcases (show g % 2 = 0 ∨ g % 2 = 1 by omega) with e | e
  · rw [e, show (g + 1) % 2 = 1 by omega]; omega
  · rw [e, show (g + 1) % 2 = 0 by omega]; omega

theorem upS_len {S : Nat → List Int} (h : ∀ i, (S i).length = 128) (k : Nat) (bs : List Int) (hb : bs.length = 128) : ∀ i, (upS S k bs i).length = 128 := fun i => by
  unfold upS; split
  · exact hb
  · exact h i
theorem wipeS_len {S : Nat → List Int} (h : ∀ i, (S i).length = 128) (l : List Nat) : ∀ i, (wipeS S l i).length = 128 := fun i => by
  unfold wipeS; split
  · simp [zero128]
  · exact h i

/-- A commit. -/
theorem JI.commit {n : Nat} {S : Nat → List Int} {gen : Nat} {done : List (List Int)} {groups used : Nat} (h : JI n S gen done groups used) (waits : List (List Int)) (hw : waits ≠ []) (hr : ∀ r ∈ waits, RecOk r) (hroom : needN (loadOf waits).length ≤ szOf n - used) (f : Nat) (hf : needN (loadOf waits).length ≤ f) :
    JI n (writeGo (firstOf gen n) gen (groups + 1) f S used (loadOf waits)) gen (done ++ waits) (groups + 1) (used + needN (loadOf waits).length) := by
  have hl : loadOf waits ≠ [] := fun e => hw (loadOf_nil e)
  have hpos := needN_pos _ (List.length_pos_iff.2 hl)
  obtain ⟨T, gT⟩ : ∃ T, T = writeGo (firstOf gen n) gen (groups + 1) f S used (loadOf waits) := ⟨_, rfl⟩
  rw [← gT]
  have hout : ∀ i, (i < firstOf gen n + used ∨ firstOf gen n + used + needN (loadOf waits).length ≤ i) → T i = S i := fun i hi => by rw [gT]; exact writeGo_out _ _ _ _ _ _ _ i hi
  have hf2 := firstOf_ge gen n
  have hlen : ∀ i, (T i).length = 128 := by rw [gT]; exact writeGo_len _ _ _ _ _ _ _ h.len
  have hgr : grps T (firstOf gen n) gen (szOf n) = (done ++ waits, groups + 1, used + needN (loadOf waits).length) := by
    have hg : grpsGo S (firstOf gen n) gen (szOf n) (szOf n + 1) 0 0 [] = (done, groups, used) := h.grp
    have := grpsGo_then S T (firstOf gen n) gen (szOf n) h.len (szOf n + 1) 0 0 [] (Nat.zero_le _) (by omega) (fun i hi => by rw [hg] at hi; exact hout _ (.inl (by simp at hi; omega)))
    obtain ⟨f', hf', he⟩ := this
    rw [hg] at hf' he
    simp only at hf' he
    show grpsGo T (firstOf gen n) gen (szOf n) (szOf n + 1) 0 0 [] = _
    rw [he]
    obtain ⟨f', rfl⟩ : ∃ k, f' = k + 1 := ⟨f' - 1, by omega⟩
    have hload : loadGo T (firstOf gen n) gen (groups + 1) (szOf n - used) used [] = loadOf waits := by
      rw [gT, loadGo_write _ _ _ f S used (loadOf waits) [] (szOf n - used) hl hf hroom, List.nil_append]
    rw [grpsGo, hload, recsOf_load waits hr, if_neg hw]
    have hz : loadGo T (firstOf gen n) gen (groups + 1 + 1) (szOf n - (used + needN (loadOf waits).length)) (used + needN (loadOf waits).length) [] = [] := by
      rcases Nat.lt_or_ge (used + needN (loadOf waits).length) (szOf n) with hlt | hge
      · refine loadGo_zero T _ _ _ _ _ ?_
        rw [hout _ (.inr (by omega)), h.zero _ (by omega) hlt]
      · rw [show szOf n - (used + needN (loadOf waits).length) = 0 by omega]; rfl
    cases f' with
    | zero => rfl
    | succ f' => rw [grpsGo, hz, if_pos recsOf_nil]
  refine ⟨hlen, h.g1, h.g2, ?_, ?_, hgr, by omega, fun i hi hi2 => ?_, ?_⟩
  · rw [hout _ (.inl (by omega))]; exact h.head
  · rw [hout _ (.inl (by omega))]; exact h.other
  · rw [hout _ (.inr (by omega))]; exact h.zero i (by omega) hi2
  · rw [hout _ (.inl (by omega))]; exact h.oth

/-- A new beginning, in the other area: the image ahead of the head. -/
def beginS (n gen : Nat) (S : Nat → List Int) (f : Nat) (load : List Int) : Nat → List Int :=
  writeGo (firstOf (gen + 1) n) (gen + 1) 1 f (wipeS S (List.range' (firstOf (gen + 1) n) (szOf n))) 0 load

theorem JI.compact {n : Nat} {S : Nat → List Int} {gen : Nat} {done : List (List Int)} {groups used : Nat} (h : JI n S gen done groups used) (recs : List (List Int)) (hr : ∀ r ∈ recs, RecOk r) (hroom : needN (loadOf recs).length ≤ szOf n) (f : Nat) (hf : needN (loadOf recs).length ≤ f) (hg : gen < 2147483648) :
    JI n (upS (beginS n gen S f (loadOf recs)) ((gen + 1) % 2) (headB (gen + 1))) (gen + 1) recs (if loadOf recs = [] then 0 else 1) (needN (loadOf recs).length) := by
  obtain ⟨B, gB⟩ : ∃ B, B = beginS n gen S f (loadOf recs) := ⟨_, rfl⟩
  rw [← gB]
  obtain ⟨T, gT⟩ : ∃ T, T = upS B ((gen + 1) % 2) (headB (gen + 1)) := ⟨_, rfl⟩
  rw [← gT]
  obtain ⟨W, gW⟩ : ∃ W, W = wipeS S (List.range' (firstOf (gen + 1) n) (szOf n)) := ⟨_, rfl⟩
  have hB : B = writeGo (firstOf (gen + 1) n) (gen + 1) 1 f W 0 (loadOf recs) := by rw [gB, beginS, gW]
  have hf2 := firstOf_ge (gen + 1) n
  have hWl : ∀ i, (W i).length = 128 := by rw [gW]; exact wipeS_len h.len _
  have hBl : ∀ i, (B i).length = 128 := by rw [hB]; exact writeGo_len _ _ _ _ _ _ _ hWl
  have hTl : ∀ i, (T i).length = 128 := by rw [gT]; exact upS_len hBl _ _ (length_headB _)
  have hTB : ∀ i, 2 ≤ i → T i = B i := fun i hi => by rw [gT]; unfold upS; rw [if_neg (by omega)]
  have hout : ∀ i, (i < firstOf (gen + 1) n + 0 ∨ firstOf (gen + 1) n + 0 + needN (loadOf recs).length ≤ i) → B i = W i := fun i hi => by rw [hB]; exact writeGo_out _ _ _ _ _ _ _ i hi
  have hWz : ∀ i, i < szOf n → W (firstOf (gen + 1) n + i) = zero128 := fun i hi => by
    rw [gW]; unfold wipeS
    rw [if_pos (by rw [List.mem_range'_1]; omega)]
  have hgr : grps T (firstOf (gen + 1) n) (gen + 1) (szOf n) = (recs, (if loadOf recs = [] then 0 else 1), needN (loadOf recs).length) := by
    show grpsGo T (firstOf (gen + 1) n) (gen + 1) (szOf n) (szOf n + 1) 0 0 [] = _
    have hzero : ∀ g u : Nat, u = needN (loadOf recs).length → loadGo T (firstOf (gen + 1) n) (gen + 1) g (szOf n - u) u [] = [] := fun g u hu => by
      rcases Nat.lt_or_ge u (szOf n) with hlt | hge
      · refine loadGo_zero T _ _ _ _ _ ?_
        rw [hTB _ (by omega), hout _ (.inr (by omega)), hWz u hlt]
      · rw [show szOf n - u = 0 by omega]; rfl
    by_cases hl : loadOf recs = []
    · have hr0 : recs = [] := loadOf_nil hl
      have hn0 : needN (loadOf recs).length = 0 := by rw [hl]; rfl
      rw [grpsGo, hzero (0 + 1) 0 hn0.symm, if_pos recsOf_nil, if_pos hl, hn0, hr0]
    · have hload : loadGo T (firstOf (gen + 1) n) (gen + 1) (0 + 1) (szOf n - 0) 0 [] = loadOf recs := by
        have h1 : loadGo B (firstOf (gen + 1) n) (gen + 1) (0 + 1) (szOf n - 0) 0 [] = loadOf recs := by
          rw [hB, loadGo_write _ _ _ f W 0 (loadOf recs) [] (szOf n - 0) hl hf (by omega), List.nil_append]
        rw [← h1]
        exact (loadGo_eq B T (firstOf (gen + 1) n) (gen + 1) (0 + 1) hBl (szOf n - 0) 0 [] (by rw [h1]; exact hl)).2 0 (fun i _ _ => hTB _ (by omega))
      have hne : recs ≠ [] := fun e => hl (by rw [e]; rfl)
      rw [grpsGo, hload, recsOf_load recs hr, if_neg hne, if_neg hl, Nat.zero_add, List.nil_append, Nat.zero_add]
      cases hs : szOf n with
      | zero => rfl
      | succ s =>
        rw [← hs, hs, grpsGo, ← hs, hzero (1 + 1) (needN (loadOf recs).length) rfl, if_pos recsOf_nil]
  have hh : T ((gen + 1) % 2) = headB (gen + 1) := by rw [gT]; simp [upS]
  have ho : T (gen % 2) = S (gen % 2) := by
    rw [gT]; unfold upS
    rw [if_neg (by omega), hout _ (.inl (by omega)), gW]
    unfold wipeS
    rw [if_neg (by rw [List.mem_range'_1]; omega)]
  have hpar : (gen + 1 + 1) % 2 = gen % 2 := by omega
  refine ⟨hTl, by omega, by omega, ?_, ?_, hgr, by omega, fun i hi hi2 => ?_, ?_⟩
  · rw [hh]; exact rightH_head (gen + 1) (by omega) (by omega)
  · rw [hpar, ho, h.head]; omega
  · rw [hTB _ (by omega), hout _ (.inr (by omega)), hWz i hi2]
  · have hg1 := h.g1
    have := rightH_is h.head (by omega)
    exact .inr ⟨gen, this.1, this.2.1, by omega, by rw [hpar, ho]; exact this.2.2.2⟩

/-- What Open leaves is a journal. -/
theorem JI.open (n : Nat) (S : Nat → List Int) (hS : ∀ i, (S i).length = 128) : JI n (openS n S) (openGen S) (Jr.opened n S).1 (Jr.opened n S).2.1 (Jr.opened n S).2.2 := by
  obtain ⟨hA1, hA2⟩ := opened_again n S hS
  by_cases h0 : Jr.newest S = 0
  · have e : openS n S = upS (wipeS S (0 :: List.range' (firstOf 1 n) (szOf n))) 1 (headB 1) := by unfold openS; rw [if_pos h0]
    have e1 : openGen S = 1 := by unfold openGen; rw [if_pos h0]
    have e2 : Jr.opened n S = ([], 0, 0) := by unfold Jr.opened; rw [if_pos h0]
    have hf := firstOf_ge 1 n
    obtain ⟨T, gT⟩ : ∃ T, T = openS n S := ⟨_, rfl⟩
    rw [← gT] at e hA1 hA2 ⊢
    rw [e1] at hA1 ⊢
    have t0 : T 0 = zero128 := by rw [e]; simp [upS, wipeS]
    have t1 : T 1 = headB 1 := by rw [e]; simp [upS]
    have hn : Jr.newest T = 1 := by unfold Jr.newest; rw [t0, t1, rightH_zero, rightH_head 1 (by omega) (by omega)]; rfl
    have hg : grps T (firstOf 1 n) 1 (szOf n) = Jr.opened n S := by rw [← hA2]; unfold Jr.opened; rw [hn, if_neg (by omega)]
    refine ⟨?_, by omega, by omega, ?_, ?_, by rw [hg], by rw [e2]; exact Nat.zero_le _, fun i _ hi => ?_, .inl t0⟩
    · rw [e]; exact upS_len (wipeS_len hS _) _ _ (length_headB 1)
    · show rightH (T 1) 1 = 1
      rw [t1]; exact rightH_head 1 (by omega) (by omega)
    · show rightH (T 0) 0 < 1
      rw [t0, rightH_zero]; omega
    · rw [e]
      unfold upS wipeS
      rw [if_neg (by omega), if_pos]
      simp only [List.mem_cons, List.mem_range'_1]
      omega
  · obtain ⟨N, gN⟩ : ∃ N, N = Jr.newest S := ⟨_, rfl⟩
    have hN := newest_mod S h0
    have e : openS n S = wipeS S (leftL N (firstOf N n) (szOf n) (Jr.opened n S).2.2 (rightH (S 0) 0) (rightH (S 1) 1)) := by unfold openS; rw [if_neg h0, gN]
    have e1 : openGen S = N := by unfold openGen; rw [if_neg h0, gN]
    have ho : Jr.opened n S = grps S (firstOf N n) N (szOf n) := by unfold Jr.opened; rw [if_neg h0, gN]
    have hf := firstOf_ge N n
    have hu := grpsGo_le S (firstOf N n) N (szOf n) hS (szOf n + 1) 0 0 [] (Nat.zero_le _)
    have huse : (Jr.opened n S).2.2 ≤ szOf n := by rw [ho]; exact hu.2
    obtain ⟨T, gT⟩ : ∃ T, T = openS n S := ⟨_, rfl⟩
    rw [← gT] at e hA1 hA2 ⊢
    rw [e1] at hA1 ⊢
    rw [← gN] at hN
    have hnT : Jr.newest T = N := by
      unfold openGen at hA1
      split at hA1
      · rename_i hz
        have h1 : N = 1 := hA1.symm
        have h2 : Jr.opened n T = ([], 0, 0) := by unfold Jr.opened; rw [if_pos hz]
        exfalso
        have hh : rightH (T (N % 2)) (N % 2) = N := by
          rw [e]; unfold wipeS
          rw [if_neg, hN.2]
          rw [h1]
          unfold leftL
          rw [List.mem_append, List.mem_range'_1]
          intro hc
          rcases hc with hc | hc
          · generalize (if (1 + 1) % 2 = 0 then rightH (S 0) 0 else rightH (S 1) 1) = F at hc
            split at hc <;> simp at hc
          · rw [h1] at hf; omega
        rw [h1] at hh
        unfold Jr.newest at hz
        have : rightH (T 1) 1 = 1 := hh
        omega
      · exact hA1
    have hg : grps T (firstOf N n) N (szOf n) = Jr.opened n S := by rw [← hA2]; unfold Jr.opened; rw [hnT, if_neg (by omega)]
    have hhead := newest_mod T (by rw [hnT, gN]; exact h0)
    rw [hnT] at hhead
    refine ⟨?_, by omega, hN.1, hhead.2, ?_, by rw [hg], huse, fun i hi hi2 => ?_, ?_⟩
    · rw [e]; exact wipeS_len hS _
    · rcases Nat.lt_or_ge (rightH (T ((N + 1) % 2)) ((N + 1) % 2)) N with h | h
      · exact h
      · exfalso
        have hle : rightH (T ((N + 1) % 2)) ((N + 1) % 2) ≤ Jr.newest T := by
          unfold Jr.newest
          rcases (show (N + 1) % 2 = 0 ∨ (N + 1) % 2 = 1 by omega) with e | e <;> rw [e] <;> omega
        rw [hnT] at hle
        have heq : rightH (T ((N + 1) % 2)) ((N + 1) % 2) = N := by omega
        have := rightH_mod (zs := T ((N + 1) % 2)) (i := (N + 1) % 2) (by omega)
        omega
    · rw [e]
      unfold wipeS
      rw [if_pos]
      unfold leftL
      rw [List.mem_append, List.mem_range'_1]
      exact .inr (by omega)
    · obtain ⟨o, go⟩ : ∃ o, o = (N + 1) % 2 := ⟨_, rfl⟩
      have ho2 : o = 0 ∨ o = 1 := by omega
      have hF : (if (N + 1) % 2 = 0 then rightH (S 0) 0 else rightH (S 1) 1) = rightH (S o) o := by
        rw [← go]
        rcases ho2 with e | e
        · rw [if_pos e, e]
        · rw [if_neg (by omega), e]
      rw [← go]
      by_cases hz : rightH (S o) o = 0
      · left
        rw [e]; unfold wipeS
        rw [if_pos]
        unfold leftL
        rw [List.mem_append]
        left
        rw [hF, if_pos hz, ← go]
        exact List.mem_singleton.2 rfl
      · right
        have hr := rightH_is (rfl : rightH (S o) o = rightH (S o) o) hz
        refine ⟨rightH (S o) o, hr.1, hr.2.1, hr.2.2.1, ?_⟩
        have hT : T o = S o := by
          rw [e]; unfold wipeS
          rw [if_neg]
          unfold leftL
          rw [List.mem_append, List.mem_range'_1, hF, if_neg hz]
          intro hc
          rcases hc with hc | hc
          · simp at hc
          · omega
        rw [hT]; exact hr.2.2.2
end Jr

end Go.Proofs.YtkmnhpnlkmiiiaaGreatDoor

/- What journal's refused and asText do. -/
namespace Go.Proofs.YtkmnhpnlkmiiiaaGreatDoor
open Go.RowKit Num Jr
set_option linter.unusedVariables false
set_option maxRecDepth 20000

/-- What refused answers. -/
def refC (L : List (List Int)) : Nat := if ∃ l ∈ L, l.length = 0 then 1 else if ∃ l ∈ L, 2000 < l.length then 12 else 0
theorem refC_zero {L : List (List Int)} (h : refC L = 0) : ∀ l ∈ L, 1 ≤ l.length ∧ l.length ≤ 2000 := by
  unfold refC at h
  split at h
  · cases h
  · split at h
    · cases h
    · rename_i h1 h2
      intro l hl
      refine ⟨?_, ?_⟩
      · rcases Nat.eq_zero_or_pos l.length with h | h
        · exact absurd ⟨l, hl, h⟩ h1
        · exact h
      · rcases Nat.lt_or_ge 2000 l.length with h | h
        · exact absurd ⟨l, hl, h⟩ h2
        · exact h

set_option maxHeartbeats 1000000 in
theorem refused_any (al : Option Addr) (n cl : Nat) (L : List (List Int)) (w : World) (hi : Img w al L) (hn : L.length = n) (hc : n ≤ cl) (hc2 : cl ≤ 9223372036854775807) :
    Calls Tryz.prog 46 #[.slice al n cl] w fun e w' => e = .returned (.int .i64 ((refC L : Nat) : Int)) ∧ w' = w := by
  obtain ⟨C, gC⟩ : ∃ C, C = refC L := ⟨_, rfl⟩
  rw [← gC]
  have HI := hid hi
  have HN := hid hn
  have GC := hid gC
  clear hi hn gC
  go_enter Tryz.func46, Tryz.ntmps46
  go_wp2_with fail
  go_loop [9] (fun k => ∃ i : Nat, k = .int .i64 i ∧ i ≤ n ∧ Hid (∀ j, ∀ h : j < L.length, j < i → L[j].length ≠ 0)) (fun k => n - (intOf k).toNat)
  case atStart => exact ⟨0, rfl, Nat.zero_le _, hid (fun j _ h => absurd h (by omega))⟩
  case round =>
    obtain ⟨i, rfl, hin, HA⟩ := hrel
    by_cases hlt : i < n
    · have hil : i < L.length := by rw [HN.out]; exact hlt
      obtain ⟨b, o, e, hbl, hcc⟩ := HI.out (by omega)
      subst e
      obtain ⟨u, hu, a, c, eu, _⟩ := hcc i hil
      subst eu
      obtain ⟨m, gm⟩ : ∃ m, m = L[i].length := ⟨_, rfl⟩
      rw [← gm] at hu
      have GM := hid gm
      clear hcc gm
      by_cases hm : m = 0
      · have hC1 : C = 1 := by rw [GC.out]; unfold refC; rw [if_pos ⟨L[i], List.getElem_mem hil, by rw [← GM.out]; exact hm⟩]
        subst hm
        subst hC1
        go_wp2_with fail
        go_ret
        exact ⟨rfl, rfl⟩
      · have hmv : ¬ (m : Int) = 0 := by omega
        go_wp2_with fail
        go_round
        case rel => exact ⟨i + 1, by go_num, by omega, hid (fun j hj h => by
          rcases (show j < i ∨ j = i by omega) with h' | rfl
          · exact HA.out j hj h'
          · rw [← GM.out]; exact hm)⟩
        case measure => simp [intOf]; omega
    · obtain rfl : i = n := by omega
      have hno : ¬ ∃ l ∈ L, l.length = 0 := fun ⟨l, hl, h⟩ => by
        obtain ⟨j, hj, rfl⟩ := List.getElem_of_mem hl
        exact HA.out j hj (by rw [← HN.out]; exact hj) h
      have HNO := hid hno
      clear hno HA
      go_wp2_with fail
      go_loop [19] (fun k => ∃ j : Nat, k = .int .i64 j ∧ j ≤ i ∧ Hid (∀ k, ∀ h : k < L.length, k < j → L[k].length ≤ 2000)) (fun k => i - (intOf k).toNat)
      case atStart => exact ⟨0, rfl, Nat.zero_le _, hid (fun j _ h => absurd h (by omega))⟩
      case round =>
        obtain ⟨j, rfl, hjn, HA⟩ := hrel
        by_cases hlt : j < i
        · have hil : j < L.length := by rw [HN.out]; exact hlt
          obtain ⟨b, o, e, hbl, hcc⟩ := HI.out (by omega)
          subst e
          obtain ⟨u, hu, a, c, eu, _⟩ := hcc j hil
          subst eu
          obtain ⟨m, gm⟩ : ∃ m, m = L[j].length := ⟨_, rfl⟩
          rw [← gm] at hu
          have GM := hid gm
          clear hcc gm
          by_cases hm : 2000 < m
          · have hC1 : C = 12 := by rw [GC.out]; unfold refC; rw [if_neg HNO.out, if_pos ⟨L[j], List.getElem_mem hil, by rw [← GM.out]; exact hm⟩]
            have hmv : (2000 : Int) < (m : Int) := by omega
            subst hC1
            go_wp2_with fail
            go_ret
            exact ⟨rfl, rfl⟩
          · have hmv : ¬ (2000 : Int) < (m : Int) := by omega
            go_wp2_with fail
            go_round
            case rel => exact ⟨j + 1, by go_num, by omega, hid (fun k hk h => by
              rcases (show k < j ∨ k = j by omega) with h' | rfl
              · exact HA.out k hk h'
              · rw [← GM.out]; omega)⟩
            case measure => simp [intOf]; omega
        · obtain rfl : j = i := by omega
          have hC1 : C = 0 := by
            rw [GC.out]; unfold refC; rw [if_neg HNO.out, if_neg]
            rintro ⟨l, hl, h⟩
            obtain ⟨k, hk, rfl⟩ := List.getElem_of_mem hl
            have := HA.out k hk (by rw [← HN.out]; exact hk)
            omega
          subst hC1
          go_wp2_with fail
          go_ret
          exact ⟨rfl, rfl⟩

/-- A record as a text: new bytes. -/
theorem astext_any (a0 : Option Addr) (len cap : Nat) (zs : List Int) (w : World) (hs : Src w a0 len zs) (hz : Bytes zs) (hl : len ≤ 2000) :
    Calls Tryz.prog 50 #[.slice a0 len cap] w fun e w' => ∃ c, e = .returned (.slice (some ⟨w.heap.size, 0, none⟩) (txtB zs).length c) ∧ w'.ownsRow w.heap.size 5 1 (.slice (some ⟨w.heap.size, 0, none⟩) (txtB zs).length c) (txtB zs).length ((txtB zs).map (Value.int .u8)) ∧ Below w.heap.size w w' := by
  have ec := hs.convert (P := Tryz.prog) cap 29 5 9 Tryz.underlying29 Tryz.underlying5 Tryz.underlying9
  have hsz : (strOfNums zs).size = zs.length := strOfNums_size zs
  have hzl : zs.length = len := hs.1
  have kt := hid (text_any none 0 0 (strOfNums zs) [] w (Src.nil _ _) (by omega))
  have hst : str (strOfNums zs) = zs := jstr_of hz
  have hx : txtB zs = [] ++ enc (strOfNums zs).size ++ str (strOfNums zs) := by rw [hst, hsz]; rfl
  have hxl : (txtB zs).length = 0 + (enc (strOfNums zs).size).length + (strOfNums zs).size := by rw [hx, List.length_append, List.length_append, str_len]; rfl
  rw [← hx, ← hxl] at kt
  obtain ⟨S, gS⟩ : ∃ S, S = strOfNums zs := ⟨_, rfl⟩
  rw [← gS] at kt ec
  clear gS hs hz hsz hst hx hxl
  go_enter Tryz.func50, Tryz.ntmps50
  go_wp2_with (first | (go_at_call 64; refine kt.out.mono ?_; rintro r w1 ⟨c, rfl, ho, hb⟩; have HO := hid ho; have HB := hid hb; clear ho hb))
  go_ret
  exact ⟨c, rfl, HO.out, HB.out⟩

end Go.Proofs.YtkmnhpnlkmiiiaaGreatDoor

/- What journal's writeGroup does. -/
namespace Go.Proofs.YtkmnhpnlkmiiiaaGreatDoor
open Go.RowKit Num Jr
set_option linter.unusedVariables false
set_option maxRecDepth 20000

set_option maxHeartbeats 4000000 in
theorem wgroup_any (d : Dk) (p n gen first size place num lb lo ln lc : Nat) (S : Nat → List Int) (load : List Int) (w : World) (J : Jd d w p n S) (hs : Src w (some ⟨lb, lo, none⟩) ln load) (hz : Bytes load) (hc1 : ln ≤ lc) (hc2 : lc ≤ 9223372036854775807) (hT : Tab w) (hdT : 1 ∉ d.foot p) (hlf : lb ∉ d.foot p)
    (hfit : first + place + needN ln ≤ n) (hgen : gen ≤ 4294967296) (hnum : num ≤ 4096) :
    Calls Tryz.prog 34 #[.agg #[.pointer (some ⟨p, 0, none⟩)], .agg #[.int .i64 gen, .int .i64 first, .int .i64 size], .int .i64 place, .int .i64 num, .slice (some ⟨lb, lo, none⟩) ln lc] w fun e w' => e = .returned .nilIface ∧ ∃ d', Jstep d w d' w' p n (writeGo first gen num (needN ln) S place load) ∧ d'.rest := by
  have hn2 : n ≤ 2048 := by rw [← J.dn]; exact J.ok.n2
  have hTl : 1 < w.heap.size := World.block_lt_of_cell? _ _ (hT 0 (by omega))
  have hll : load.length = ln := hs.1
  obtain ⟨W0, g0⟩ : ∃ W0, W0 = (w.alloc (.cells #[.pointer (some ⟨p, 0, none⟩)] 55)).alloc (.cells #[.int .i64 gen, .int .i64 first, .int .i64 size] 57) := ⟨_, rfl⟩
  have hb0 : Below w.heap.size w W0 := by rw [g0]; exact ((Below.refl _ _).alloc (Nat.le_refl _) _).alloc (by simp) _
  have hs0 : W0.heap.size = w.heap.size + 1 + 1 := by rw [g0]; simp
  obtain ⟨q, gq⟩ : ∃ q, q = w.heap.size := ⟨_, rfl⟩
  have x0 : W0.heap[q]? = some (.cells #[.pointer (some ⟨p, 0, none⟩)] 55 (0, 0)) := by
    rw [g0, gq, Below.heap_alloc _ _ _ (by simp)]; exact heap_alloc_new _ _
  have x1 : W0.heap[q + 1]? = some (.cells #[.int .i64 gen, .int .i64 first, .int .i64 size] 57 (0, 0)) := by
    have := heap_alloc_new (w.alloc (.cells #[.pointer (some ⟨p, 0, none⟩)] 55)) (.cells #[.int .i64 gen, .int .i64 first, .int .i64 size] 57)
    rw [g0, gq]; simpa using this
  have hqf : ∀ k, q ≤ k → k ∉ d.foot p := fun k hk hx => by have := J.ok.lt k hx; omega
  obtain ⟨T, gT⟩ : ∃ T, T = writeGo first gen num (needN ln) S place load := ⟨_, rfl⟩
  rw [← gT]
  have HJ := hid (J.below hb0)
  have HS := hid (hs.below hb0)
  have HZ := hid hz
  have HT := hid (hT.below hb0 hTl)
  have HDT := hid hdT
  have HLF := hid hlf
  have HX := hid (And.intro x0 x1)
  have HQF := hid hqf
  have GT := hid gT
  have G0 := hid g0
  have GQ := hid gq
  have HS0 := hid hs0
  have HB0 := hid hb0
  have HLL := hid hll
  have hlb : ln = 0 ∨ lb < W0.heap.size := by
    rcases Nat.eq_zero_or_pos ln with h | h
    · exact .inl h
    · obtain ⟨b, o, e, hl, _⟩ := HS.out.2 h
      simp only [Option.some.injEq, Addr.mk.injEq] at e
      exact .inr (by omega)
  have HLB := hid hlb
  clear J hs hz hT hdT hlf x0 x1 hqf gT g0 gq hs0 hb0 hll hlb
  go_enter Tryz.func34, Tryz.ntmps34
  go_upto_region 1 with fail
  rw [← G0.out, ← GQ.out]
  go_wp2_with fail
  go_loopw [2, 4] (fun v2 v4 wr => ∃ (pl off c : Nat) (a : Option Addr), v2 = .int .i64 pl ∧ v4 = .slice a (ln - off) c ∧ off ≤ ln ∧ Hid (off < ln → a = some ⟨lb, lo + off, none⟩ ∧ ln - off ≤ c ∧ c ≤ 9223372036854775807) ∧ first + pl + needN (ln - off) ≤ n ∧ Hid (∃ (f : Nat) (dx : Dk) (Sx : Nat → List Int), needN (ln - off) ≤ f ∧ Jstep d W0 dx wr p n Sx ∧ writeGo first gen num f Sx pl (load.drop off) = T)) (fun _ v4 _ => slen v4)
  case atStart => exact ⟨place, 0, lc, some ⟨lb, lo, none⟩, rfl, rfl, Nat.zero_le _, hid (fun _ => ⟨rfl, hc1, hc2⟩), hfit, hid ⟨needN ln, d, S, Nat.le_refl _, Jstep.refl HJ.out, by rw [List.drop_zero]; exact GT.out.symm⟩⟩
  case round =>
    obtain ⟨pl, off, c, a, rfl, rfl, hoff, HA, hpl, HE⟩ := hrel
    obtain ⟨f, dx, Sx, hf, hst, hw⟩ := HE.out
    have HST := hid hst
    have HW := hid hw
    have y0 : wr.cell? ⟨q, 0, none⟩ = some (.pointer (some ⟨p, 0, none⟩)) := heap_cells ((hst.heap (Array.getElem?_eq_some_iff.1 HX.out.1).1 (HQF.out q (Nat.le_refl _))).trans HX.out.1) 0 _ rfl
    have z0 : wr.cell? ⟨q + 1, 0, none⟩ = some (.int .i64 gen) := heap_cells ((hst.heap (Array.getElem?_eq_some_iff.1 HX.out.2).1 (HQF.out (q + 1) (by omega))).trans HX.out.2) 0 _ rfl
    have z1 : wr.cell? ⟨q + 1, 1, none⟩ = some (.int .i64 first) := heap_cells ((hst.heap (Array.getElem?_eq_some_iff.1 HX.out.2).1 (HQF.out (q + 1) (by omega))).trans HX.out.2) 1 _ rfl
    obtain ⟨m, gm⟩ : ∃ m, m = ln - off := ⟨_, rfl⟩
    rw [← gm] at HA hpl hf
    rw [← gm]
    clear HE hst hw
    by_cases hm0 : m = 0
    · have hTx : Sx = T := by
        have := HW.out
        rw [List.drop_of_length_le (by rw [HLL.out]; omega)] at this
        rw [← this]
        cases f <;> simp [writeGo]
      subst hm0
      have HTX := hid hTx
      have kf := hid (jflush_step dx p n _ wr HST.out.jd)
      clear hTx gm
      go_wp2_with (first | (go_at_call 56; refine kf.out.mono ?_; rintro r w4 ⟨rfl, d4, hs4, hr4⟩; have HS4 := hid (Jstep.front HB0.out (HST.out.trans hs4)); have HR4 := hid hr4; clear hs4 hr4))
      go_ret
      exact ⟨rfl, d4, by rw [← HTX.out]; exact HS4.out, HR4.out⟩
    · obtain ⟨ha, hac1, hac2⟩ := HA.out (by omega)
      subst ha
      have hmv : (0 : Int) < (m : Int) := by omega
      have hdl : (load.drop off).length = m := by rw [List.length_drop, HLL.out]; omega
      have hnp := needN_pos m (by omega)
      have hlbf : lb ∉ dx.foot p := HST.out.out (HLB.out.resolve_left (by omega)) HLF.out
      have hsrc : Src wr (some ⟨lb, lo + off, none⟩) m (load.drop off) := by
        have h1 := HS.out.mid off m (by omega)
        rw [List.take_of_length_le (by omega)] at h1
        exact HST.out.src h1 (fun b o e => by simp only [Option.some.injEq, Addr.mk.injEq] at e; obtain ⟨rfl, _⟩ := e; exact HLF.out)
      have hTr : Tab wr := HT.out.upd HST.out.upd HDT.out
      obtain ⟨k, gk⟩ : ∃ k, k = min 100 m := ⟨_, rfl⟩
      have hk : 1 ≤ k ∧ k ≤ 100 ∧ k ≤ m := by omega
      have hpart : Src wr (some ⟨lb, lo + off, none⟩) k ((load.drop off).take k) := hsrc.take k hk.2.2
      obtain ⟨f, rfl⟩ : ∃ f', f = f' + 1 := ⟨f - 1, by omega⟩
      have htk : (load.drop off).take 100 = (load.drop off).take k := by
        rcases Nat.le_total 100 m with h | h
        · rw [gk, Nat.min_eq_left h]
        · rw [gk, Nat.min_eq_right h, List.take_of_length_le (by omega), List.take_of_length_le (by omega)]
      have hdr : (load.drop off).drop 100 = load.drop (off + k) := by
        rw [List.drop_drop]
        rcases Nat.le_total 100 m with h | h
        · rw [gk, Nat.min_eq_left h]
        · rw [List.drop_of_length_le (by rw [HLL.out]; omega), List.drop_of_length_le (by rw [HLL.out]; omega)]
      have hDD : decide ((load.drop off).drop 100 = []) = decide (m ≤ 100) := by
        rw [decide_eq_decide]
        constructor
        · intro h; have := congrArg List.length h; rw [List.length_drop, hdl] at this; simp at this; omega
        · intro h; exact List.drop_of_length_le (by omega)
      have hwg : writeGo first gen num f (upS Sx (first + pl) (sectB pl gen num (decide (m ≤ 100)) ((load.drop off).take k))) (pl + 1) (load.drop (off + k)) = T := by
        rw [← HW.out, writeGo, if_neg (by intro e; rw [e] at hdl; simp at hdl; omega), hDD, htk, hdr]
      have kb := hid (sbytes_any pl gen num (decide (m ≤ 100)) lb (lo + off) k c ((load.drop off).take k) wr hpart (((HZ.out.drop off).take k)) hTr hk.2.1 (by omega) hac2 (by omega) (by omega) (by omega))
      have hbz := bytes_sectB pl gen num (decide (m ≤ 100)) ((load.drop off).take k) (by rw [List.length_take, hdl]; omega) ((HZ.out.drop off).take k)
      have kw := hid (fun (wx : World) (hb : Below wr.heap.size wr wx) (ho : wx.ownsRow (wr.heap.size + 1) 5 1 (.slice (some ⟨wr.heap.size + 1, 0, none⟩) 128 128) 128 ((sectB pl gen num (decide (m ≤ 100)) ((load.drop off).take k)).map (Value.int .u8))) => jwrite_step dx p n (first + pl) Sx ⟨wr.heap.size + 1, 0, none⟩ 128 _ wx (HST.out.jd.below hb) (by omega) (Src.own ho) hbz (fun hx => by have := HST.out.jd.ok.lt _ hx; simp at this; omega))
      have HWG := hid hwg
      obtain ⟨D, gD⟩ : ∃ D, D = decide (m ≤ 100) := ⟨_, rfl⟩
      rw [← gD] at kb kw HWG
      have GD := hid gD
      obtain ⟨ia, gia⟩ : ∃ ia, ia = first + pl := ⟨_, rfl⟩
      rw [← gia] at kw HWG
      have e1 : (first : Int) + (pl : Int) = (ia : Int) := by omega
      have hia : ia < n := by omega
      have GIA := hid gia
      have GM := hid gm
      clear HW htk hdr hDD hwg hdl hsrc hTr hpart hbz gD gia gm HA
      have hkk : (m ≤ 100 → k = m) ∧ (100 < m → k = 100) := by omega
      clear gk
      rcases (show m ≤ 100 ∨ 100 < m by omega) with h100 | h100
      · have hkm : k = m := hkk.1 h100
        clear hkk
        subst hkm
        have hDt : D = true := by rw [GD.out]; exact decide_eq_true h100
        subst hDt
        have hmn : ¬ (100 : Int) < (k : Int) := by omega
        have hkc : (k : Int) ≤ (c : Int) := by omega
        go_upto_region 4 with fail
        obtain ⟨A4, gA4⟩ : ∃ A4 : Option Addr, A4 = if c = k then some ⟨lb, lo + off, none⟩ else some ⟨lb, lo + off + k, none⟩ := ⟨_, rfl⟩
        rw [← gA4]
        have hz0 : 0 = ln - (off + k) := by have := GM.out; omega
        have hn0 : needN (ln - (off + k)) = 0 := by rw [← hz0]; rfl
        have HZ0 := hid hz0
        have HN0 := hid hn0
        clear gA4 hz0 hn0
        go_wp2_with (first | (go_at_call 54; refine kb.out.mono ?_; rintro r w2 ⟨rfl, ho2, hb2⟩; have HO2 := hid ho2; have HB2 := hid hb2; have y2 : w2.cell? ⟨q, 0, none⟩ = some (.pointer (some ⟨p, 0, none⟩)) := (hb2.cell (p := ⟨q, 0, none⟩) (World.block_lt_of_cell? _ _ y0)).trans y0; have z2 : w2.cell? ⟨q + 1, 1, none⟩ = some (.int .i64 first) := (hb2.cell (p := ⟨q + 1, 1, none⟩) (World.block_lt_of_cell? _ _ z1)).trans z1; clear ho2 hb2) | (go_at_call 55; refine (kw.out _ HB2.out HO2.out).mono ?_; rintro r w3 ⟨rfl, d3, hs3⟩; have HS3 := hid ((HST.out.below HB2.out).trans hs3); clear hs3))
        go_roundw
        case rel => exact ⟨pl + 1, off + k, c - k, A4, by go_num, by rw [← HZ0.out], by have := GM.out; omega, hid (fun h => by have := GM.out; omega), by rw [HN0.out]; have := GIA.out; omega, hid ⟨f, d3, _, by rw [HN0.out]; omega, HS3.out, HWG.out⟩⟩
        case measure => simp [slen]; omega
      · have hkm : k = 100 := hkk.2 h100
        clear hkk
        subst hkm
        have hDt : D = false := by rw [GD.out]; exact decide_eq_false (by omega)
        subst hDt
        have hmn : (100 : Int) < (m : Int) := by omega
        have hkc : (100 : Int) ≤ (c : Int) := by omega
        have hkn : ¬ c = 100 := by omega
        have hnz : ¬ (m : Int) - 100 = 0 := by omega
        have hz0 : m - 100 = ln - (off + 100) := by have := GM.out; omega
        have hn0 : needN (ln - (off + 100)) = needN m - 1 := by rw [← hz0]; unfold needN; omega
        have HZ0 := hid hz0
        have HN0 := hid hn0
        clear hz0 hn0
        go_upto_region 4 with fail
        obtain ⟨m1, gm1⟩ : ∃ m1, m1 = m - 100 := ⟨_, rfl⟩
        rw [← gm1]
        rw [← gm1] at HZ0
        have hm1 : ¬ m1 = 0 := by omega
        have hm1v : ¬ (m1 : Int) = 0 := by omega
        have hnm : needN m = needN m1 + 1 := by rw [gm1]; unfold needN; omega
        have hm1b : ((m1 : Int) == 0) = false := by rw [beq_eq_false_iff_ne]; exact hm1v
        have hmm : m1 < m := by omega
        have hlm1 : m1 ≤ c - 100 := by omega
        have HNM := hid hnm
        clear gm1 hnm hnz
        go_wp2_with (first | (go_at_call 54; refine kb.out.mono ?_; rintro r w2 ⟨rfl, ho2, hb2⟩; have HO2 := hid ho2; have HB2 := hid hb2; have y2 : w2.cell? ⟨q, 0, none⟩ = some (.pointer (some ⟨p, 0, none⟩)) := (hb2.cell (p := ⟨q, 0, none⟩) (World.block_lt_of_cell? _ _ y0)).trans y0; have z2 : w2.cell? ⟨q + 1, 1, none⟩ = some (.int .i64 first) := (hb2.cell (p := ⟨q + 1, 1, none⟩) (World.block_lt_of_cell? _ _ z1)).trans z1; clear ho2 hb2) | (go_at_call 55; refine (kw.out _ HB2.out HO2.out).mono ?_; rintro r w3 ⟨rfl, d3, hs3⟩; have HS3 := hid ((HST.out.below HB2.out).trans hs3); clear hs3))
        go_roundw
        case rel => exact ⟨pl + 1, off + 100, c - 100, some ⟨lb, lo + off + 100, none⟩, by go_num, by rw [← HZ0.out], by have := HZ0.out; omega, hid (fun _ => ⟨by rw [Nat.add_assoc], by rw [← HZ0.out]; exact hlm1, by omega⟩), by rw [← HZ0.out]; have := HNM.out; have := GIA.out; omega, hid ⟨f, d3, _, by rw [← HZ0.out]; have := HNM.out; omega, HS3.out, HWG.out⟩⟩
        case measure => simp only [slen]; omega

end Go.Proofs.YtkmnhpnlkmiiiaaGreatDoor

/- A journal as it stands, with records that wait; what Append does. -/
namespace Go.Proofs.YtkmnhpnlkmiiiaaGreatDoor
open Go.RowKit Num Jr
set_option linter.unusedVariables false
set_option maxRecDepth 20000

/-- The blocks of a journal and its disk. -/
def Jf (d : Dk) (p jp : Nat) (wv : Value) : List Nat := jp :: (vb wv ++ d.foot p)

structure Js (d : Dk) (w : World) (jp p n : Nat) (S : Nat → List Int) (gen groups used : Nat) (done waits : List (List Int)) (wv : Value) : Prop where
  jd : Jd d w p n S
  rest : d.rest
  jc : Jc w jp p gen (firstOf gen n) (szOf n) groups used wv waits.length
  ji : JI n S gen done groups used
  wait : w.ownsRow 0 5 1 wv (loadOf waits).length ((loadOf waits).map (Value.int .u8))
  wok : ∀ r ∈ waits, RecOk r
  room : needN (loadOf waits).length ≤ szOf n - used
  jf : jp ∉ d.foot p
  wf : ∀ k, wv.ownBlock = some k → k ∉ d.foot p ∧ k ≠ jp

theorem Js.lt {d : Dk} {w : World} {jp p n gen groups used : Nat} {S : Nat → List Int} {done waits : List (List Int)} {wv : Value} (h : Js d w jp p n S gen groups used done waits wv) : ∀ k ∈ Jf d p jp wv, k < w.heap.size := by
  intro k hk
  simp only [Jf, List.mem_cons, List.mem_append] at hk
  rcases hk with rfl | hk | hk
  · exact (Array.getElem?_eq_some_iff.1 h.jc).1
  · exact own_lt h.wait hk
  · exact h.jd.ok.lt k hk

theorem Js.upd {d : Dk} {w w' : World} {jp p n gen groups used : Nat} {S : Nat → List Int} {done waits : List (List Int)} {wv : Value} {F : Nat → Prop} (h : Js d w jp p n S gen groups used done waits wv) (u : Upd F w w') (hF : ∀ k ∈ Jf d p jp wv, ¬ F k) : Js d w' jp p n S gen groups used done waits wv := by
  have h1 : ¬ F jp := hF jp (by simp [Jf])
  exact ⟨h.jd.upd u (fun k hk => hF k (by simp [Jf, hk])), h.rest, u.heap h.jc h1, h.ji, u.own h.wait (fun k hk => hF k (by simp [Jf, vb, hk])), h.wok, h.room, h.jf, h.wf⟩
theorem Js.below {d : Dk} {w w' : World} {jp p n gen groups used : Nat} {S : Nat → List Int} {done waits : List (List Int)} {wv : Value} (h : Js d w jp p n S gen groups used done waits wv) (u : Below w.heap.size w w') : Js d w' jp p n S gen groups used done waits wv := h.upd (Upd.of_below (F := fun _ => False) u) (fun _ _ h => h)

theorem Jc.wait {w : World} {jp p gen first size groups used cnt : Nat} {wv : Value} (h : Jc w jp p gen first size groups used wv cnt) (wv' : Value) (c' : Nat) : Jc ((w.setCell ⟨jp, 6, none⟩ wv').setCell ⟨jp, 7, none⟩ (.int .i64 c')) jp p gen first size groups used wv' c' := by
  unfold Jc
  rw [heap_setCell_same _ jp 7 _ _ _ (heap_setCell_same w jp 6 _ _ _ h)]
  rfl

theorem jroom (jp p gen first size groups used cnt : Nat) (wv : Value) (w : World) (h : Jc w jp p gen first size groups used wv cnt) (hu : used ≤ size) (hs : size ≤ 4096) : Calls Tryz.prog 27 #[.pointer (some ⟨jp, 0, none⟩)] w fun e w' => e = .returned (.int .i64 ((size - used : Nat) : Int)) ∧ w' = w.drew := by
  have k := hid (jusable jp p gen first size groups used cnt wv w h)
  have c3 : w.cell? ⟨jp, 3, none⟩ = some (.int .i64 size) := heap_cells h 3 _ rfl
  have c5 : w.cell? ⟨jp, 5, none⟩ = some (.int .i64 used) := heap_cells h 5 _ rfl
  clear h
  go_enter Tryz.func27, Tryz.ntmps27
  go_wp2_with (first | (go_at_call 33; refine k.out.mono ?_; rintro r w1 ⟨rfl, h⟩; subst w1))
  go_region
  go_wp2_with fail
  go_ret
  have es : (size : Int) - (used : Int) = ((size - used : Nat) : Int) := by omega
  refine ⟨?_, rfl⟩
  show Ending.returned (.int .i64 ((size : Int) - (used : Int))) = _
  rw [es]

/-- What Append leaves. -/
def AppP (d : Dk) (w : World) (jp p n : Nat) (S : Nat → List Int) (gen groups used : Nat) (done waits : List (List Int)) (wv : Value) (zs : List Int) (e : Ending) (w' : World) : Prop :=
  ∃ (code : Nat) (wv' : Value), e = .returned (.int .i64 code) ∧ Js d w' jp p n S gen groups used done (if code = 0 then waits ++ [zs] else waits) wv' ∧ (code = 0 → RecOk zs) ∧ Upd (· ∈ Jf d p jp wv) w w' ∧ Grew' w (Jf d p jp wv) (Jf d p jp wv')

set_option maxHeartbeats 4000000 in
theorem append_any (d : Dk) (jp p n gen groups used : Nat) (S : Nat → List Int) (done waits : List (List Int)) (wv : Value) (a0 : Option Addr) (len cap : Nat) (zs : List Int) (w : World) (h : Js d w jp p n S gen groups used done waits wv) (hb : Bg w [] (.slice a0 len cap) zs) (hz : Bytes zs) :
    Calls Tryz.prog 25 #[.pointer (some ⟨jp, 0, none⟩), .slice a0 len cap] w (AppP d w jp p n S gen groups used done waits wv zs) := by
  obtain ⟨i0, hi0, hz0, hz1, hz2⟩ := info_parts Tryz.jinfo5
  obtain ⟨a', c', e', hs, hr2⟩ := hb
  injection e' with e1 e2 e3
  subst e1
  subst e2
  subst e3
  have hn2 : n ≤ 2048 := by rw [← h.jd.dn]; exact h.jd.ok.n2
  have hsz : szOf n ≤ 1024 := by unfold szOf; omega
  have huse := h.ji.use
  have hjl : jp < w.heap.size := (Array.getElem?_eq_some_iff.1 h.jc).1
  obtain ⟨len, glen⟩ : ∃ len, len = zs.length := ⟨_, rfl⟩
  rw [← glen] at hs hr2
  rw [← glen]
  have kU := hid (jusable jp p _ _ _ _ _ _ _ w h.jc)
  obtain ⟨W0, g0⟩ : ∃ W0, W0 = w.alloc (.cells #[.slice a0 len cap] 29) := ⟨_, rfl⟩
  have hb0 : Below w.heap.size w W0 := by rw [g0]; exact (Below.refl _ _).alloc (Nat.le_refl _) _
  have h0 := h.below hb0
  have hs0 := hs.below hb0
  have him : Img W0 (some ⟨w.heap.size, 0, none⟩) [zs] := fun _ => by
    refine ⟨w.heap.size, 0, rfl, by rw [g0]; simp, fun j hj => ?_⟩
    have : j = 0 := by simpa using hj
    subst this
    have hbg : Bg W0 [] (.slice a0 len cap) zs := ⟨a0, cap, by rw [glen], by rw [← glen]; exact hs0, fun _ b o _ hx => (by simp at hx), by rw [← glen]; exact hr2.2.1, hr2.2.2.1, by rw [← glen]; exact hr2.2.2.2.1, by rw [← glen]; exact hr2.2.2.2.2⟩
    refine ⟨.slice a0 len cap, ?_, hbg⟩
    rw [g0]
    exact heap_cells (heap_alloc_new w (.cells #[.slice a0 len cap] 29)) 0 _ rfl
  have kR := hid (refused_any (some ⟨w.heap.size, 0, none⟩) 1 1 [zs] W0 him rfl (by omega) (by omega))
  have HC0 := hid (fun hc : refC [zs] = 0 => refC_zero hc zs (by simp))
  obtain ⟨C, gC⟩ : ∃ C, C = refC [zs] := ⟨_, rfl⟩
  rw [← gC] at kR HC0
  have HH := hid h
  have HH0 := hid h0
  have HS0 := hid hs0
  have HZ := hid hz
  have G0 := hid g0
  have HB0 := hid hb0
  have GL := hid glen
  clear h h0 hs hs0 hz g0 hb0 glen him gC hr2
  go_enter Tryz.func25, Tryz.ntmps25
  by_cases hC : C = 0
  · subst hC
    have hzl := HC0.out rfl
    rw [← GL.out] at hzl
    have kT := hid (astext_any a0 len cap zs W0 HS0.out HZ.out hzl.2)
    go_upto_region 7 with (first | (go_at_call 33; refine kU.out.mono ?_; rintro r w1 ⟨rfl, h⟩; subst w1) | (go_at_call 46; rw [← G0.out]; refine kR.out.mono ?_; rintro r w1 ⟨rfl, h⟩; subst w1) | (go_at_call 50; refine kT.out.mono ?_; rintro r w2 ⟨tc, rfl, ho2, hb2⟩; have HO2 := hid ho2; have HB2 := hid hb2; clear ho2 hb2))
    obtain ⟨aw, cw, gwv, hw1, hw2⟩ := own_shape HH.out.wait
    have hJ2 : Js d w2 jp p n S gen groups used done waits wv := HH0.out.below HB2.out
    have hroomN := HH.out.room
    obtain ⟨ln, gln⟩ : ∃ ln, ln = (loadOf waits).length := ⟨_, rfl⟩
    obtain ⟨tl, gtl⟩ : ∃ tl, tl = (txtB zs).length := ⟨_, rfl⟩
    rw [← gln] at gwv hw1 hroomN
    rw [← gtl] at HO2
    rw [← gtl]
    have htl : tl ≤ 2009 := by
      have hl := GL.out
      rw [gtl, txtB, List.length_append, length_enc]
      have := cnt_8 zs.length (by omega)
      omega
    have hlnb : ln ≤ 102400 := by unfold needN at hroomN; omega
    have hjc2 := hJ2.jc
    rw [gwv] at hjc2
    have c6 : w2.cell? ⟨jp, 6, none⟩ = some (.slice aw ln cw) := heap_cells hjc2 6 _ rfl
    have kn := hid (fun wx => need_any (ln + tl) wx (by omega))
    have en : (ln + tl + 99) / 100 = needN (ln + tl) := rfl
    rw [en] at kn
    have kr := hid (jroom jp p _ _ _ _ _ _ _ w2 hJ2.jc huse (by omega))
    have e1 : (ln : Int) + (tl : Int) = ((ln + tl : Nat) : Int) := by omega
    obtain ⟨lt, glt⟩ : ∃ lt, lt = ln + tl := ⟨_, rfl⟩
    rw [← glt] at kn e1
    obtain ⟨NN, gNN⟩ : ∃ NN, NN = needN lt := ⟨_, rfl⟩
    obtain ⟨RR, gRR⟩ : ∃ RR, RR = szOf n - used := ⟨_, rfl⟩
    rw [← gNN] at kn
    rw [← gRR] at kr
    have HJ2 := hid hJ2
    have GW := hid gwv
    have GLN := hid gln
    have GTL := hid gtl
    have GLT := hid glt
    have GNN := hid gNN
    have GRR := hid gRR
    have hB02 : Below w.heap.size w w2 := HB0.out.trans (HB2.out.mono HB0.out.size)
    have HB02 := hid hB02
    clear hJ2 gwv gln gtl glt gNN gRR en hB02 kU kR kT hjc2
    by_cases hfull : RR < NN
    · have hfv : (RR : Int) < (NN : Int) := by omega
      go_wp2_with (first | (go_at_call 36; refine (kn.out _).mono ?_; rintro r wn ⟨rfl, h⟩; subst wn) | (go_at_call 27; refine kr.out.mono ?_; rintro r wn ⟨rfl, h⟩; subst wn))
      go_ret
      exact ⟨4, wv, rfl, HJ2.out.below (below_drewN (Below.refl _ _) 1), fun h => absurd h (by omega), Upd.of_below (below_drewN HB02.out 1), fun _ h => .inl h⟩
    · have hfv : ¬ (RR : Int) < (NN : Int) := by omega
      go_upto_region 9 with (first | (go_at_call 36; refine (kn.out _).mono ?_; rintro r wn ⟨rfl, h⟩; subst wn) | (go_at_call 27; refine kr.out.mono ?_; rintro r wn ⟨rfl, h⟩; subst wn))
      have HJ3 : Hid (Js d w2.drew jp p n S gen groups used done waits wv) := hid (HJ2.out.below (below_drewN (Below.refl _ _) 1))
      have HWT : Hid (w2.drew.ownsRow 0 5 1 (.slice aw ln cw) ln ((loadOf waits).map (Value.int .u8))) := hid (by have := HJ3.out.wait; rw [← GLN.out, GW.out] at this; exact this)
      have HTX : Hid (Src w2.drew (some ⟨W0.heap.size, 0, none⟩) tl (txtB zs)) := hid (Src.own HO2.out)
      go_upto_region 10 with (at_builtin; go_must (refine wpList_append_where rfl _ _ 29 rfl 5 i0 _ 1 1 Tryz.underlying29 hi0 hz0 hz1 hz2 rfl (by decide) (.slice aw ln cw) ln _ rfl HWT.out ⟨W0.heap.size, 0, none⟩ tl tc ((txtB zs).map (Value.int .u8)) rfl (by rw [List.length_map, Nat.mul_one, GTL.out]) (src_cells HTX.out) (u8_one _) (by unfold maxLen; omega) (by omega) ?_; intro wv' w4 hO4 hU4 hN4 hW4; have HO4 := hO4; have HW4 := hW4; have hU4' : Upd (fun x => wv.ownBlock = some x) w2.drew w4 := (by rw [GW.out]; exact hU4); have hjw : wv.ownBlock ≠ some jp := (fun h => (HJ3.out.wf jp h).2 rfl); have hJ4 := hU4'.heap HJ3.out.jc hjw; have f6 : w4.frozen? ⟨jp, 6, none⟩ = false := frozen_of_row w4 jp 6 _ _ hJ4; have e6 : w4.cell? ⟨jp, 6, none⟩ = some wv := heap_cells hJ4 6 _ rfl; have HU4 := hid hU4'; have HJ4 := hid hJ4; obtain ⟨aw', cw', gwv', _, _⟩ := own_shape hO4.out; subst gwv'; clear hO4 hU4 hN4 hW4 hU4' hJ4))
      obtain ⟨m, gm⟩ : ∃ m, m = waits.length := ⟨_, rfl⟩
      have e7 : w4.cell? ⟨jp, 7, none⟩ = some (.int .i64 m) := by rw [gm]; exact heap_cells HJ4.out 7 _ rfl
      have f7 : w4.frozen? ⟨jp, 7, none⟩ = false := frozen_of_row w4 jp 7 _ _ HJ4.out
      have hmb : m ≤ ln := by
        have h1 : ∀ L : List (List Int), L.length ≤ (loadOf L).length := fun L => by
          induction L with
          | nil => simp
          | cons a r ih =>
            have := enc_pos a.length
            simp only [loadOf, List.map_cons, List.flatten_cons, txtB, List.length_append, List.length_cons] at ih ⊢
            omega
        rw [gm, GLN.out]; exact h1 waits
      have hfin : AppP d w jp p n S gen groups used done waits wv zs (.returned (.int .i64 0)) ((w4.setCell ⟨jp, 6, none⟩ (.slice aw' (ln + tl) cw')).setCell ⟨jp, 7, none⟩ (.int .i64 ((m : Int) + 1))) := by
        obtain ⟨W6, gW6⟩ : ∃ W6, W6 = (w4.setCell ⟨jp, 6, none⟩ (.slice aw' (ln + tl) cw')).setCell ⟨jp, 7, none⟩ (.int .i64 ((m : Int) + 1)) := ⟨_, rfl⟩
        rw [← gW6]
        have hU6 : Upd (· = jp) w4 W6 := by
          rw [gW6]
          exact (Upd.setCell (F := (· = jp)) w4 ⟨jp, 6, none⟩ _ rfl).trans (Upd.setCell (F := (· = jp)) _ ⟨jp, 7, none⟩ _ rfl) (fun _ _ h => h)
        have hJ6 : Jc W6 jp p gen (firstOf gen n) (szOf n) groups used (.slice aw' (ln + tl) cw') (waits ++ [zs]).length := by
          have := (show Jc w4 jp p gen (firstOf gen n) (szOf n) groups used wv waits.length from HJ4.out).wait (.slice aw' (ln + tl) cw') (waits.length + 1)
          rw [gW6, gm, List.length_append, List.length_singleton]
          exact this
        have hw2s := HB02.out.size
        have hwo : ∀ k, (Value.slice aw' (ln + tl) cw').ownBlock = some k → wv.ownBlock = some k ∨ w2.heap.size ≤ k := fun k hk => by
          rcases HW4.out with h | h
          · left; rw [GW.out, ← h]; exact hk
          · exact .inr (h k hk)
        have hwf : ∀ k, (Value.slice aw' (ln + tl) cw').ownBlock = some k → k ∉ d.foot p ∧ k ≠ jp := fun k hk => by
          rcases hwo k hk with h | h
          · exact HJ3.out.wf k h
          · refine ⟨fun hx => ?_, fun e => ?_⟩
            · have := HH.out.jd.ok.lt k hx; omega
            · omega
        have hd4 : Jd d W6 p n S := (HJ3.out.jd.upd HU4.out (fun k hk e => (HJ3.out.wf k e).1 hk)).upd hU6 (fun k hk e => HJ3.out.jf (e ▸ hk))
        have hl6 : loadOf (waits ++ [zs]) = loadOf waits ++ txtB zs := by rw [loadOf_append]; simp [loadOf]
        have hlen6 : (loadOf (waits ++ [zs])).length = ln + tl := by rw [hl6, List.length_append, ← GLN.out, ← GTL.out]
        refine ⟨0, .slice aw' (ln + tl) cw', rfl, ?_, fun _ => ⟨by rw [← GL.out]; exact hzl.1, by rw [← GL.out]; exact hzl.2, HZ.out⟩, ?_, ?_⟩
        · rw [if_pos rfl]
          refine ⟨hd4, HJ3.out.rest, hJ6, HJ3.out.ji, ?_, ?_, ?_, HJ3.out.jf, hwf⟩
          · rw [hlen6, hl6, List.map_append]
            exact hU6.own HO4.out (fun k hk e => (hwf k hk).2 e)
          · intro r hr
            rcases List.mem_append.1 hr with h | h
            · exact HJ3.out.wok r h
            · simp at h; subst h; exact ⟨by rw [← GL.out]; exact hzl.1, by rw [← GL.out]; exact hzl.2, HZ.out⟩
          · rw [hlen6, ← GLT.out, ← GNN.out, ← GRR.out]; omega
        · refine (((Upd.of_below (F := (· ∈ Jf d p jp wv)) (below_drewN HB02.out 1)).trans HU4.out (fun x _ h => ?_)).trans hU6 (fun x _ h => ?_))
          · have h' : wv.ownBlock = some x := h
            simp [Jf, vb, h']
          · have h' : x = jp := h
            simp [Jf, h']
        · intro x hx
          simp only [Jf, List.mem_cons, List.mem_append] at hx ⊢
          rcases hx with h | h | h
          · exact .inl (.inl h)
          · rcases hwo x (by simpa [vb] using h) with h' | h'
            · exact .inl (.inr (.inl (by simp [vb, h'])))
            · exact .inr (by omega)
          · exact .inl (.inr (.inr h))
      have HFIN := hid hfin
      clear hfin gm
      go_wp2_with fail
      go_ret
      exact HFIN.out
  · have hCv : ¬ (C : Int) = 0 := by omega
    go_wp2_with (first | (go_at_call 33; refine kU.out.mono ?_; rintro r w1 ⟨rfl, h⟩; subst w1) | (go_at_call 46; rw [← G0.out]; refine kR.out.mono ?_; rintro r w1 ⟨rfl, h⟩; subst w1))
    go_ret
    exact ⟨C, wv, rfl, by rw [if_neg hC]; exact HH0.out, fun h => absurd h hC, Upd.of_below HB0.out, fun _ h => .inl h⟩

end Go.Proofs.YtkmnhpnlkmiiiaaGreatDoor

/- What journal's area.next and joined do. -/
namespace Go.Proofs.YtkmnhpnlkmiiiaaGreatDoor
open Go.RowKit Num Jr
set_option linter.unusedVariables false
set_option maxRecDepth 20000

theorem firstOf_two (g n : Nat) : firstOf g (2 + 2 * szOf n) = firstOf g n ∧ (2 + 2 * szOf n - 2) / 2 = szOf n := by
  have e : (2 + 2 * szOf n - 2) / 2 = szOf n := by omega
  refine ⟨?_, e⟩
  unfold firstOf
  rw [e]
  rfl

set_option maxHeartbeats 1000000 in
theorem next_any (gen n : Nat) (w : World) (hg : gen ≤ 2147483648) (hn : n ≤ 2048) :
    Calls Tryz.prog 48 #[.agg #[.int .i64 gen, .int .i64 (firstOf gen n : Nat), .int .i64 (szOf n : Nat)]] w fun e w' => e = .returned (.agg #[.int .i64 ((gen + 1 : Nat) : Int), .int .i64 (firstOf (gen + 1) n : Nat), .int .i64 (szOf n : Nat)]) ∧ Below w.heap.size w w' := by
  have hsz : szOf n ≤ 1024 := by unfold szOf; omega
  have hsz2 : 2 + 2 * szOf n ≤ 2048 := by unfold szOf; omega
  have ka := hid (fun wx => areaof_any (gen + 1) (2 + 2 * szOf n) wx (by omega) (by omega) hsz2)
  rw [(firstOf_two (gen + 1) n).1, (firstOf_two (gen + 1) n).2] at ka
  obtain ⟨first, gfirst⟩ : ∃ first, first = firstOf gen n := ⟨_, rfl⟩
  obtain ⟨first2, gfirst2⟩ : ∃ first2, first2 = firstOf (gen + 1) n := ⟨_, rfl⟩
  obtain ⟨size, gsize⟩ : ∃ size, size = szOf n := ⟨_, rfl⟩
  rw [← gfirst2] at ka
  rw [← gfirst, ← gfirst2, ← gsize]
  rw [← gsize] at ka hsz
  have eg : ((gen + 1 : Nat) : Int) = (gen : Int) + 1 := by omega
  have es : ((2 + 2 * size : Nat) : Int) = 2 + 2 * (size : Int) := by omega
  rw [eg, es] at ka
  have HEG := hid eg
  clear gfirst gfirst2 gsize eg es hsz2
  obtain ⟨W0, g0⟩ : ∃ W0, W0 = (w.alloc (.cells #[.int .i64 gen, .int .i64 first, .int .i64 size] 57)).alloc (.cells #[.int .i64 0, .int .i64 0, .int .i64 0] 57) := ⟨_, rfl⟩
  have hb0 : Below w.heap.size w W0 := by rw [g0]; exact ((Below.refl _ _).alloc (Nat.le_refl _) _).alloc (by simp) _
  obtain ⟨q, gq⟩ : ∃ q, q = w.heap.size := ⟨_, rfl⟩
  have x0 : W0.heap[q]? = some (.cells #[.int .i64 gen, .int .i64 first, .int .i64 size] 57 (0, 0)) := by
    rw [g0, gq, Below.heap_alloc _ _ _ (by simp)]; exact heap_alloc_new _ _
  have x1 : W0.heap[q + 1]? = some (.cells #[.int .i64 0, .int .i64 0, .int .i64 0] 57 (0, 0)) := by
    have := heap_alloc_new (w.alloc (.cells #[.int .i64 gen, .int .i64 first, .int .i64 size] 57)) (.cells #[.int .i64 0, .int .i64 0, .int .i64 0] 57)
    rw [g0, gq]; simpa using this
  have y0 : W0.cell? ⟨q, 0, none⟩ = some (.int .i64 gen) := heap_cells x0 0 _ rfl
  have y2 : W0.cell? ⟨q, 2, none⟩ = some (.int .i64 size) := heap_cells x0 2 _ rfl
  have HX1 := hid x1
  have hq1 : q + 1 < W0.heap.size := (Array.getElem?_eq_some_iff.1 x1).1
  have G0 := hid g0
  have GQ := hid gq
  have HB0 := hid hb0
  clear x0 x1 g0 gq hb0
  go_enter Tryz.func48, Tryz.ntmps48
  go_upto_region 1 with fail
  rw [← G0.out, ← GQ.out]
  go_wp2_with (first | (go_at_call 60; refine (ka.out _).mono ?_; rintro r w2 ⟨rfl, hb2⟩; have hx2 : w2.heap[q + 1]? = some (.cells ([.int .i64 0, .int .i64 0, .int .i64 0] : List Value).toArray 57 (0, 0)) := (hb2.block (q + 1) hq1).trans HX1.out; have HTH := hid (there_of_block hx2 0 3 (by simp)); obtain ⟨W3, g3⟩ : ∃ W3, w2.setCells (q + 1) 0 [.int .i64 ((gen : Int) + 1), .int .i64 first2, .int .i64 size] = W3 := ⟨_, rfl⟩; have HX3 : Hid (W3.heap[q + 1]? = some (.cells ([.int .i64 ((gen : Int) + 1), .int .i64 first2, .int .i64 size] : List Value).toArray 57 (0, 0))) := hid (by rw [← g3, heap_setCells (q + 1) 57 _ 0 w2 _ hx2 (by simp)]; simp [splice]); have HB3 : Hid (Below w.heap.size w W3) := hid (by rw [← g3]; have h1 := HB0.out.size; have h2 := hb2.size; exact (HB0.out.trans (hb2.mono h1)).trans ((upd_setCells (q + 1) _ 0 w2).below (by omega) (by intro x hx; have := GQ.out; omega))); have G3 := hid g3; clear hx2 g3 hb2) | (refine jstore_as rfl 57 (.tmp 2) (.tmp 10) rfl (q + 1) 0 #[.int .i64 ((gen : Int) + 1), .int .i64 first2, .int .i64 size] rfl rfl HTH.out asize (by simp [Value.oneCell']) W3 G3.out ?_))
  refine bodyPost_ret (cell_result rfl _ _ (q + 1) 0 rfl [.int .i64 ((gen : Int) + 1), .int .i64 first2, .int .i64 size] _ (rangeAt_block (t := 57) HX3.out) Tryz.underlying57 rfl asize) rfl ?_
  rw [HEG.out]
  exact ⟨rfl, HB3.out⟩

/-- What joined answers. -/
def JoinP (L : List (List Int)) (most : Nat) (w : World) (e : Ending) (w' : World) : Prop :=
  ((loadOf L).length ≤ most ∧ ∃ v, e = .returned (.tuple #[v, .bool true]) ∧ w'.ownsRow w.heap.size 5 1 v (loadOf L).length ((loadOf L).map (Value.int .u8)) ∧ Below w.heap.size w w') ∨
  (most < (loadOf L).length ∧ e = .returned (.tuple #[.slice none 0 0, .bool false]) ∧ Below w.heap.size w w')

theorem loadOf_take_le (L : List (List Int)) (i : Nat) : (loadOf (L.take i)).length ≤ (loadOf L).length := by
  have : loadOf L = loadOf (L.take i) ++ loadOf (L.drop i) := by rw [← loadOf_append, List.take_append_drop]
  rw [this, List.length_append]
  omega

set_option maxHeartbeats 2000000 in
theorem joined_any (al : Option Addr) (n cl most : Nat) (L : List (List Int)) (w : World) (hi : Img w al L) (hn : L.length = n) (hc : n ≤ cl) (hc2 : cl ≤ 9223372036854775807) (hL : ∀ l ∈ L, RecOk l) (hm : most ≤ 1000000) :
    Calls Tryz.prog 47 #[.slice al n cl, .int .i64 most] w (JoinP L most w) := by
  obtain ⟨i0, hi0, hz0, hz1, hz2⟩ := info_parts Tryz.jinfo5
  have HI := hid hi
  have HN := hid hn
  have HL := hid hL
  clear hi hn hL
  go_enter Tryz.func47, Tryz.ntmps47
  go_wp2_with fail
  go_loopw [6, 11] (fun v k wr => ∃ i : Nat, k = .int .i64 i ∧ i ≤ n ∧ Hid (wr.ownsRow w.heap.size 5 1 v (loadOf (L.take i)).length ((loadOf (L.take i)).map (Value.int .u8))) ∧ (loadOf (L.take i)).length ≤ most ∧ Hid (Below w.heap.size w wr)) (fun _ k _ => n - (intOf k).toNat)
  case atStart => exact ⟨0, rfl, Nat.zero_le _, hid (by simpa [loadOf] using World.ownsRow_nil _ _ _ _), by simp [loadOf], hid (Below.refl _ _)⟩
  case round =>
    obtain ⟨i, rfl, hin, HO, hlm, HB⟩ := hrel
    obtain ⟨v, gv⟩ : ∃ v, v = u6 := ⟨_, rfl⟩
    rw [← gv] at HO ⊢
    clear gv
    by_cases hlt : i < n
    · have hil : i < L.length := by rw [HN.out]; exact hlt
      obtain ⟨b, o, e, hbl, hcc⟩ := HI.out (by omega)
      subst e
      obtain ⟨u, hu, a, c, eu, hs, _⟩ := hcc i hil
      subst eu
      have hu' := (HB.out.cell (p := ⟨b, o + i, none⟩) hbl).trans hu
      have hok := HL.out L[i] (List.getElem_mem hil)
      have htk : L.take (i + 1) = L.take i ++ [L[i]] := by rw [List.take_add_one, List.getElem?_eq_getElem hil]; rfl
      have kT := hid (astext_any a L[i].length c L[i] wr (hs.below HB.out) hok.2.2 hok.2.1)
      have hll := loadOf_take_le L (i + 1)
      have hl1 : loadOf (L.take (i + 1)) = loadOf (L.take i) ++ txtB L[i] := by rw [htk, loadOf_append]; simp [loadOf]
      have htl : (txtB L[i]).length ≤ 2009 := by
        have h2 := hok.2.1
        rw [txtB, List.length_append, length_enc]
        have := cnt_8 L[i].length (by omega)
        omega
      obtain ⟨r, gr⟩ : ∃ r, r = L[i].length := ⟨_, rfl⟩
      rw [← gr] at hu' kT
      obtain ⟨X, gX⟩ : ∃ X, X = txtB L[i] := ⟨_, rfl⟩
      rw [← gX] at kT hl1 htl
      obtain ⟨tl, gtl⟩ : ∃ tl, tl = X.length := ⟨_, rfl⟩
      rw [← gtl] at kT htl
      obtain ⟨m, gm⟩ : ∃ m, m = (loadOf (L.take i)).length := ⟨_, rfl⟩
      rw [← gm] at HO hlm
      have hl2 : (loadOf (L.take (i + 1))).length = m + tl := by rw [hl1, List.length_append, ← gm, ← gtl]
      have HL1 := hid hl1
      have HL2 := hid hl2
      have HLL := hid hll
      have GTL := hid gtl
      obtain ⟨av, cv, ev, hv1, hv2⟩ := own_shape HO.out
      subst ev
      have hwl : w.heap.size ≤ wr.heap.size := HB.out.size
      clear hcc hu hs hok htk hll hl1 hl2 gr gX gtl gm
      go_upto_region 6 with (first | (go_at_call 50; refine kT.out.mono ?_; rintro r2 w2 ⟨tc, rfl, ho2, hb2⟩; have HO2 := hid ho2; have HB2 := hid hb2; have hw2 : wr.heap.size ≤ w2.heap.size := hb2.size; clear ho2 hb2) | (at_builtin; go_must (refine wpList_append_own _ rfl _ _ 29 rfl w.heap.size 5 i0 (.int .u8 0) 1 1 Tryz.underlying29 hi0 hz0 hz1 hz2 rfl (by decide) (.slice av m cv) m _ rfl (own_below HO.out HB2.out) ⟨wr.heap.size, 0, none⟩ tl tc (X.map (Value.int .u8)) rfl (by rw [List.length_map, Nat.mul_one, GTL.out]) (src_cells (Src.own HO2.out)) (u8_one _) (by unfold maxLen; omega) (by omega) (by omega) ?_; intro v' w4 hO4 hG4 hN4)))
      have hB4 : Below w.heap.size w w4 := (HB.out.trans (HB2.out.mono hwl)).trans ((Upd.of_grown hG4).below (by omega) (fun x hx => (HO.out.lt x hx.symm).1))
      rw [← List.map_append, ← HL1.out, ← HL2.out] at hO4
      obtain ⟨av4, cv4, ev4, _, _⟩ := own_shape hO4
      have HO4 := hid hO4
      have HB4 := hid hB4
      subst ev4
      obtain ⟨K, gK⟩ : ∃ K, K = (loadOf (L.take (i + 1))).length := ⟨_, rfl⟩
      rw [← gK] at HO4 HL2 HLL
      rw [← gK]
      have GK := hid gK
      clear hO4 hG4 hN4 hB4 gK
      by_cases hbig : most < K
      · have hbv : (most : Int) < (K : Int) := by omega
        go_wp2_with fail
        go_ret2
        exact .inr ⟨by have := HLL.out; omega, rfl, HB4.out⟩
      · have hbv : ¬ (most : Int) < (K : Int) := by omega
        go_wp2_with fail
        go_roundw
        case rel => exact ⟨i + 1, by go_num, by omega, by rw [← GK.out]; exact HO4, by rw [← GK.out]; omega, HB4⟩
        case measure => simp [intOf]; omega
    · obtain rfl : i = n := by omega
      have htk : L.take i = L := List.take_of_length_le (by rw [HN.out]; exact Nat.le_refl _)
      rw [htk] at HO hlm
      go_wp2_with fail
      go_ret2
      exact .inl ⟨hlm, v, rfl, HO.out, HB.out⟩

end Go.Proofs.YtkmnhpnlkmiiiaaGreatDoor

/- What journal's begin does. -/
namespace Go.Proofs.YtkmnhpnlkmiiiaaGreatDoor
open Go.RowKit Num Jr
set_option linter.unusedVariables false
set_option maxRecDepth 20000

/-- The journal's blocks and the disk's, through a step of the disk alone. -/
theorem Jstep.jc {d d1 : Dk} {w w1 : World} {jp p n gen first size groups used cnt : Nat} {wv : Value} {S1 : Nat → List Int} (h : Jstep d w d1 w1 p n S1) (hj : Jc w jp p gen first size groups used wv cnt) (hf : jp ∉ d.foot p) : Jc w1 jp p gen first size groups used wv cnt :=
  (h.heap (Array.getElem?_eq_some_iff.1 hj).1 hf).trans hj

/-- What begin leaves. -/
def BegP (d : Dk) (w : World) (mj p n G first size NN : Nat) (X : Nat → List Int) (load : List Int) (e : Ending) (w' : World) : Prop :=
  e = .returned .nilIface ∧ ∃ d', Jmove d w d' w' mj p n X ∧ Jc w' mj p G first size (if load = [] then 0 else 1) NN (.slice none 0 0) 0

set_option maxHeartbeats 4000000 in
theorem begin_any (d : Dk) (mj p n gen ln : Nat) (S : Nat → List Int) (v : Value) (load : List Int) (w : World) (hj : Jc w mj p (gen + 1) (firstOf (gen + 1) n) (szOf n) 0 0 (.slice none 0 0) 0) (J : Jd d w p n S) (hr : d.rest) (hmf : mj ∉ d.foot p) (hT : Tab w) (hTm : 1 ≠ mj) (hTd : 1 ∉ d.foot p)
    (hv : w.ownsRow 0 5 1 v ln (load.map (Value.int .u8))) (hvf : ∀ k, v.ownBlock = some k → k ∉ d.foot p ∧ k ≠ mj) (hz : Bytes load) (hln : needN ln ≤ szOf n) (hg : gen < 2147483648) (hn4 : 4 ≤ n) :
    Calls Tryz.prog 49 #[.pointer (some ⟨mj, 0, none⟩), v] w (BegP d w mj p n (gen + 1) (firstOf (gen + 1) n) (szOf n) (needN ln) (upS (beginS n gen S (needN ln) load) ((gen + 1) % 2) (headB (gen + 1))) load) := by
  have hn2 : n ≤ 2048 := by rw [← J.dn]; exact J.ok.n2
  have hsz : szOf n ≤ 1024 := by unfold szOf; omega
  have hll : load.length = ln := by have := hv.1; simpa using this
  have hff : firstOf (gen + 1) n + szOf n ≤ n := by
    unfold firstOf szOf
    have : (gen + 1) % 2 * ((n - 2) / 2) ≤ 1 * ((n - 2) / 2) := Nat.mul_le_mul_right _ (by omega)
    omega
  have hml : mj < w.heap.size := (Array.getElem?_eq_some_iff.1 hj).1
  have hlb : ln ≤ 102400 := by unfold needN at hln; omega
  have hln0 : ln = 0 → needN ln = 0 := fun h => by rw [h]; rfl
  have kn := hid (fun wx => need_any ln wx (by omega))
  have en : (ln + 99) / 100 = needN ln := rfl
  rw [en] at kn
  have kg0 := hid (fun (d7 : Dk) (w7 : World) (g cv first G : Nat) (S1 : Nat → List Int) (J7 : Jd d7 w7 p n S1) (hs : Src w7 (some ⟨g, 0, none⟩) ln load) (h1 : ln ≤ cv) (h2 : cv ≤ 9223372036854775807) (h3 : Tab w7) (h4 : 1 ∉ d7.foot p) (h5 : g ∉ d7.foot p) (h6 : first + 0 + needN ln ≤ n) (h7 : G ≤ 4294967296) => wgroup_any d7 p n G first (szOf n) 0 1 g 0 ln cv S1 load w7 J7 hs hz h1 h2 h3 h4 h5 h6 h7 (by omega))
  obtain ⟨NN, gNN⟩ : ∃ NN, NN = needN ln := ⟨_, rfl⟩
  rw [← gNN] at kn hln hln0 kg0
  rw [← gNN]
  clear en gNN
  obtain ⟨G, gG⟩ : ∃ G, G = gen + 1 := ⟨_, rfl⟩
  rw [← gG] at hj hff
  rw [← gG]
  have hG : G ≤ 2147483648 := by omega
  obtain ⟨first, gfirst⟩ : ∃ first, first = firstOf G n := ⟨_, rfl⟩
  obtain ⟨size, gsize⟩ : ∃ size, size = szOf n := ⟨_, rfl⟩
  rw [← gfirst, ← gsize] at hj hff
  rw [← gsize] at hsz hln kg0
  rw [← gfirst, ← gsize]
  have hbg : beginS n gen S NN load = writeGo first G 1 NN (wipeS S (List.range' first size)) 0 load := by rw [gfirst, gsize, gG]; rfl
  rw [hbg]
  have c0 : w.cell? ⟨mj, 0, none⟩ = some (.pointer (some ⟨p, 0, none⟩)) := heap_cells hj 0 _ rfl
  have c1 : w.cell? ⟨mj, 1, none⟩ = some (.int .i64 G) := heap_cells hj 1 _ rfl
  have c2 : w.cell? ⟨mj, 2, none⟩ = some (.int .i64 first) := heap_cells hj 2 _ rfl
  have c3 : w.cell? ⟨mj, 3, none⟩ = some (.int .i64 size) := heap_cells hj 3 _ rfl
  have hTl : 1 < w.heap.size := World.block_lt_of_cell? _ _ (hT 0 (by omega))
  have kb : Hid (∀ wx, Calls Tryz.prog 62 #[.agg #[.int .i64 G, .int .i64 first, .int .i64 size], .int .i64 0] wx fun e w' => ∃ v, e = .returned v ∧ w'.ownsRow wx.heap.size 3 1 v size (nums (List.range' first size)) ∧ Below wx.heap.size wx w') := hid (fun wx => behind_any G first size 0 wx (by omega) (by omega) (by omega))
  have kw : Hid (∀ (wx : World) (v6 : Value), Below w.heap.size w wx → wx.ownsRow w.heap.size 3 1 v6 size (nums (List.range' first size)) → Calls Tryz.prog 61 #[.agg #[.pointer (some ⟨p, 0, none⟩)], v6] wx fun e w' => e = .returned .nilIface ∧ ∃ d', Jstep d wx d' w' p n (wipeS S (List.range' first size)) ∧ d'.rest) := hid (fun wx v6 hb ho => wipe_any d p n S v6 (List.range' first size) wx (J.below hb) hr (own_base (by rw [List.length_range']; exact ho) (Nat.zero_le _)) (fun k hk hx => by have h1 := (ho.lt k hk).1; have h2 := J.ok.lt k hx; omega) (fun i hi => by
    rw [List.mem_range'_1] at hi
    omega))
  have HJ := hid J
  have HJC := hid hj
  have HMF := hid hmf
  have HT := hid hT
  have HTM := hid hTm
  have HTD := hid hTd
  have HV := hid hv
  have HVF := hid hvf
  have HZ := hid hz
  have HLL := hid hll
  have HD0 : Hid (Below w.heap.size w w.drew) := hid (below_drewN (Below.refl _ _) 1)
  obtain ⟨S1, gS1⟩ : ∃ S1, S1 = wipeS S (List.range' first size) := ⟨_, rfl⟩
  rw [← gS1] at kw
  rw [← gS1]
  obtain ⟨av, cv, gv, hv1, hv2⟩ := own_shape hv
  subst gv
  clear J hr hj hmf hT hTm hTd hv hvf hz hll gfirst gsize hbg gG gS1
  go_enter Tryz.func49, Tryz.ntmps49
  go_upto_region 1 with fail
  go_region_held3 (fun wx => wx.cell? ⟨mj, 0, none⟩ = some (.pointer (some ⟨p, 0, none⟩)) ∧ wx.cell? ⟨mj, 1, none⟩ = some (.int .i64 G) ∧ wx.cell? ⟨mj, 2, none⟩ = some (.int .i64 first) ∧ wx.cell? ⟨mj, 3, none⟩ = some (.int .i64 size)) (go_keep) (first | (go_at_call 62; refine (kb.out _).mono ?_; rintro r w6 ⟨v6, rfl, ho6, hb6⟩; have HB6 : Hid (Below w.heap.size w w6) := hid (HD0.out.trans hb6); have HO6 : Hid (w6.ownsRow w.heap.size 3 1 v6 size (nums (List.range' first size))) := hid ho6; have z : ∀ o, w6.cell? ⟨mj, o, none⟩ = w.cell? ⟨mj, o, none⟩ := (fun o => HB6.out.cell (p := ⟨mj, o, none⟩) hml); have z0 := (z 0).trans c0; have z1 := (z 1).trans c1; have z2 := (z 2).trans c2; have z3 := (z 3).trans c3; clear ho6 hb6 z) | (go_at_call 61; refine (kw.out _ _ HB6.out HO6.out).mono ?_; rintro r w7 ⟨rfl, d7, hs7, hr7⟩; have HS7 : Hid (Jstep d w d7 w7 p n S1) := hid (Jstep.front HB6.out hs7); have HR7 := hid hr7; have z : ∀ o, w7.cell? ⟨mj, o, none⟩ = w.cell? ⟨mj, o, none⟩ := (fun o => World.cell?_of_block (a := ⟨mj, o, none⟩) (HS7.out.heap hml HMF.out)); have t0 := (z 0).trans c0; have t1 := (z 1).trans c1; have t2 := (z 2).trans c2; have t3 := (z 3).trans c3; clear hs7 hr7 z))
  have hmf7 : mj ∉ d7.foot p := HS7.out.out hml HMF.out
  have hTd7 : 1 ∉ d7.foot p := HS7.out.out hTl HTD.out
  have hT7 : Tab w7 := HT.out.upd HS7.out.upd HTD.out
  have hj7 : Jc w7 mj p G first size 0 0 (.slice none 0 0) 0 := HS7.out.jc HJC.out HMF.out
  by_cases hl0 : ln = 0
  · have hld : load = [] := List.eq_nil_of_length_eq_zero (by rw [HLL.out]; exact hl0)
    have hNN := hln0 hl0
    subst hl0
    subst hld
    subst hNN
    have kh := hid (whead_any d7 p n G S1 w7.drew (HS7.out.jd.below (below_drewN (Below.refl _ _) 1)) (by omega) (by omega) hT7)
    have HJ7 := hid hj7
    have HMF7 := hid hmf7
    have hml7 : mj < w7.heap.size := (Array.getElem?_eq_some_iff.1 hj7).1
    clear hT7 hj7 hmf7 hTd7 kb kw kg0
    go_upto_region 9 with fail
    go_region_held3 (fun wx => wx.cell? ⟨mj, 0, none⟩ = some (.pointer (some ⟨p, 0, none⟩)) ∧ wx.cell? ⟨mj, 1, none⟩ = some (.int .i64 G)) (go_keep) (first | (go_at_call 63; refine kh.out.mono ?_; rintro r w9 ⟨rfl, d9, hs9, hr9⟩; have HS9 : Hid (Jstep d7 w7 d9 w9 p n (upS S1 (G % 2) (headB G))) := hid (Jstep.front (below_drewN (Below.refl w7.heap.size w7) 1) hs9); have HR9 := hid hr9; have z : ∀ o, w9.cell? ⟨mj, o, none⟩ = w7.cell? ⟨mj, o, none⟩ := (fun o => World.cell?_of_block (a := ⟨mj, o, none⟩) (HS9.out.heap hml7 HMF7.out)); have r0 := (z 0).trans t0; have r1 := (z 1).trans t1; clear hs9 hr9 z))
    go_wp2_with fail
    go_ret
    have hs := HS7.out.trans HS9.out
    exact ⟨rfl, d9, ⟨hs.jd, HR9.out, hs.upd.mono (fun _ _ h => .inr h), hs.grew⟩, HS9.out.jc HJ7.out HMF7.out⟩
  · have hl1 : 1 ≤ ln := by omega
    have hlv : (0 : Int) < (ln : Int) := by omega
    have hld : ¬ load = [] := fun e => hl0 (by rw [← HLL.out, e]; rfl)
    obtain ⟨g, rfl⟩ : ∃ g, av = some ⟨g, 0, none⟩ := by
      rcases HV.out.2 with ⟨_, h⟩ | ⟨g, c, cur, h, _⟩
      · omega
      · injection h with h1 h2 h3; exact ⟨g, h1⟩
    have hgf := HVF.out g rfl
    have hgl := (HV.out.lt g rfl).2
    have hv7 := HS7.out.own HV.out (fun k hk => (HVF.out k hk).1)
    have kg := hid (kg0.out d7 w7.drew g cv first G S1 (HS7.out.jd.below (below_drewN (Below.refl _ _) 1)) (Src.own hv7) hv1 hv2 hT7 hTd7 (HS7.out.out hgl hgf.1) (by omega) (by omega))
    have HJ7 := hid hj7
    have HMF7 := hid hmf7
    have HT7 := hid hT7
    have HTD7 := hid hTd7
    have hml7 : mj < w7.heap.size := (Array.getElem?_eq_some_iff.1 hj7).1
    have hTl7 : 1 < w7.heap.size := World.block_lt_of_cell? _ _ (hT7 0 (by omega))
    have HLD := hid hld
    clear hT7 hj7 hmf7 hTd7 kb kw hgf hv7 hld kg0
    go_upto_region 5 with fail
    go_region_held3 (fun wx => wx.cell? ⟨mj, 0, none⟩ = some (.pointer (some ⟨p, 0, none⟩)) ∧ wx.cell? ⟨mj, 1, none⟩ = some (.int .i64 G) ∧ wx.cell? ⟨mj, 2, none⟩ = some (.int .i64 first) ∧ wx.cell? ⟨mj, 3, none⟩ = some (.int .i64 size)) (go_keep) (first | (go_at_call 34; refine kg.out.mono ?_; rintro r w8 ⟨rfl, d8, hs8, hr8⟩; have HS8 : Hid (Jstep d7 w7 d8 w8 p n (writeGo first G 1 NN S1 0 load)) := hid (Jstep.front (below_drewN (Below.refl w7.heap.size w7) 1) hs8); have z : ∀ o, w8.cell? ⟨mj, o, none⟩ = w7.cell? ⟨mj, o, none⟩ := (fun o => World.cell?_of_block (a := ⟨mj, o, none⟩) (HS8.out.heap hml7 HMF7.out)); have q0 := (z 0).trans t0; have q1 := (z 1).trans t1; have q2 := (z 2).trans t2; have q3 := (z 3).trans t3; clear hs8 hr8 z))
    have hj8 : Jc w8 mj p G first size 0 0 (.slice none 0 0) 0 := HS8.out.jc HJ7.out HMF7.out
    have q4 : w8.cell? ⟨mj, 4, none⟩ = some (.int .i64 0) := heap_cells hj8 4 _ rfl
    have q5 : w8.cell? ⟨mj, 5, none⟩ = some (.int .i64 0) := heap_cells hj8 5 _ rfl
    have f4 : w8.frozen? ⟨mj, 4, none⟩ = false := frozen_of_row w8 mj 4 _ _ hj8
    have f5 : w8.frozen? ⟨mj, 5, none⟩ = false := frozen_of_row w8 mj 5 _ _ hj8
    have hmf8 : mj ∉ d8.foot p := HS8.out.out hml7 HMF7.out
    obtain ⟨W9, gW9⟩ : ∃ W9, W9 = (w8.setCell ⟨mj, 4, none⟩ (.int .i64 1)).setCell ⟨mj, 5, none⟩ (.int .i64 NN) := ⟨_, rfl⟩
    have hU9 : Upd (· = mj) w8 W9 := by rw [gW9]; exact (Upd.setCell (F := (· = mj)) w8 ⟨mj, 4, none⟩ _ rfl).trans (Upd.setCell (F := (· = mj)) _ ⟨mj, 5, none⟩ _ rfl) (fun _ _ h => h)
    have hj9 : Jc W9 mj p G first size 1 NN (.slice none 0 0) 0 := by rw [gW9]; exact hj8.turn 1 NN
    have hd9 : Jd d8 W9 p n (writeGo first G 1 NN S1 0 load) := HS8.out.jd.upd hU9 (fun k hk e => hmf8 (e ▸ hk))
    have hT9 : Tab W9 := (HT7.out.upd HS8.out.upd HTD7.out).upd hU9 HTM.out
    have p0 : W9.cell? ⟨mj, 0, none⟩ = some (.pointer (some ⟨p, 0, none⟩)) := heap_cells hj9 0 _ rfl
    have p1 : W9.cell? ⟨mj, 1, none⟩ = some (.int .i64 G) := heap_cells hj9 1 _ rfl
    have kh := hid (whead_any d8 p n G _ W9.drew (hd9.below (below_drewN (Below.refl _ _) 1)) (by omega) (by omega) hT9)
    have hml9 : mj < W9.heap.size := (Array.getElem?_eq_some_iff.1 hj9).1
    have HJ9 := hid hj9
    have HMF8 := hid hmf8
    have HU9 := hid hU9
    have G9 := hid gW9
    clear hj8 hmf8 hU9 hj9 hd9 hT9 gW9 kg
    go_upto_region 9 with (first | (go_at_call 36; refine (kn.out _).mono ?_; rintro r wn ⟨rfl, h⟩; subst wn))
    rw [← G9.out]
    go_region_held3 (fun wx => wx.cell? ⟨mj, 0, none⟩ = some (.pointer (some ⟨p, 0, none⟩)) ∧ wx.cell? ⟨mj, 1, none⟩ = some (.int .i64 G)) (go_keep) (first | (go_at_call 63; refine kh.out.mono ?_; rintro r w10 ⟨rfl, d10, hs10, hr10⟩; have HS10 : Hid (Jstep d8 W9 d10 w10 p n (upS (writeGo first G 1 NN S1 0 load) (G % 2) (headB G))) := hid (Jstep.front (below_drewN (Below.refl W9.heap.size W9) 1) hs10); have HR10 := hid hr10; have z : ∀ o, w10.cell? ⟨mj, o, none⟩ = W9.cell? ⟨mj, o, none⟩ := (fun o => World.cell?_of_block (a := ⟨mj, o, none⟩) (HS10.out.heap hml9 HMF8.out)); have r0 := (z 0).trans p0; have r1 := (z 1).trans p1; clear hs10 hr10 z))
    go_wp2_with fail
    go_ret
    have hs := HS7.out.trans HS8.out
    refine ⟨rfl, d10, ⟨HS10.out.jd, HR10.out, ?_, ?_⟩, by rw [if_neg HLD.out]; exact HS10.out.jc HJ9.out HMF8.out⟩
    · refine ((hs.upd.mono (fun _ _ h => .inr h)).trans HU9.out (fun x _ h => .inl h)).trans HS10.out.upd (fun x hx h => ?_)
      rcases hs.grew x h with h' | h'
      · exact .inr h'
      · omega
    · intro x hx
      rcases HS10.out.grew x hx with h | h
      · exact hs.grew x h
      · exact .inr (by have := hs.upd.size; have := HU9.out.size; omega)

end Go.Proofs.YtkmnhpnlkmiiiaaGreatDoor

/- What Commit does. -/
namespace Go.Proofs.YtkmnhpnlkmiiiaaGreatDoor
open Go.RowKit Num Jr
set_option linter.unusedVariables false
set_option maxRecDepth 20000

/-- The image that Commit leaves. -/
def cmtS (n gen groups used : Nat) (S : Nat → List Int) (waits : List (List Int)) : Nat → List Int :=
  if waits = [] then S else writeGo (firstOf gen n) gen (groups + 1) (needN (loadOf waits).length) S used (loadOf waits)

/-- What Commit leaves. -/
def CmtP (d : Dk) (w : World) (jp p n : Nat) (S : Nat → List Int) (gen groups used : Nat) (done waits : List (List Int)) (wv : Value) (e : Ending) (w' : World) : Prop :=
  ∃ (d' : Dk) (groups' used' : Nat) (wv' : Value), e = .returned (.int .i64 0) ∧ Js d' w' jp p n (cmtS n gen groups used S waits) gen groups' used' (done ++ waits) [] wv' ∧ Upd (· ∈ Jf d p jp wv) w w' ∧ Grew' w (Jf d p jp wv) (Jf d' p jp wv')

set_option maxHeartbeats 4000000 in
theorem commit_any (d : Dk) (jp p n gen groups used : Nat) (S : Nat → List Int) (done waits : List (List Int)) (wv : Value) (w : World) (h : Js d w jp p n S gen groups used done waits wv) (hT : Tab w) (hTf : 1 ∉ Jf d p jp wv) :
    Calls Tryz.prog 13 #[.pointer (some ⟨jp, 0, none⟩)] w (CmtP d w jp p n S gen groups used done waits wv) := by
  have hn2 : n ≤ 2048 := by rw [← h.jd.dn]; exact h.jd.ok.n2
  have hsz : szOf n ≤ 1024 := by unfold szOf; omega
  have huse := h.ji.use
  have hg1 := h.ji.g2
  have hjl : jp < w.heap.size := (Array.getElem?_eq_some_iff.1 h.jc).1
  have kU := hid (jusable jp p _ _ _ _ _ _ _ w h.jc)
  obtain ⟨m, gm⟩ : ∃ m, m = waits.length := ⟨_, rfl⟩
  have hjc := h.jc
  rw [← gm] at hjc
  have c7 : w.cell? ⟨jp, 7, none⟩ = some (.int .i64 m) := heap_cells hjc 7 _ rfl
  by_cases hm : m = 0
  · have hw0 : waits = [] := List.eq_nil_of_length_eq_zero (by rw [← gm]; exact hm)
    subst hm
    have HH := hid h
    have HW0 := hid hw0
    clear h hjc gm hw0
    go_enter Tryz.func13, Tryz.ntmps13
    go_wp2_with (first | (go_at_call 33; refine kU.out.mono ?_; rintro r w1 ⟨rfl, h⟩; subst w1))
    go_ret
    have hh := HH.out
    rw [HW0.out] at hh
    refine ⟨d, groups, used, wv, rfl, ?_, Upd.refl _ _, fun _ h => .inl h⟩
    rw [HW0.out, List.append_nil]
    unfold cmtS
    rw [if_pos rfl]
    exact hh
  · have hwn : waits ≠ [] := fun e => hm (by rw [gm, e]; rfl)
    have hmv : ¬ (m : Int) = 0 := by omega
    have hln : loadOf waits ≠ [] := fun e => hwn (loadOf_nil e)
    obtain ⟨aw, cw, gwv, hw1, hw2⟩ := own_shape h.wait
    have hroomN := h.room
    have hnp := needN_pos _ (List.length_pos_iff.2 hln)
    obtain ⟨ln, gln⟩ : ∃ ln, ln = (loadOf waits).length := ⟨_, rfl⟩
    rw [← gln] at gwv hw1 hroomN hnp
    have hlnb : ln ≤ 102400 := by unfold needN at hroomN; omega
    have hwt := h.wait
    rw [← gln, gwv] at hwt
    have hln1 : 1 ≤ ln := by rw [gln]; exact List.length_pos_iff.2 hln
    obtain ⟨g, rfl⟩ : ∃ g, aw = some ⟨g, 0, none⟩ := by
      rcases hwt.2 with ⟨_, h⟩ | ⟨g, c, cur, h, _⟩
      · omega
      · injection h with h1 h2 h3; exact ⟨g, h1⟩
    have hgf := h.wf g (by rw [gwv]; rfl)
    have hTd : 1 ∉ d.foot p := fun hx => hTf (by simp [Jf, hx])
    have hff : firstOf gen n + szOf n ≤ n := by
      unfold firstOf szOf
      have : gen % 2 * ((n - 2) / 2) ≤ 1 * ((n - 2) / 2) := Nat.mul_le_mul_right _ (by omega)
      have h2 : 2 ≤ n ∨ n < 2 := by omega
      rcases h2 with h2 | h2
      · omega
      · exfalso
        have := hnp.1
        unfold szOf at hroomN
        omega
    have hgu : groups ≤ used := by
      have hgo : ∀ (f g u : Nat) (acc : List (List Int)), g ≤ u → (grpsGo S (firstOf gen n) gen (szOf n) f g u acc).2.1 ≤ (grpsGo S (firstOf gen n) gen (szOf n) f g u acc).2.2 := by
        intro f
        induction f with
        | zero => intro g u acc hh; exact hh
        | succ f ih =>
          intro g u acc hh
          rw [grpsGo]
          split
          · exact hh
          · rename_i hne
            refine ih _ _ _ ?_
            have : loadGo S (firstOf gen n) gen (g + 1) (szOf n - u) u [] ≠ [] := fun e => hne (by rw [e]; exact recsOf_nil)
            have := needN_pos _ (List.length_pos_iff.2 this)
            omega
      have := hgo (szOf n + 1) 0 0 [] (Nat.le_refl _)
      have e : grpsGo S (firstOf gen n) gen (szOf n) (szOf n + 1) 0 0 [] = (done, groups, used) := h.ji.grp
      rw [e] at this
      exact this
    have kW := hid (wgroup_any d p n gen (firstOf gen n) (szOf n) used (groups + 1) g 0 ln cw S (loadOf waits) w.drew (h.jd.below (below_drewN (Below.refl _ _) 1)) (Src.own hwt) (bytes_loadOf h.wok) hw1 hw2 hT hTd hgf.1 (by omega) (by omega) (by omega))
    rw [gwv] at hjc
    have c0 : w.cell? ⟨jp, 0, none⟩ = some (.pointer (some ⟨p, 0, none⟩)) := heap_cells hjc 0 _ rfl
    have c1 : w.cell? ⟨jp, 1, none⟩ = some (.int .i64 gen) := heap_cells hjc 1 _ rfl
    have c2 : w.cell? ⟨jp, 2, none⟩ = some (.int .i64 (firstOf gen n : Nat)) := heap_cells hjc 2 _ rfl
    have c3 : w.cell? ⟨jp, 3, none⟩ = some (.int .i64 (szOf n : Nat)) := heap_cells hjc 3 _ rfl
    have c4 : w.cell? ⟨jp, 4, none⟩ = some (.int .i64 groups) := heap_cells hjc 4 _ rfl
    have c5 : w.cell? ⟨jp, 5, none⟩ = some (.int .i64 used) := heap_cells hjc 5 _ rfl
    have c6 : w.cell? ⟨jp, 6, none⟩ = some (.slice (some ⟨g, 0, none⟩) ln cw) := heap_cells hjc 6 _ rfl
    obtain ⟨first, gfirst⟩ : ∃ first, first = firstOf gen n := ⟨_, rfl⟩
    obtain ⟨size, gsize⟩ : ∃ size, size = szOf n := ⟨_, rfl⟩
    rw [← gfirst] at c2 kW
    rw [← gsize] at c3 kW
    have HWG : Hid (IntKind.i64.wrap ((groups : Int) + 1) = ((groups + 1 : Nat) : Int)) := hid (by rw [IntKind.wrap_i64]; omega)
    obtain ⟨NN, gNN⟩ : ∃ NN, NN = needN ln := ⟨_, rfl⟩
    have kn := hid (fun wx => need_any ln wx (by omega))
    have en : (ln + 99) / 100 = needN ln := rfl
    rw [en, ← gNN] at kn
    have HWU : Hid (IntKind.i64.wrap ((used : Int) + (NN : Int)) = ((used + NN : Nat) : Int)) := hid (by rw [IntKind.wrap_i64]; omega)
    have HH := hid h
    have GW := hid gwv
    have GLN := hid gln
    have GM := hid gm
    have GF := hid gfirst
    have GS := hid gsize
    have GNN := hid gNN
    have HWN := hid hwn
    clear h hjc gwv gln gm gfirst gsize gNN hwn hln hwt hgf hTd hT hTf en
    go_enter Tryz.func13, Tryz.ntmps13
    go_upto_region 5 with (first | (go_at_call 33; refine kU.out.mono ?_; rintro r w1 ⟨rfl, h⟩; subst w1))
    go_region_held3 (fun wx => wx.cell? ⟨jp, 0, none⟩ = some (.pointer (some ⟨p, 0, none⟩)) ∧ wx.cell? ⟨jp, 1, none⟩ = some (.int .i64 gen) ∧ wx.cell? ⟨jp, 2, none⟩ = some (.int .i64 first) ∧ wx.cell? ⟨jp, 3, none⟩ = some (.int .i64 size) ∧ wx.cell? ⟨jp, 4, none⟩ = some (.int .i64 groups) ∧ wx.cell? ⟨jp, 5, none⟩ = some (.int .i64 used) ∧ wx.cell? ⟨jp, 6, none⟩ = some (.slice (some ⟨g, 0, none⟩) ln cw)) (go_keep) (first | (go_at_call 34; rw [HWG.out]; refine kW.out.mono ?_; rintro r w2 ⟨rfl, d2, hs2, hr2⟩; have HS2 := hid hs2; have HR2 := hid hr2; have y : ∀ o, w2.cell? ⟨jp, o, none⟩ = w.cell? ⟨jp, o, none⟩ := (fun o => World.cell?_of_block (a := ⟨jp, o, none⟩) (hs2.heap hjl HH.out.jf)); have y0 := (y 0).trans c0; have y1 := (y 1).trans c1; have y2 := (y 2).trans c2; have y3 := (y 3).trans c3; have y4 := (y 4).trans c4; have y5 := (y 5).trans c5; have y6 := (y 6).trans c6; have y7 := (y 7).trans c7; clear hs2 hr2 y))
    have hJ2 : Jc w2 jp p gen first size groups used (.slice (some ⟨g, 0, none⟩) ln cw) m := by
      have := (HS2.out.heap hjl HH.out.jf).trans HH.out.jc
      rw [GW.out, ← GF.out, ← GS.out, ← GM.out] at this
      exact this
    have f4 : w2.frozen? ⟨jp, 4, none⟩ = false := frozen_of_row w2 jp 4 _ _ hJ2
    have f5 : w2.frozen? ⟨jp, 5, none⟩ = false := frozen_of_row w2 jp 5 _ _ hJ2
    have f6 : w2.frozen? ⟨jp, 6, none⟩ = false := frozen_of_row w2 jp 6 _ _ hJ2
    have f7 : w2.frozen? ⟨jp, 7, none⟩ = false := frozen_of_row w2 jp 7 _ _ hJ2
    have hfin : ∀ Z, Jc Z jp p gen first size (groups + 1) (used + NN) (.slice none 0 0) 0 → Upd (· = jp) w2 Z → CmtP d w jp p n S gen groups used done waits wv (.returned (.int .i64 0)) Z := fun Z hZ hU => by
      have hs2 := HS2.out
      have hjf2 : jp ∉ d2.foot p := hs2.out hjl HH.out.jf
      have hcm := HH.out.ji.commit waits HWN.out HH.out.wok (by rw [← GLN.out]; exact hroomN) (needN ln) (by rw [← GLN.out]; exact Nat.le_refl _)
      rw [← GF.out] at hcm
      have hS : cmtS n gen groups used S waits = writeGo first gen (groups + 1) (needN ln) S used (loadOf waits) := by unfold cmtS; rw [if_neg HWN.out, ← GLN.out, ← GF.out]
      refine ⟨d2, groups + 1, used + NN, .slice none 0 0, rfl, ?_, ?_, ?_⟩
      · rw [hS]
        refine ⟨hs2.jd.upd hU (fun k hk e => hjf2 (e ▸ hk)), HR2.out, ?_, ?_, by simpa [loadOf] using World.ownsRow_nil _ _ _ _, fun r hr => by simp at hr, Nat.zero_le _, hjf2, fun k hk => by simp [Value.ownBlock] at hk⟩
        · rw [← GF.out, ← GS.out]; exact hZ
        · rw [GNN.out, GLN.out]
          rw [GLN.out] at hcm
          exact hcm
      · refine ((show Upd (· ∈ Jf d p jp wv) w w2 from ?_).trans hU (fun x _ h => by have h' : x = jp := h; simp [Jf, h']))
        exact ((Upd.of_below (F := (· ∈ Jf d p jp wv)) (below_drewN (Below.refl w.heap.size w) 1)).trans hs2.upd (fun x _ h => by simp [Jf, h]))
      · intro x hx
        simp only [Jf, List.mem_cons, List.mem_append] at hx ⊢
        rcases hx with h | h | h
        · exact .inl (.inl h)
        · simp [vb, Value.ownBlock] at h
        · rcases hs2.grew x h with h' | h'
          · exact .inl (.inr (.inr h'))
          · exact .inr h'
    have HFIN := hid hfin
    have HJ2 := hid hJ2
    clear hJ2 hfin kW c0 c1 c2 c3 c4 c5 c6 c7 y0 y1 y2 y3
    go_upto_region 9 with fail
    go_region_with (first | (go_at_call 36; refine (kn.out _).mono ?_; rintro r wn ⟨rfl, h⟩; subst wn))
    all_goals
      go_wp2_with fail
      go_ret
      rw [HWU.out]
      refine HFIN.out _ ?_ ?_
      · have hh := (HJ2.out.turn (groups + 1) (used + NN)).wait (.slice none 0 0) 0
        have eg : ((groups + 1 : Nat) : Int) = (groups : Int) + 1 := by omega
        rw [eg] at hh
        first | exact hh | (rw [wrap64_of, HWU.out]; exact hh)
      · exact ((((Upd.setCell (F := (· = jp)) w2 ⟨jp, 4, none⟩ _ rfl).trans (Upd.setCell (F := (· = jp)) _ ⟨jp, 5, none⟩ _ rfl) (fun _ _ h => h)).trans (Upd.setCell (F := (· = jp)) _ ⟨jp, 6, none⟩ _ rfl) (fun _ _ h => h)).trans (Upd.setCell (F := (· = jp)) _ ⟨jp, 7, none⟩ _ rfl) (fun _ _ h => h)).drewN 1

end Go.Proofs.YtkmnhpnlkmiiiaaGreatDoor
