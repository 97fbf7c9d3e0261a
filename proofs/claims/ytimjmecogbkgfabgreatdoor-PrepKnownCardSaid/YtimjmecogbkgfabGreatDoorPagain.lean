/-
  A key has itself as its key; what is cut out of a key is itself as a piece.
-/
import Derived.Test.YtimjmecogbkgfabGreatDoorPv
import Derived.Test.YtimjmecogbkgfabGreatDoorPtToLeaf
namespace Go.Proofs.YtimjmecogbkgfabGreatDoor

theorem all256 {p : UInt8 → Prop} (h : ∀ n, n < 256 → p (UInt8.ofNat n)) (b : UInt8) : p b := by
  have := h b.toNat b.toNat_lt
  rwa [UInt8.ofNat_toNat] at this
theorem low_32 (b : UInt8) : (lowB b == 32) = (b == 32) := all256 (p := fun b => (lowB b == 32) = (b == 32)) (by decide +kernel) b
theorem low_45 (b : UInt8) : (lowB b == 45) = (b == 45) := all256 (p := fun b => (lowB b == 45) = (b == 45)) (by decide +kernel) b
theorem low_low (b : UInt8) : lowB (lowB b) = lowB b := all256 (p := fun b => lowB (lowB b) = lowB b) (by decide +kernel) b
theorem let_lowA (b : UInt8) : isLet (lowB b) = isLet b := all256 (p := fun b => isLet (lowB b) = isLet b) (by decide +kernel) b
theorem low_dig (b : UInt8) : isDig (lowB b) = isDig b := all256 (p := fun b => isDig (lowB b) = isDig b) (by decide +kernel) b
theorem low_phS (b : UInt8) : phS (lowB b) = phS b := all256 (p := fun b => phS (lowB b) = phS b) (by decide +kernel) b
theorem dig_low (b : UInt8) (h : isDig b = true) : lowB b = b := all256 (p := fun b => isDig b = true → lowB b = b) (by decide +kernel) b h
theorem sm_32 (sm : Bool) (b : UInt8) : (smB sm b == 32) = (b == 32) := by
  cases sm
  · rfl
  · exact low_32 b
theorem sm_sm (sm : Bool) (b : UInt8) : smB sm (smB sm b) = smB sm b := by
  cases sm
  · rfl
  · exact low_low b

/-! texts without runs of blanks -/
theorem join_lenA (sm : Bool) : ∀ (l : List UInt8) (p : Bool), (joinL sm p l).length ≤ l.length
  | [], _ => Nat.le_refl _
  | b :: t, p => by
    rw [joinL]
    split
    · have := join_lenA sm t true; simp; omega
    · have := join_lenA sm t (b == 32); simp; omega
theorem join_join (sm : Bool) : ∀ (l : List UInt8) (p : Bool), joinL sm p (joinL sm p l) = joinL sm p l
  | [], _ => rfl
  | b :: t, p => by
    rw [joinL]
    by_cases h : ((b == 32) && p) = true
    · rw [if_pos h]
      have hp : p = true := by simp only [Bool.and_eq_true] at h; exact h.2
      subst hp
      exact join_join sm t true
    · rw [if_neg h, joinL, sm_32, if_neg h, sm_sm, join_join sm t (b == 32)]
theorem join_loose (sm : Bool) (l : List UInt8) (h : joinL sm true l = l) : joinL sm false l = l := by
  cases l with
  | nil => rfl
  | cons b t =>
    by_cases hb : b = 32
    · subst hb
      have h1 : joinL sm true (32 :: t) = joinL sm true t := by rw [joinL]; rfl
      rw [h1] at h
      have := join_lenA sm t true
      rw [h] at this
      simp at this; omega
    · rw [joinL, if_neg (by simp [hb])] at h ⊢
      exact h
theorem join_tail (sm : Bool) (p : Bool) (b : UInt8) (t : List UInt8) (h : joinL sm p (b :: t) = b :: t) : smB sm b = b ∧ joinL sm (b == 32) t = t := by
  rw [joinL] at h
  split at h
  · have := join_lenA sm t true
    rw [h] at this
    simp at this; omega
  · simpa using h
theorem join_drop (sm : Bool) : ∀ (l : List UInt8) (n : Nat), joinL sm false l = l → joinL sm false (l.drop n) = l.drop n
  | _, 0, h => by simpa using h
  | [], n + 1, _ => by simp [joinL]
  | b :: t, n + 1, h => by
    rw [List.drop_succ_cons]
    refine join_drop sm t n ?_
    have := (join_tail sm _ b t h).2
    cases hb : (b == 32)
    · rwa [hb] at this
    · rw [hb] at this; exact join_loose sm t this
theorem join_take (sm : Bool) : ∀ (l : List UInt8) (n : Nat) (p : Bool), joinL sm p l = l → joinL sm p (l.take n) = l.take n
  | _, 0, _, _ => by simp [joinL]
  | [], n + 1, _, _ => by simp [joinL]
  | b :: t, n + 1, p, h => by
    obtain ⟨h1, h2⟩ := join_tail sm _ b t h
    have hnot : ((b == 32) && p) = false := by
      cases hc : ((b == 32) && p)
      · rfl
      · rw [joinL, if_pos hc] at h
        have := join_lenA sm t true
        rw [h] at this
        simp at this; omega
    rw [List.take_succ_cons, joinL, if_neg (by rw [hnot]; simp), h1, join_take sm t n _ h2]
theorem trimA_suffix (l : List UInt8) : ∃ n, trimA l = l.drop n := by
  induction l with
  | nil => exact ⟨0, rfl⟩
  | cons b t ih =>
    unfold trimA at *
    rw [List.dropWhile_cons]
    split
    · obtain ⟨n, h⟩ := ih; exact ⟨n + 1, by rw [h]; rfl⟩
    · exact ⟨0, rfl⟩
theorem trimA_head (l : List UInt8) : (trimA l).head? ≠ some 32 := by
  induction l with
  | nil => simp [trimA]
  | cons b t ih =>
    unfold trimA at *
    rw [List.dropWhile_cons]
    split
    · exact ih
    · rename_i h; simpa using h
theorem trimA_of {l : List UInt8} (h : l.head? ≠ some 32) : trimA l = l := by
  cases l with
  | nil => rfl
  | cons b t => unfold trimA; rw [List.dropWhile_cons, if_neg (by simpa using h)]
theorem trimZ_eq (l : List UInt8) : trimZ l = (trimA l.reverse).reverse := rfl
theorem trimZ_prefix (l : List UInt8) : ∃ n, trimZ l = l.take n := by
  obtain ⟨n, h⟩ := trimA_suffix l.reverse
  refine ⟨l.length - n, ?_⟩
  rw [trimZ_eq, h, List.drop_reverse, List.reverse_reverse]
theorem trimZ_last (l : List UInt8) : (trimZ l).getLast? ≠ some 32 := by
  rw [trimZ_eq, List.getLast?_reverse]; exact trimA_head _
theorem trimZ_of {l : List UInt8} (h : l.getLast? ≠ some 32) : trimZ l = l := by
  rw [trimZ_eq, trimA_of (by rwa [List.head?_reverse]), List.reverse_reverse]
theorem last_drop (l : List UInt8) (n : Nat) (h : l.getLast? ≠ some 32) : (l.drop n).getLast? ≠ some 32 := by
  rw [List.getLast?_drop]
  split
  · simp
  · exact h
/-- a key of texts: no runs, no blank at its ends -/
structure SpKey (sm : Bool) (k : List UInt8) : Prop where
  ne : k ≠ []
  valid : validL k = true
  join : joinL sm false k = k
  head : k.head? ≠ some 32
  last : k.getLast? ≠ some 32
theorem sp_key {sm : Bool} {l k : List UInt8} (h : keySp sm l = some k) : k = [32] ∨ SpKey sm k := by
  unfold keySp at h
  split at h
  · cases h
  · rename_i hc
    have hv : validL l = true := by
      cases hv : validL l
      · exact absurd (Or.inr hv) hc
      · rfl
    split at h
    · left; exact (Option.some.inj h).symm
    · rename_i hne
      right
      obtain rfl := Option.some.inj h
      obtain ⟨n, hn⟩ := trimZ_prefix (joinL sm false l)
      obtain ⟨m, hm⟩ := trimA_suffix (trimZ (joinL sm false l))
      refine ⟨hne, valid_trimA _ (valid_trimZ _ (valid_join sm l hv false)), ?_, trimA_head _, ?_⟩
      · rw [hm, hn]
        exact join_drop sm _ m (join_take sm _ n _ (join_join sm l false))
      · rw [hm]; exact last_drop _ _ (trimZ_last _)
theorem sp_key_len {sm : Bool} {l k : List UInt8} (h : keySp sm l = some k) : k.length ≤ l.length := by
  unfold keySp at h
  split at h
  · cases h
  · rename_i hc
    have hl : l ≠ [] := fun e => hc (Or.inl e)
    have h0 : 1 ≤ l.length := by cases l with
      | nil => exact absurd rfl hl
      | cons => simp
    split at h
    · obtain rfl := Option.some.inj h; exact h0
    · obtain rfl := Option.some.inj h
      obtain ⟨n, hn⟩ := trimZ_prefix (joinL sm false l)
      obtain ⟨m, hm⟩ := trimA_suffix (trimZ (joinL sm false l))
      have := join_lenA sm l false
      rw [hm, hn]
      simp only [List.length_drop, List.length_take]
      omega
theorem sp_again {sm : Bool} {k : List UInt8} (h : k = [32] ∨ SpKey sm k) : keySp sm k = some k := by
  rcases h with rfl | h
  · cases sm <;> decide
  · unfold keySp
    rw [if_neg (by rintro (e | e); exact h.ne e; rw [h.valid] at e; cases e), h.join, trimZ_of h.last, trimA_of h.head, if_neg h.ne]

/-! digits, phones, words -/
theorem some1_some {o : Option (List UInt8)} {k : List UInt8} (h : some1 o = some k) : o = some k ∧ k ≠ [] := by
  unfold some1 at h
  split at h
  · cases h
  · rename_i hn
    subst h
    exact ⟨rfl, fun e => hn (by rw [e])⟩
theorem some1_of {o : Option (List UInt8)} {k : List UInt8} (h : o = some k) (hk : k ≠ []) : some1 o = some k := by
  subst h; unfold some1; rw [if_neg (by simpa using hk)]
theorem dig_of {s : List UInt8} (h : s.all isDig = true) : digK s = some s := by
  unfold digK
  rw [if_pos, List.filter_eq_self.2 (List.all_eq_true.1 h)]
  rw [List.all_eq_true] at h ⊢
  intro b hb
  rw [h b hb]; rfl
theorem dig_all {l k : List UInt8} (h : digK l = some k) : k.all isDig = true ∧ k.length ≤ l.length := by
  unfold digK at h
  split at h
  · obtain rfl := Option.some.inj h
    refine ⟨?_, List.length_filter_le _ _⟩
    rw [List.all_eq_true]
    intro b hb
    exact (List.mem_filter.1 hb).2
  · cases h
def phB (b : UInt8) : Bool := (isLet b || isDig b || phS b) && !(b == 32) && !(b == 45) && (lowB b == b)
theorem ph_of {s : List UInt8} (h : s.all phB = true) : phK s = some s := by
  have hb : ∀ b ∈ s, phB b = true := List.all_eq_true.1 h
  unfold phK
  rw [if_pos]
  · rw [List.filter_eq_self.2, List.map_congr_left (g := id), List.map_id]
    · intro b m
      have := hb b m
      unfold phB at this
      simp only [Bool.and_eq_true, beq_iff_eq] at this
      exact this.2
    · intro b m
      have := hb b m
      unfold phB at this
      simp only [Bool.and_eq_true] at this
      rw [Bool.not_or, this.1.1.2, this.1.2]; rfl
  · rw [List.all_eq_true]
    intro b m
    have := hb b m
    unfold phB at this
    simp only [Bool.and_eq_true] at this
    rw [this.1.1.1]; rfl
theorem ph_all {l k : List UInt8} (h : phK l = some k) : k.all phB = true ∧ k.length ≤ l.length := by
  unfold phK at h
  split at h
  · rename_i ha
    rw [List.all_eq_true] at ha
    obtain rfl := Option.some.inj h
    refine ⟨?_, by rw [List.length_map]; exact List.length_filter_le _ _⟩
    rw [List.all_eq_true]
    intro b hb
    obtain ⟨c, hc, rfl⟩ := List.mem_map.1 hb
    obtain ⟨m, hf⟩ := List.mem_filter.1 hc
    have := ha c m
    rw [Bool.not_or, Bool.and_eq_true] at hf
    unfold phB
    rw [let_lowA, low_dig, low_phS, low_32, low_45, low_low, hf.1, hf.2]
    have h32 : (c == 32) = false := by simpa using hf.1
    rw [h32, Bool.or_false] at this
    rw [this]; simp
  · cases h
theorem map_low_low (l : List UInt8) : (l.map lowB).map lowB = l.map lowB := by
  rw [List.map_map]; congr 1; funext b; exact low_low b
theorem word_low (l : List UInt8) (h : wordB l = true) : wordB (l.map lowB) = true := by
  cases l with
  | nil => cases h
  | cons a t =>
    simp only [wordB, Bool.and_eq_true, List.all_eq_true, List.map_cons, List.mem_map] at h ⊢
    refine ⟨by rw [let_lowA]; exact h.1, ?_⟩
    rintro b ⟨c, hc, rfl⟩
    rw [let_lowA, low_dig, low_45]
    exact h.2 c hc
theorem split_mem : ∀ (l : List UInt8) (b : UInt8), b ∈ l → b = 46 ∨ ∃ r ∈ splitD l, b ∈ r
  | a :: t, b, h => by
    rw [splitD]
    by_cases ha : a = 46
    · rw [if_pos ha]
      rcases List.mem_cons.1 h with e | e
      · left; rw [e, ha]
      · rcases split_mem t b e with h | ⟨r, hr, hb⟩
        · exact Or.inl h
        · exact Or.inr ⟨r, List.mem_cons_of_mem _ hr, hb⟩
    · rw [if_neg ha]
      rcases List.mem_cons.1 h with e | e
      · right
        cases hs : splitD t with
        | nil => exact ⟨[a], by simp, by simp [e]⟩
        | cons r rs => exact ⟨a :: r, by simp, by simp [e]⟩
      · rcases split_mem t b e with h | ⟨r, hr, hb⟩
        · exact Or.inl h
        · right
          cases hs : splitD t with
          | nil => rw [hs] at hr; cases hr
          | cons r0 rs =>
            rw [hs] at hr
            rcases List.mem_cons.1 hr with e2 | e2
            · exact ⟨a :: r0, by simp, by rw [← e2]; exact List.mem_cons_of_mem _ hb⟩
            · exact ⟨r, by simp [e2], hb⟩
theorem dot_low (l : List UInt8) (h : dotB l = true) : l.map lowB = l := by
  unfold dotB at h
  simp only [Bool.and_eq_true, List.all_eq_true] at h
  rw [List.map_congr_left (g := id), List.map_id]
  intro b hb
  rcases split_mem l b hb with e | ⟨r, hr, hm⟩
  · subst e; decide
  · have := h.1 r hr
    unfold isCnt at this
    simp only [Bool.and_eq_true, List.all_eq_true] at this
    exact dig_low b (this.1 b hm)
theorem oid_again {l k : List UInt8} (h : oidK l = some k) : oidK k = some k ∧ k.length ≤ l.length := by
  unfold oidK at h
  split at h
  · rename_i hc
    obtain rfl := Option.some.inj h
    refine ⟨?_, by simp⟩
    rw [Bool.or_eq_true] at hc
    rcases hc with hc | hc
    · unfold oidK; rw [word_low l hc, Bool.true_or, if_pos rfl, map_low_low]
    · rw [dot_low l hc]; unfold oidK; rw [hc, Bool.or_true, if_pos rfl, dot_low l hc]
  · cases h

/-- the forms whose keys are values -/
def againB (f : Int) : Prop := f = 0 ∨ f = 1 ∨ f = 2 ∨ f = 3 ∨ f = 5 ∨ f = 7 ∨ f = 8
theorem key_again {f : Int} (hf : againB f) {l k : List UInt8} (h : keyL f l = some k) : keyL f k = some k ∧ k.length ≤ l.length := by
  unfold keyL at h
  split at h
  · cases h
  · rename_i hl
    have fin : ∀ {o : Option (List UInt8)}, o = some k → k.length ≤ l.length → (if 65536 < k.length then none else o) = some k := by
      intro o ho hk
      rw [if_neg (by omega), ho]
    rcases hf with rfl | rfl | rfl | rfl | rfl | rfl | rfl
    · have h : keySp true l = some k := h
      exact ⟨fin (o := keySp true k) (sp_again (sp_key h)) (sp_key_len h), sp_key_len h⟩
    · have h : keySp false l = some k := h
      exact ⟨fin (o := keySp false k) (sp_again (sp_key h)) (sp_key_len h), sp_key_len h⟩
    · have h : some1 (digK l) = some k := h
      obtain ⟨h1, h2⟩ := some1_some h
      obtain ⟨h3, h4⟩ := dig_all h1
      exact ⟨fin (o := some1 (digK k)) (some1_of (dig_of h3) h2) h4, h4⟩
    · have h : some1 (phK l) = some k := h
      obtain ⟨h1, h2⟩ := some1_some h
      obtain ⟨h3, h4⟩ := ph_all h1
      exact ⟨fin (o := some1 (phK k)) (some1_of (ph_of h3) h2) h4, h4⟩
    · have h : flagK l = some k := h
      have e : l = k := by
        unfold flagK at h
        split at h
        · exact Option.some.inj h
        · cases h
      subst e
      exact ⟨fin (o := flagK l) h (Nat.le_refl _), Nat.le_refl _⟩
    · have h : some l = some k := h
      obtain rfl := Option.some.inj h
      exact ⟨fin (o := some l) rfl (Nat.le_refl _), Nat.le_refl _⟩
    · have h : oidK l = some k := h
      obtain ⟨h1, h2⟩ := oid_again h
      exact ⟨fin (o := oidK k) h1 h2, h2⟩

/-- pieces cut out of a key -/
theorem cuts {f : Int} (hf : 0 ≤ f ∧ f ≤ 3) {l k : List UInt8} (h : keyL f l = some k) (hk : k ≠ [32]) (i j : Nat) (hv1 : validL (k.take i) = true) (hv2 : validL ((k.drop i).take j) = true) :
    pieceL f 1 ((k.drop i).take j) = some ((k.drop i).take j) ∧ pieceL f 0 (k.take i) = some (k.take i) ∧ pieceL f 2 (k.drop i) = some (k.drop i) := by
  unfold keyL at h
  split at h
  · cases h
  · rename_i hl
    have gen : k.length ≤ 65536 → (∀ (wh : Int) (s : List UInt8), s.length ≤ k.length → pieceL f wh s = if ¬ (wh = 0 ∨ wh = 1 ∨ wh = 2) then none else if f = 0 then pieceSp true wh s else if f = 1 then pieceSp false wh s else if f = 2 then digK s else if f = 3 then phK s else none) := by
      intro hk wh s hs
      unfold pieceL
      by_cases hw : ¬ (wh = 0 ∨ wh = 1 ∨ wh = 2)
      · rw [if_pos (Or.inr hw), if_pos hw]
      · rw [if_neg (by rintro (e | e); omega; exact hw e), if_neg hw]
    have l1 : ((k.drop i).take j).length ≤ k.length := by simp; omega
    have l2 : (k.take i).length ≤ k.length := by simp; omega
    have l3 : (k.drop i).length ≤ k.length := by simp
    have sp : ∀ sm, keySp sm l = some k → pieceSp sm 1 ((k.drop i).take j) = some ((k.drop i).take j) ∧ pieceSp sm 0 (k.take i) = some (k.take i) ∧ pieceSp sm 2 (k.drop i) = some (k.drop i) := by
      intro sm hs
      rcases sp_key hs with e | S
      · exact absurd e hk
      · have v3 : validL (k.drop i) = true := by
          have := valid_app (k.drop i) (k.take i) hv1
          rw [List.take_append_drop, S.valid] at this
          exact this.symm
        refine ⟨?_, ?_, ?_⟩
        · unfold pieceSp
          rw [if_neg (by rw [hv2]; simp), if_neg (by decide), if_neg (by decide), join_take sm _ j _ (join_drop sm k i S.join)]
        · unfold pieceSp
          rw [if_neg (by rw [hv1]; simp), if_pos rfl, join_take sm _ i _ S.join]
          unfold cutA
          rw [if_neg]
          intro e
          cases i with
          | zero => simp at e
          | succ i =>
            rw [List.head?_take, if_neg (by simp)] at e
            exact S.head e
        · unfold pieceSp
          rw [if_neg (by rw [v3]; simp), if_neg (by decide), if_pos rfl, join_drop sm _ i S.join]
          unfold cutZ
          rw [if_neg (last_drop _ _ S.last)]
    have all_take : ∀ {p : UInt8 → Bool} {s : List UInt8} (n : Nat), s.all p = true → (s.take n).all p = true := by
      intro p s n h
      rw [List.all_eq_true] at h ⊢
      exact fun b hb => h b (List.mem_of_mem_take hb)
    have all_drop : ∀ {p : UInt8 → Bool} {s : List UInt8} (n : Nat), s.all p = true → (s.drop n).all p = true := by
      intro p s n h
      rw [List.all_eq_true] at h ⊢
      exact fun b hb => h b (List.mem_of_mem_drop hb)
    obtain rfl | rfl | rfl | rfl : f = 0 ∨ f = 1 ∨ f = 2 ∨ f = 3 := by omega
    · have h : keySp true l = some k := h
      have g := gen (by have := sp_key_len h; omega)
      obtain ⟨a, b, c⟩ := sp true h
      rw [g 1 _ l1, g 0 _ l2, g 2 _ l3]
      exact ⟨a, b, c⟩
    · have h : keySp false l = some k := h
      have g := gen (by have := sp_key_len h; omega)
      obtain ⟨a, b, c⟩ := sp false h
      rw [g 1 _ l1, g 0 _ l2, g 2 _ l3]
      exact ⟨a, b, c⟩
    · have h : some1 (digK l) = some k := h
      obtain ⟨h1, h2⟩ := some1_some h
      obtain ⟨h3, h4⟩ := dig_all h1
      have g := gen (by omega)
      rw [g 1 _ l1, g 0 _ l2, g 2 _ l3]
      exact ⟨dig_of (all_take j (all_drop i h3)), dig_of (all_take i h3), dig_of (all_drop i h3)⟩
    · have h : some1 (phK l) = some k := h
      obtain ⟨h1, h2⟩ := some1_some h
      obtain ⟨h3, h4⟩ := ph_all h1
      have g := gen (by omega)
      rw [g 1 _ l1, g 0 _ l2, g 2 _ l3]
      exact ⟨ph_of (all_take j (all_drop i h3)), ph_of (all_take i h3), ph_of (all_drop i h3)⟩
end Go.Proofs.YtimjmecogbkgfabGreatDoor
