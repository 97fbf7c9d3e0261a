/-
  Items to be laid, as a tree: what lay lays of them, and what is read again: plain functions.
-/
import Derived.Test.YtjannndndbohaaaBwclose
import Derived.Test.YtjannndndbohaaaBnum
import Derived.Test.YtjannndndbohaaaBeach
namespace Go.Proofs.Ytjannndndbohaaa

/-- a list of items: the first one (with those within it), and the rest -/
inductive IT where
  | nil
  | cons (kd c n v : Int) (s : ByteArray) (i r : IT)
def IT.len : IT → Nat
  | .nil => 0
  | .cons _ _ _ _ _ _ r => r.len + 1
def IT.size : IT → Nat
  | .nil => 0
  | .cons _ _ _ _ _ i r => i.size + r.size + 1

def tc (c : Int) : Nat := (c % 4).toNat
def tn (n : Int) : Nat := (n % 31).toNat
theorem tc_le (c : Int) : tc c ≤ 3 := by unfold tc; omega
theorem tn_lt (n : Int) : tn n < 31 := by unfold tn; omega
def txt (s : ByteArray) : List UInt8 := (byt s).take 65536
def flagB (v : Int) : List UInt8 := if 0 < v then [255] else [0]
/-- is it made of others? -/
def made (kd : Int) (d : Nat) : Bool := !(decide (kd = 0) || decide (kd = 1) || decide (kd = 2) || decide (60 ≤ d))
def tg (m : Bool) (c n : Nat) : UInt8 := if m then tagM c n else tagB c n
def wrapB (m : Bool) (c n : Nat) (b : List UInt8) : List UInt8 := tg m c n :: (lenL b.length ++ b)
/-- the body, and how many may be laid behind it -/
def bodyK (kd v : Int) (s : ByteArray) (d k : Nat) (i : List UInt8 × Nat) : List UInt8 × Nat :=
  if kd = 0 then (intB v, k) else if kd = 1 then (flagB v, k) else if kd = 2 ∨ 60 ≤ d then (txt s, k) else i
/-- what is laid, and how many may be laid behind it -/
def layL : IT → Nat → Nat → List UInt8 × Nat
  | .nil, _, k => ([], k)
  | .cons kd c n v s i r, d, k => if k = 0 then ([], 0) else
    (wrapB (made kd d) (tc c) (tn n) (bodyK kd v s d (k - 1) (layL i (d + 1) (k - 1))).1 ++ (layL r d (bodyK kd v s d (k - 1) (layL i (d + 1) (k - 1))).2).1,
      (layL r d (bodyK kd v s d (k - 1) (layL i (d + 1) (k - 1))).2).2)
/-- the headers of what is laid from the place a on -/
def tls : IT → Nat → Nat → Nat → List Tl
  | .nil, _, _, _ => []
  | .cons kd c n v s i r, d, k, a => if k = 0 then [] else
    ⟨tc c, made kd d, tn n, a + (1 + lenOct (bodyK kd v s d (k - 1) (layL i (d + 1) (k - 1))).1.length), a + (1 + lenOct (bodyK kd v s d (k - 1) (layL i (d + 1) (k - 1))).1.length) + (bodyK kd v s d (k - 1) (layL i (d + 1) (k - 1))).1.length⟩ ::
      tls r d (bodyK kd v s d (k - 1) (layL i (d + 1) (k - 1))).2 (a + (1 + lenOct (bodyK kd v s d (k - 1) (layL i (d + 1) (k - 1))).1.length) + (bodyK kd v s d (k - 1) (layL i (d + 1) (k - 1))).1.length)

theorem wrapB_length (m : Bool) (c n : Nat) (b : List UInt8) : (wrapB m c n b).length = 1 + lenOct b.length + b.length := by
  simp [wrapB, lenL_length]; omega
theorem lenOct_small (n : Nat) (h : n < 4294967296) : lenOct n ≤ 5 := by
  unfold lenOct
  split
  · omega
  · have := nb_le n 4 (by omega)
    omega
theorem bodyK_bound (kd v : Int) (s : ByteArray) (d k : Nat) (i : List UInt8 × Nat) (h2 : i.2 ≤ k) (h1 : i.1.length ≤ 65600 * (k - i.2)) :
    (bodyK kd v s d k i).2 ≤ k ∧ (bodyK kd v s d k i).1.length ≤ 65536 + 65600 * (k - (bodyK kd v s d k i).2) := by
  unfold bodyK
  have hb := octN_bound v
  split
  · simp [intB, twos_length]; omega
  · split
    · have : (flagB v).length = 1 := by unfold flagB; split <;> rfl
      simp [this]
    · split
      · simp [txt]; omega
      · exact ⟨h2, by omega⟩
theorem layL_bound : ∀ (x : IT) (d k : Nat), k ≤ 500 → (layL x d k).2 ≤ k ∧ (layL x d k).1.length ≤ 65600 * (k - (layL x d k).2)
  | .nil, d, k, _ => by simp [layL]
  | .cons kd c n v s i r, d, k, hk => by
    unfold layL
    split
    · simp
    · have hi := layL_bound i (d + 1) (k - 1) (by omega)
      obtain ⟨b1, b2⟩ := bodyK_bound kd v s d (k - 1) _ hi.1 hi.2
      generalize bodyK kd v s d (k - 1) (layL i (d + 1) (k - 1)) = bk at *
      have hr := layL_bound r d bk.2 (by omega)
      generalize layL r d bk.2 = q at *
      have hl := lenOct_small bk.1.length (by omega)
      simp only [List.length_append, wrapB_length]
      refine ⟨by omega, ?_⟩
      omega
theorem tagM_parts (c n : Nat) (hc : c ≤ 3) (hn : n < 31) : (tagM c n).toNat % 32 ≠ 31 ∧ (tagM c n).toNat / 64 = c ∧ (tagM c n).toNat / 32 % 2 = 1 ∧ (tagM c n).toNat % 32 = n := by
  rw [tagM_toNat c n hc hn]; omega
theorem tagB_parts (c n : Nat) (hc : c ≤ 3) (hn : n < 31) : (tagB c n).toNat % 32 ≠ 31 ∧ (tagB c n).toNat / 64 = c ∧ (tagB c n).toNat / 32 % 2 = 0 ∧ (tagB c n).toNat % 32 = n := by
  have e : (tagB c n).toNat = 64 * c + n := by unfold tagB; simp; omega
  rw [e]; omega
theorem headB_wrap (a : Nat) (m : Bool) (c n : Nat) (b q : List UInt8) (hc : c ≤ 3) (hn : n < 31) (hb : b.length < 4294967296) :
    headB a (wrapB m c n b ++ q) = (⟨c, m, n, a + (1 + lenOct b.length), a + (1 + lenOct b.length) + b.length⟩, 0) := by
  have hl : bodyLen (lenL b.length ++ (b ++ q)) = (lenOct b.length, b.length, 0) := bodyLen_lenL _ _ (by simp) (Nat.lt_of_lt_of_le hb (by decide))
  have e : wrapB m c n b ++ q = tg m c n :: (lenL b.length ++ (b ++ q)) := by simp [wrapB]
  rw [e, headB, hl]
  cases m
  · obtain ⟨p1, p2, p3, p4⟩ := tagB_parts c n hc hn
    simp only [tg, Bool.false_eq_true, if_false, p2, p3]
    rw [if_neg p1, if_neg (by simp), p4]
    simp only [Prod.mk.injEq, Tl.mk.injEq, true_and, and_true]
    exact ⟨rfl, by omega, by omega⟩
  · obtain ⟨p1, p2, p3, p4⟩ := tagM_parts c n hc hn
    simp only [tg, if_true, p2, p3]
    rw [if_neg p1, if_neg (by simp), p4]
    simp only [Prod.mk.injEq, Tl.mk.injEq, true_and, and_true]
    exact ⟨rfl, by omega, by omega⟩
theorem cutB_cut (b : List UInt8) (a e i : Nat) : cutB b (a + i) e = (cutB b a e).drop i := by
  simp [cutB]
theorem cutB_part (b : List UInt8) (a e i j : Nat) (h : a + j ≤ e) : cutB b (a + i) (a + j) = ((cutB b a e).take j).drop i := by
  unfold cutB
  rw [List.take_drop, List.drop_drop, List.take_take]
  congr 2
  omega
theorem items_tree (b : List UInt8) (e : Nat) (he : e ≤ b.length) : ∀ (x : IT) (d k a : Nat), k ≤ 500 → a ≤ e → cutB b a e = (layL x d k).1 → (items b e a).1.map (·.2) = tls x d k a ∧ (items b e a).2 = 0
  | .nil, d, k, a, hk, ha, h => by
    have hlen := cutB_length b a e he
    rw [h] at hlen
    simp [layL] at hlen
    rw [items_end b e a (by omega)]
    simp [tls]
  | .cons kd c n v s i r, d, k, a, hk, ha, h => by
    have hlen := cutB_length b a e he
    unfold layL at h
    unfold tls
    split at h
    · rename_i h0
      rw [h] at hlen
      simp at hlen
      rw [items_end b e a (by omega), if_pos h0]
      simp
    · rename_i h0
      have hi := layL_bound i (d + 1) (k - 1) (by omega)
      obtain ⟨b1, b2⟩ := bodyK_bound kd v s d (k - 1) _ hi.1 hi.2
      rw [if_neg h0]
      generalize bodyK kd v s d (k - 1) (layL i (d + 1) (k - 1)) = bk at *
      have hrb := layL_bound r d bk.2 (by omega)
      simp only at h
      rw [h] at hlen
      simp only [List.length_append, wrapB_length] at hlen
      have hh : headL b a e = (⟨tc c, made kd d, tn n, a + (1 + lenOct bk.1.length), a + (1 + lenOct bk.1.length) + bk.1.length⟩, 0) := by
        rw [headL, if_pos (by omega)]
        simp only [Int.toNat_natCast]
        rw [h]
        exact headB_wrap a _ _ _ _ _ (tc_le c) (tn_lt n) (by omega)
      rw [items_step b e a (by omega) (by rw [hh])]
      rw [hh]
      have hr := items_tree b e he r d bk.2 (a + (1 + lenOct bk.1.length) + bk.1.length) (by omega) (by omega) (by
        rw [show a + (1 + lenOct bk.1.length) + bk.1.length = a + (1 + lenOct bk.1.length + bk.1.length) by omega, cutB_cut b a e _, h, List.drop_append, wrapB_length]
        simp [wrapB_length])
      simp only [List.map_cons]
      exact ⟨by rw [hr.1], hr.2⟩
theorem whole_tree (b : List UInt8) (x : IT) (f t d k : Nat) (hk : k ≤ 500) (hf : f ≤ t) (ht : t ≤ b.length) (h : cutB b f t = (layL x d k).1) : wholeL b f t = tls x d k f ∧ (sideL b f t).2 = 0 := by
  have hs : sideL b f t = items b t f := by
    rw [sideL, if_pos (by simp [withinB]; omega)]; rfl
  have hi := items_tree b t ht x d k f hk hf h
  rw [wholeL, hs, if_pos hi.2]
  exact hi
end Go.Proofs.Ytjannndndbohaaa
