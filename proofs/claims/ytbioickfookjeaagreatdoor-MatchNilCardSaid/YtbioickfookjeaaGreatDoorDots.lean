/-
  Numbers with dots between them.
-/
import Derived.Test.YtbioickfookjeaaGreatDoorWord
import Derived.Test.YtbioickfookjeaaGreatDoorShelf2
import Derived.Test.YtbioickfookjeaaGreatDoorNum
import Derived.Lib.SplitLaws
import Derived.Lib.IndexBytes
namespace Go.Proofs.YtbioickfookjeaaGreatDoor
open Go.RowKit

theorem splitD_none : ∀ l : List UInt8, (46 : UInt8) ∉ l → splitD l = [l]
  | [], _ => rfl
  | b :: t, h => by
    rw [splitD, if_neg (fun e => h (by simp [e])), splitD_none t (fun e => h (by simp [e]))]
theorem splitD_app : ∀ (p q : List UInt8), (46 : UInt8) ∉ p → splitD (p ++ 46 :: q) = p :: splitD q
  | [], q, _ => by rw [List.nil_append, splitD, if_pos rfl]
  | b :: p, q, h => by
    rw [List.cons_append, splitD, if_neg (fun e => h (by simp [e])), splitD_app p q (fun e => h (by simp [e]))]
theorem splitD_len : ∀ (l : List UInt8), ∀ r ∈ splitD l, r.length ≤ l.length
  | [], r, h => by simp [splitD] at h; subst h; simp
  | b :: t, r, h => by
    rw [splitD] at h
    split at h
    · rcases List.mem_cons.1 h with e | e
      · subst e; simp
      · have := splitD_len t r e; simp; omega
    · cases hs : splitD t with
      | nil => rw [hs] at h; simp at h; subst h; simp
      | cons r0 rs =>
        rw [hs] at h
        rcases List.mem_cons.1 h with e | e
        · subst e
          have := splitD_len t r0 (by rw [hs]; simp)
          simp; omega
        · have := splitD_len t r (by rw [hs]; simp [e])
          simp; omega
theorem idx_dot (s : ByteArray) : Lib.indexB s ⟨#[46]⟩ = Lib.indexByte (byt s) 46 := Go.Lib.one s ⟨#[46]⟩ rfl
theorem cnt_dot (s : ByteArray) : Lib.countB s ⟨#[46]⟩ = (byt s).count 46 := Lib.count_one 46 (byt s)
theorem splitB_dot : ∀ (k : Nat) (s : ByteArray), (byt s).count 46 = k → (Lib.splitB ⟨#[46]⟩ 0 k s).map byt = splitD (byt s) := by
  intro k
  induction k with
  | zero =>
    intro s h
    rw [splitD_none _ (by intro e; have := List.count_pos_iff.2 e; omega)]
    rfl
  | succ k ih =>
    intro s h
    have hne : Lib.indexByte (byt s) 46 ≠ -1 := by
      intro e
      have hn := Lib.indexByte_none e
      have : (46 : UInt8) ∈ byt s := List.count_pos_iff.1 (by omega)
      obtain ⟨i, hi, he⟩ := List.getElem_of_mem this
      exact hn i (by rw [List.getElem?_eq_getElem hi, he])
    have hge := Lib.indexByte_ge (byt s) 46
    obtain ⟨o, ho⟩ : ∃ o : Nat, Lib.indexByte (byt s) 46 = o := ⟨(Lib.indexByte (byt s) 46).toNat, by omega⟩
    obtain ⟨h1, h2⟩ := Lib.indexByte_some ho
    have hol : o < (byt s).length := (List.getElem?_eq_some_iff.1 h1).1
    have hsp : byt s = (byt s).take o ++ 46 :: (byt s).drop (o + 1) := by
      have hg : (byt s)[o] = 46 := (List.getElem?_eq_some_iff.1 h1).2
      rw [← hg, List.getElem_cons_drop, List.take_append_drop]
    have hno : (46 : UInt8) ∉ (byt s).take o := by
      intro e
      obtain ⟨i, hi, he⟩ := List.getElem_of_mem e
      have hi' : i < o := by rw [List.length_take] at hi; omega
      refine h2 i hi' ?_
      rw [List.getElem_take] at he
      rw [List.getElem?_eq_getElem (by omega), he]
    have hc : (byt (s.extract (o + 1) s.size)).count 46 = k := by
      rw [byt_from]
      rw [hsp, List.count_append, List.count_cons_self, List.count_eq_zero.2 hno] at h
      omega
    rw [Lib.splitB, idx_dot, ho]
    have hb : ((o : Int) == -1) = false := by simp only [beq_eq_false_iff_ne, ne_eq]; omega
    rw [hb]
    simp only [Bool.false_eq_true, if_false, List.map_cons]
    have e1 : ((o : Int)).toNat + 0 = o := by omega
    have e2 : ((o : Int)).toNat + (⟨#[46]⟩ : ByteArray).size = o + 1 := by show ((o : Int)).toNat + 1 = o + 1; omega
    rw [e1, e2, ih _ hc, byt_from]
    have e3 : byt (s.extract 0 o) = (byt s).take o := by rw [byt_extract]; simp
    rw [e3]
    conv => rhs; rw [hsp]
    rw [splitD_app _ _ hno]
set_option maxRecDepth 100000 in
theorem slIndex_dot (w : World) (x : ByteArray) :
    Calls Tryz.prog 268 #[.string x, .string ⟨#[46]⟩] w fun e w' => e = .returned (.int .i64 (Lib.indexB x ⟨#[46]⟩)) ∧ w' = w := by
  have hx := fun w => Any.stringslite_IndexByte ({ Tryz.laysM146 with } : Lays.n217 Tryz.prog Tryz.laysM146_ren) x 46 w
  rw [idx_dot]
  by_cases hq : byt x = [46]
  · have n1 : ([46] == x.toList) = true := by rw [toList_byt, hq]; rfl
    have HR : Hid (Lib.indexByte (byt x) 46 = 0) := by show Lib.indexByte (byt x) 46 = 0; rw [hq]; rfl
    clear hq hx
    go_enter Tryz.func268, Tryz.ntmps268
    go_wp2
    go_ret
    exact ⟨by rw [HR.out]; rfl, rfl⟩
  · have n1 : ([46] == x.toList) = false := by rw [toList_byt]; simp only [beq_eq_false_iff_ne, ne_eq]; exact fun e => hq e.symm
    have hx2 : ∀ w, Calls Tryz.prog 309 #[.string x, .int .u8 46] w fun e w' => e = .returned (.int .i64 (Lib.indexByte (byt x) 46)) ∧ w' = w := hx
    clear hq hx
    go_enter Tryz.func268, Tryz.ntmps268
    go_wp2_with (go_at_call 309; refine (hx2 _).mono ?_; rintro e w2 ⟨rfl, rfl⟩)
    go_ret
    exact ⟨rfl, rfl⟩
theorem Index_dot (w : World) (x : ByteArray) :
    Calls Tryz.prog 247 #[.string x, .string ⟨#[46]⟩] w fun e w' => e = .returned (.int .i64 (Lib.indexB x ⟨#[46]⟩)) ∧ w' = w := by
  have hx := fun w => slIndex_dot w x
  go_enter Tryz.func247, Tryz.ntmps247
  go_wp2_with (go_at_call 268; refine (hx _).mono ?_; rintro e w2 ⟨rfl, rfl⟩)
  go_ret
  exact ⟨rfl, rfl⟩
theorem Count_dot (w : World) (s : ByteArray) :
    Calls Tryz.prog 345 #[.string s, .string ⟨#[46]⟩] w fun e w' => e = .returned (.int .i64 (Lib.countB s ⟨#[46]⟩ : Nat)) ∧ w' = w := by
  rw [cnt_dot]
  exact Any.strings_Count_one ({ Tryz.laysM146 with } : Lays.n138 Tryz.prog Tryz.laysM146_ren) s 46 w
theorem Split_dot (w : World) (s : ByteArray) (hs : s.size ≤ 65536) :
    Calls Tryz.prog 286 #[.string s, .string ⟨#[46]⟩] w fun e w' => ∃ R : List ByteArray, R.map byt = splitD (byt s) ∧ e = .returned (.slice (some ⟨w.heap.size, 0, none⟩) R.length R.length) ∧ w' = w.alloc (.cells (R.map Value.string).toArray 9) := by
  have hle := Lib.countB_le ⟨#[46]⟩ (by decide) s.size s (Nat.le_refl _)
  have hlen := Lib.splitB_all ⟨#[46]⟩ (by decide) 0 _ s rfl
  have c := Any.strings_genSplit_core ({ Tryz.laysM146 with } : Lays.n221 Tryz.prog Tryz.laysM146_ren) Tryz.laysM146.i9 s ⟨#[46]⟩ 0 (-1) (Lib.countB s ⟨#[46]⟩ + 1) w (by omega) (by decide) (Nat.zero_le _)
    (fun x c hx => Index_dot _ x) (Count_dot w s) (by decide) (by decide) (by rw [if_pos (by decide)]; omega)
  rw [Nat.add_sub_cancel, hlen] at c
  have e2 : Lib.cellsOf (Lib.splitB ⟨#[46]⟩ 0 (Lib.countB s ⟨#[46]⟩) s) (Lib.countB s ⟨#[46]⟩ + 1) = ((Lib.splitB ⟨#[46]⟩ 0 (Lib.countB s ⟨#[46]⟩) s).map Value.string).toArray := by rw [← hlen]; exact Lib.cellsOf_full _
  rw [e2] at c
  have hR := splitB_dot _ s (cnt_dot s).symm
  have c2 : Calls Tryz.prog 324 #[.string s, .string ⟨#[46]⟩, .int .i64 0, .int .i64 (-1)] w fun e w' => e = .returned (.slice (some ⟨w.heap.size, 0, none⟩) (Lib.countB s ⟨#[46]⟩ + 1) (Lib.countB s ⟨#[46]⟩ + 1)) ∧ w' = w.alloc (.cells ((Lib.splitB ⟨#[46]⟩ 0 (Lib.countB s ⟨#[46]⟩) s).map Value.string).toArray 9) := c
  rw [← hlen] at c2
  generalize Lib.splitB ⟨#[46]⟩ 0 (Lib.countB s ⟨#[46]⟩) s = R at *
  clear c e2 hlen hle
  go_enter Tryz.func286, Tryz.ntmps286
  go_wp2_with (go_at_call 324; refine c2.mono ?_; rintro e w' ⟨rfl, rfl⟩)
  go_ret
  exact ⟨R, hR, rfl, rfl⟩
end Go.Proofs.YtbioickfookjeaaGreatDoor
