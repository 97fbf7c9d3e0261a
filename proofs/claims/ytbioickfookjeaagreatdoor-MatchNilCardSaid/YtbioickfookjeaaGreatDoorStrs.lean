/-
  The calls into the library that package prep makes, in this text's words.
-/
import Derived.Test.YtbioickfookjeaaGreatDoorShelf
import Derived.Test.YtbioickfookjeaaGreatDoorDig
import Derived.Test.YtbioickfookjeaaGreatDoorPj
namespace Go.Proofs.YtbioickfookjeaaGreatDoor
open Go.RowKit

theorem data_str (l : List UInt8) : (str l).data.toList = l := byt_str l
theorem str_size (l : List UInt8) : (str l).size = l.length := by rw [← byt_length, byt_str]
theorem Trim_any (w : World) (l : List UInt8) (hl : l.length ≤ 9223372036854775807) :
    Calls Tryz.prog 234 #[.string (str l), .string ⟨#[32]⟩] w fun e w' => e = .returned (.string (str (trimA (trimZ l)))) ∧ Fr w.heap.size w w' := by
  have h := Any.strings_Trim_one Tryz.lays160 (str l) 32 (by decide) w (by rw [str_size]; exact hl)
  rw [data_str] at h
  refine h.mono ?_
  rintro e w' ⟨rfl, h | h⟩
  · subst h; exact ⟨rfl, Fr.refl _ _⟩
  · subst h; exact ⟨rfl, (Fr.refl _ _).drew⟩
theorem TrimRight_any (w : World) (l : List UInt8) (hl : l.length ≤ 9223372036854775807) :
    Calls Tryz.prog 320 #[.string (str l), .string ⟨#[48]⟩] w fun e w' => e = .returned (.string (str (trimO l))) ∧ w' = w := by
  have h := Any.strings_TrimRight_one Tryz.lays162 (str l) 48 (by decide) w (by rw [str_size]; exact hl)
  rw [data_str] at h
  exact h
theorem TrimPrefix_any (w : World) (l : List UInt8) :
    Calls Tryz.prog 264 #[.string (str l), .string ⟨#[32]⟩] w fun e w' => e = .returned (.string (str (cutA l))) ∧ w' = w := by
  have h := Any.strings_TrimPrefix Tryz.lays101 (str l) ⟨#[32]⟩ w
  rw [data_str] at h
  have e : Lib.trimPrefix l [32] = cutA l := by
    unfold Lib.trimPrefix Lib.hasPrefix cutA
    cases l with
    | nil => rfl
    | cons a t =>
      by_cases ha : a = 32
      · subst ha; simp
      · rw [if_neg (by simp; exact fun e => ha e.symm), if_neg (by simpa using ha)]
  rw [show (⟨#[32]⟩ : ByteArray).data.toList = [32] from rfl, e] at h
  exact h
theorem suffix_one (l : List UInt8) : Lib.hasSuffix l [32] = decide (l.getLast? = some 32) := by
  unfold Lib.hasSuffix
  rw [← List.reverse_reverse l]
  cases l.reverse with
  | nil => rfl
  | cons a t =>
    rw [List.reverse_cons, List.getLast?_append]
    simp only [List.getLast?_singleton, Option.some_or, Option.some.injEq]
    rw [Bool.eq_iff_iff]
    rw [List.isSuffixOf_iff_suffix, decide_eq_true_eq]
    constructor
    · intro h
      obtain ⟨p, hp⟩ := h
      have := congrArg List.getLast? hp
      simp at this
      exact this.symm
    · intro h; subst h; exact List.suffix_append _ _
theorem TrimSuffix_any (w : World) (l : List UInt8) (hl : l.length ≤ 9223372036854775807) :
    Calls Tryz.prog 265 #[.string (str l), .string ⟨#[32]⟩] w fun e w' => e = .returned (.string (str (cutZ l))) ∧ w' = w := by
  have h := Any.strings_TrimSuffix Tryz.lays102 (str l) ⟨#[32]⟩ w (by rw [str_size]; exact hl)
  rw [data_str] at h
  have e : Lib.trimSuffix l [32] = cutZ l := by
    unfold Lib.trimSuffix cutZ
    rw [suffix_one]
    by_cases ha : l.getLast? = some 32
    · rw [if_pos (by simpa using ha), if_pos ha, List.dropLast_eq_take]; rfl
    · rw [if_neg (by simpa using ha), if_neg ha]
  rw [show (⟨#[32]⟩ : ByteArray).data.toList = [32] from rfl, e] at h
  exact h
theorem CutPrefix_any (w : World) (l : List UInt8) :
    Calls Tryz.prog 196 #[.string (str l), .string ⟨#[45]⟩] w fun e w' => e = .returned (.tuple #[.string (str (if l.head? = some 45 then l.tail else l)), .bool (decide (l.head? = some 45))]) ∧ w' = w := by
  have h := Any.strings_CutPrefix Tryz.lays103 (str l) ⟨#[45]⟩ w
  rw [data_str] at h
  have e1 : Lib.hasPrefix l [45] = decide (l.head? = some 45) := by
    unfold Lib.hasPrefix
    cases l with
    | nil => rfl
    | cons a t =>
      rw [Bool.eq_iff_iff]; simp; exact eq_comm
  have e : Lib.trimPrefix l [45] = if l.head? = some 45 then l.tail else l := by
    unfold Lib.trimPrefix
    rw [e1]
    by_cases ha : l.head? = some 45
    · rw [if_pos (by simpa using ha), if_pos ha]; simp
    · rw [if_neg (by simpa using ha), if_neg ha]
  rw [show (⟨#[45]⟩ : ByteArray).data.toList = [45] from rfl, e, e1] at h
  exact h
theorem runeCells_map (r : Int) : Lib.runeCells r = (Lib.encodeRune r).map B8 := by
  rw [← Lib.byteCells_encodeRune]; rfl
/-- a rune laid behind a row of bytes -/
theorem AppendRune_any (w : World) (B : Nat) (v : Value) (l : List UInt8) (r : Int) (hr0 : -2147483648 ≤ r) (hr1 : r ≤ 2147483647) (hown : Own w B v l) (hB : B ≤ w.heap.size) (hlen : l.length + 4 ≤ 140737488355328) :
    Calls Tryz.prog 277 #[v, .int .i32 r] w fun e w' => ∃ v', e = .returned v' ∧ Own w' B v' (l ++ Lib.encodeRune r) ∧ Fr B w w' := by
  refine (Any.utf8_AppendRune_plain Tryz.lays242 info8 B v l.length (l.map B8) r hr0 hr1 w hown hlen hB).mono ?_
  rintro e w' ⟨v', rfl, h1, o, hg⟩
  refine ⟨v', rfl, own_of h1 (by rw [List.length_append, Lib.runeCells_length]) (by rw [List.map_append, runeCells_map]), ?_⟩
  exact (hown.alloc o).grown (by simp; omega) ((Fr.refl B w).alloc hB o) hg
end Go.Proofs.YtbioickfookjeaaGreatDoor
