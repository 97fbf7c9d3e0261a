/-
  alive: what every program must do.
-/
import Derived.Test.YtkdfgjdencelkaaBwsS
namespace Go.Proofs.Ytkdfgjdencelkaa
open Go.RowKit Go.Shelf
attribute [local go_sem] Oper.semAt_some
/-- the three texts -/
abbrev sA : ByteArray := ⟨#[97]⟩
abbrev sB : ByteArray := ⟨#[98]⟩
abbrev sC : ByteArray := ⟨#[99]⟩
abbrev tr1 : Tr Int64 ByteArray := .nd .nil 11 sA .nil
abbrev tr2 : Tr Int64 ByteArray := .nd .nil 11 sA (.nd .nil 35 sB .nil)
abbrev tr3 : Tr Int64 ByteArray := .nd .nil 19 sC (.nd .nil 35 sB .nil)
abbrev tr4 : Tr Int64 ByteArray := .nd .nil 35 sB .nil
theorem tr1_eq : Tr.put (cmpI 2) 11 sA .nil = tr1 := rfl
theorem tr2_eq : Tr.put (cmpI 2) 35 sB tr1 = tr2 := by kernel_rfl
theorem tr3_eq : Tr.put (cmpI 2) 19 sC tr2 = tr3 := by kernel_rfl
theorem tr4_eq : Tr.del (cmpI 2) 12 tr3 = tr4 := by kernel_rfl
theorem i11 : (11 : Int64).toInt = 11 := by decide
theorem i12 : (12 : Int64).toInt = 12 := by decide
theorem i19 : (19 : Int64).toInt = 19 := by decide
theorem i20 : (20 : Int64).toInt = 20 := by decide
theorem i35 : (35 : Int64).toInt = 35 := by decide
theorem i40 : (40 : Int64).toInt = 40 := by decide
section
set_option maxRecDepth 100000
set_option maxHeartbeats 4000000
theorem aPut1 (cb B : Nat) (w : World) (h : BS.BgAt cb 2 w B .nil) : Calls Try.prog 47 #[.pointer (some ⟨B, 0, none⟩), .int .i64 11, .string sA] w fun e w' => e = .returned (.bool true) ∧ BS.BgAt cb 2 w' B tr1 ∧ Only (fun g => g = B) w w' := by
  have := BS.Put_any cb 2 w B .nil h 11 sA (by decide)
  rw [tr1_eq, i11] at this
  exact this
theorem aPut2 (cb B : Nat) (w : World) (h : BS.BgAt cb 2 w B tr1) : Calls Try.prog 47 #[.pointer (some ⟨B, 0, none⟩), .int .i64 35, .string sB] w fun e w' => e = .returned (.bool true) ∧ BS.BgAt cb 2 w' B tr2 ∧ Only (fun g => g = B) w w' := by
  have := BS.Put_any cb 2 w B _ h 35 sB (by decide)
  rw [tr2_eq, i35] at this
  exact this
theorem aPut3 (cb B : Nat) (w : World) (h : BS.BgAt cb 2 w B tr2) : Calls Try.prog 47 #[.pointer (some ⟨B, 0, none⟩), .int .i64 19, .string sC] w fun e w' => e = .returned (.bool false) ∧ BS.BgAt cb 2 w' B tr3 ∧ Only (fun g => g = B) w w' := by
  have := BS.Put_any cb 2 w B _ h 19 sC (by decide)
  rw [tr3_eq, i19] at this
  exact this
theorem aGet (cb B : Nat) (w : World) (h : BS.BgAt cb 2 w B tr3) : Calls Try.prog 43 #[.pointer (some ⟨B, 0, none⟩), .int .i64 12] w fun e w' => e = .returned (.tuple #[.string sC, .bool true]) ∧ Ext w w' := by
  have := BS.Get_any cb 2 w B _ h 12
  rw [show Tr.get (cmpI 2) 12 tr3 = some (19, sC) by kernel_rfl, i12] at this
  exact this
theorem aNth (cb B : Nat) (w : World) (h : BS.BgAt cb 2 w B tr3) : Calls Try.prog 44 #[.pointer (some ⟨B, 0, none⟩), .int .i64 1] w fun e w' => e = .returned (.tuple #[.int .i64 35, .string sB, .bool true]) ∧ Ext w w' := by
  have := BS.Nth_any cb 2 w B _ h 1 (by omega) (by omega) (by decide)
  rw [show Tr.nth tr3 1 = some (35, sB) by kernel_rfl] at this
  simp only [BS.nthO, I6, i35, S6] at this
  exact this
theorem aFrom (cb B : Nat) (w : World) (h : BS.BgAt cb 2 w B tr3) : Calls Try.prog 45 #[.pointer (some ⟨B, 0, none⟩), .int .i64 20] w fun e w' => BS.HandO w w' false [tr4] e := by
  have := BS.From_any cb 2 w B _ h 20 (by decide)
  rw [show Tr.chainSk false (fun a => decide (cmpI 2 a 20 < 0)) tr3 = [tr4] by kernel_rfl, i20] at this
  exact this
theorem aRank (cb B : Nat) (w : World) (h : BS.BgAt cb 2 w B tr3) : Calls Try.prog 49 #[.pointer (some ⟨B, 0, none⟩), .int .i64 40] w fun e w' => e = .returned (.int .i64 2) ∧ Ext w w' := by
  have := BS.Rank_any cb 2 w B _ h 40 (by decide)
  rw [show Tr.rank (cmpI 2) 40 tr3 = 2 by kernel_rfl, i40] at this
  exact this
theorem aDel (cb B : Nat) (w : World) (h : BS.BgAt cb 2 w B tr3) : Calls Try.prog 48 #[.pointer (some ⟨B, 0, none⟩), .int .i64 12] w fun e w' => e = .returned (.bool true) ∧ BS.BgAt cb 2 w' B tr4 ∧ Only (fun g => g = B) w w' := by
  have := BS.Del_any cb 2 w B _ h 12 (by decide)
  rw [tr4_eq, i12] at this
  exact this
theorem eq_nilq (fn : Fn) (a b : Array Value) (w : World) : (binOp .eql 32 (.func fn a b) .nilFunc).run Try.prog w = .ok (.bool false) w := by
  have hu : Try.prog.underlying 32 = _ := Try.underlying32
  have h : ∀ d : Nat, (Op.equalIn (d + 1) 32 (.func fn a b) .nilFunc).run Try.prog w = .ok false w := fun d => by
    simp [Op.equalIn, run_underlying hu]
  simp only [binOp]
  simp [Op.equal, Op.maxDepth, h 9999]
end
end Go.Proofs.Ytkdfgjdencelkaa
