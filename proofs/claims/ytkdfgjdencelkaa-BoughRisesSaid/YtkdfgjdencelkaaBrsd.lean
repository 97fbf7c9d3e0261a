/-
  The code of BoughRises from a place on.
-/
import Derived.Test.YtkdfgjdencelkaaBrs3
namespace Go.Proofs.Ytkdfgjdencelkaa
open Go.RowKit Go.Shelf
attribute [local go_sem] Oper.semAt_some
section
set_option maxRecDepth 100000
set_option maxHeartbeats 16000000
noncomputable def sndC : Code → Code
  | .seq _ b => b
  | c => c
noncomputable def fstC : Code → Code
  | .seq a _ => a
  | c => c
/-- behind so many of the statements that follow one another -/
noncomputable def riseAt : Nat → Code
  | 0 => (Try.f5.body).getD .skip
  | n + 1 => sndC (riseAt n)
theorem rise_0 : riseAt 0 = (fstC (riseAt 0)).seq ((fstC (riseAt 1)).seq ((fstC (riseAt 2)).seq ((fstC (riseAt 3)).seq ((fstC (riseAt 4)).seq ((fstC (riseAt 5)).seq (riseAt 6)))))) := by
  simp only [fstC, riseAt, sndC, Try.f5, Option.getD_some]
theorem rise_6 : riseAt 6 = (fstC (riseAt 6)).seq ((fstC (riseAt 7)).seq ((fstC (riseAt 8)).seq ((fstC (riseAt 9)).seq ((fstC (riseAt 10)).seq ((fstC (riseAt 11)).seq (riseAt 12)))))) := by
  simp only [fstC, riseAt, sndC, Try.f5, Option.getD_some]
theorem rise_12 : riseAt 12 = (fstC (riseAt 12)).seq ((fstC (riseAt 13)).seq ((fstC (riseAt 14)).seq (riseAt 15))) := by
  simp only [fstC, riseAt, sndC, Try.f5, Option.getD_some]
end
end Go.Proofs.Ytkdfgjdencelkaa
