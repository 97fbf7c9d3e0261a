/-
  Shim: filter.Check of one filter (cn equal a*), out of Check of any.
-/
import Derived.Test.YtffaenlbdapleaaGreatDoorQI
namespace Go.Proofs.YtffaenlbdapleaaGreatDoor
open Go.RowKit

def fx : F9 := ⟨3, none, 0, 0, ⟨#[99, 110]⟩, ⟨#[97, 42]⟩, ⟨#[]⟩, none, 0, 0, ⟨#[]⟩, ⟨#[]⟩, false⟩
def ox : OwnF := ⟨3, ⟨#[99, 110]⟩, ⟨#[97, 42]⟩, ⟨#[]⟩, [], ⟨#[]⟩, ⟨#[]⟩, false⟩
theorem fx_own (w : World) : FOwn w fx ox ∧ FKids w fx .nil := ⟨⟨rfl, rfl, rfl, rfl, rfl, rfl, rfl, by constructor <;> decide, ssl_nil rfl (by decide), by simp [sized, ox], by decide⟩, rfl, by decide, by decide, .inl rfl⟩
theorem Check_3 (w : World) : Calls Tryz.prog 19 #[.agg #[.int .i8 3, .slice none 0 0, .string ⟨#[99, 110]⟩, .string ⟨#[97, 42]⟩, .string ⟨#[]⟩, .slice none 0 0, .string ⟨#[]⟩, .string ⟨#[]⟩, .bool false]] w fun e w' => e = .returned (.tuple #[.int .i64 0, .int .i64 1, .int .i64 1]) ∧ Ext w w' := by
  have h := Check_any w (.agg fx.arr) ox .nil ⟨fx, rfl, (fx_own w).1, (fx_own w).2⟩
  rw [show checkL ox .nil = (0, 1, 1) from by decide +kernel] at h
  exact h
end Go.Proofs.YtffaenlbdapleaaGreatDoor
