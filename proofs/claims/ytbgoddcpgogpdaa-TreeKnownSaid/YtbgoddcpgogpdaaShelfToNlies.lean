/-
  The bodies of the library's functions in this program are those that the library's contracts speak of.
-/
import Derived.Shelf.Strings.Prefix
import Derived.Test.YtbgoddcpgogpdaaChecked
import Derived.Test.YtbgoddcpgogpdaaNst4
namespace Go.Proofs
open Go.Shelf
def Try.lays206_ren : Go.Shelf.Ren := ⟨fun | 206 => 44 | n => n, fun | 9 => 9 | 4 => 4 | 3 => 3 | n => n, fun | n => n⟩
theorem Try.lays206 : Go.Proofs.Lays.n206 Try.prog Try.lays206_ren := {
  mixed := by kernel_rfl
  f206 := Try.func44.trans (congrArg some (by kernel_rfl))
  t3 := Try.underlying3
  a3 := Try.isAgg3
  z3 := Try.sizeOf3
  v3 := Try.zeroValue3
  t4 := Try.underlying4
  a4 := Try.isAgg4
  z4 := Try.sizeOf4
  v4 := Try.zeroValue4
  t9 := Try.underlying9
  a9 := Try.isAgg9
  z9 := Try.sizeOf9
  v9 := Try.zeroValue9 }
end Go.Proofs

/-
  name.Lies.
-/
namespace Go.Proofs.Ytbgoddcpgogpdaa
open Go.RowKit

/-- the one lies below the other -/
def liesB (a b : ByteArray) : Bool := (stepsL (byt a)).isSome && (stepsL (byt b)).isSome && decide (b.size < a.size) && Lib.hasPrefix (byt a) (byt b)
set_option maxRecDepth 100000 in
theorem HasPrefix_any (w : World) (s p : ByteArray) : Calls Try.prog 31 #[.string s, .string p] w fun e w' => e = .returned (.bool (Lib.hasPrefix (byt s) (byt p))) ∧ w' = w := by
  have hp := Any.stringslite_HasPrefix Try.lays206 s p
  go_enter Try.func31, Try.ntmps31
  go_wp2_with (go_at_call 44; refine (hp _).mono ?_; rintro _ w1 ⟨rfl, rfl⟩)
  go_ret
  exact ⟨rfl, rfl⟩
set_option maxRecDepth 100000 in
theorem Lies_any (w : World) (s p : ByteArray) (hs : s.size ≤ 1000000000) (hp : p.size ≤ 1000000000) : Calls Try.prog 17 #[.string s, .string p] w fun e w' => e = .returned (.bool (liesB s p)) ∧ Ext w w' := by
  have hc1 : Calls Try.prog 30 #[.string s] w fun e w' => Ext w w' ∧ ∃ v, e = .returned (.tuple #[v, .bool (stepsL (byt s)).isSome]) := by
    refine (cut_any w s hs).mono ?_
    rintro _ w1 ⟨x1, ⟨hn, rfl⟩ | ⟨q, v, hq, rfl, _⟩⟩
    · exact ⟨x1, _, by rw [hn]; rfl⟩
    · exact ⟨x1, _, by rw [hq]; rfl⟩
  have hc2 : ∀ w, Calls Try.prog 30 #[.string p] w fun e w' => Ext w w' ∧ ∃ v, e = .returned (.tuple #[v, .bool (stepsL (byt p)).isSome]) := by
    intro w
    refine (cut_any w p hp).mono ?_
    rintro _ w1 ⟨x1, ⟨hn, rfl⟩ | ⟨q, v, hq, rfl, _⟩⟩
    · exact ⟨x1, _, by rw [hn]; rfl⟩
    · exact ⟨x1, _, by rw [hq]; rfl⟩
  have hh := fun w => HasPrefix_any w s p
  obtain ⟨b1, hb1⟩ : ∃ b, b = (stepsL (byt s)).isSome := ⟨_, rfl⟩
  obtain ⟨b2, hb2⟩ : ∃ b, b = (stepsL (byt p)).isSome := ⟨_, rfl⟩
  obtain ⟨b3, hb3⟩ : ∃ b, b = Lib.hasPrefix (byt s) (byt p) := ⟨_, rfl⟩
  have hv : liesB s p = (b1 && b2 && decide (p.size < s.size) && b3) := by rw [hb1, hb2, hb3]; rfl
  rw [hv]
  rw [← hb1] at hc1
  rw [← hb2] at hc2
  rw [← hb3] at hh
  clear hb1 hb2 hb3 hv
  by_cases hlt : p.size < s.size
  · have h1 : (p.size : Int) < (s.size : Int) := by omega
    rw [decide_eq_true hlt]
    cases b1 <;> cases b2 <;> cases b3 <;>
    · go_enter Try.func17, Try.ntmps17
      go_wp2_with fail
      go_at_call 30
      refine hc1.mono ?_
      rintro _ w1 ⟨x1, v1, rfl⟩
      go_wp2_with fail
      go_at_call 30
      refine (hc2 _).mono ?_
      rintro _ w2 ⟨x2, v2, rfl⟩
      go_wp2_with (go_at_call 31; refine (hh _).mono ?_; rintro _ w3 ⟨rfl, rfl⟩)
      go_ret
      exact ⟨rfl, x1.trans x2⟩
  · have h1 : ¬ (p.size : Int) < (s.size : Int) := by omega
    rw [decide_eq_false hlt]
    cases b1 <;> cases b2 <;>
    · go_enter Try.func17, Try.ntmps17
      go_wp2_with fail
      go_at_call 30
      refine hc1.mono ?_
      rintro _ w1 ⟨x1, v1, rfl⟩
      go_wp2_with fail
      go_at_call 30
      refine (hc2 _).mono ?_
      rintro _ w2 ⟨x2, v2, rfl⟩
      go_wp2
      go_ret
      exact ⟨rfl, x1.trans x2⟩
end Go.Proofs.Ytbgoddcpgogpdaa
