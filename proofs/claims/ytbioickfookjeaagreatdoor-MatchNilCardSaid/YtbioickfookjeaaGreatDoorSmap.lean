/-
  Maps from texts to places: what they hold, looked up and stored; find, put.
-/
import Derived.Test.YtbioickfookjeaaGreatDoorSword
import Derived.Test.YtbioickfookjeaaGreatDoorXapp
import Derived.Maps.OwnSet
import Derived.Maps.Views
import Derived.StringKeys
namespace Go.Proofs.YtbioickfookjeaaGreatDoor
open Go.RowKit Go.Maps

theorem lawS : Keyed Tryz.prog 9 := string_keyed Tryz.underlying9
theorem zeroI (w : World) : (zeroValue 3).run Tryz.prog w = .ok (.int .i64 0) w := by kernel_rfl
/-- block m is a map of at most n entries: f says what stands at a text -/
def MapAt (w : World) (m n : Nat) (f : List UInt8 → Option Int) : Prop :=
  ∃ D : DataW Unit, w.ownsMap Tryz.prog 9 (plainElem Tryz.prog 3) m n D ∧ ∀ l : List UInt8, Maps.has D (.string l) = (f l).isSome ∧ D.atKey (.string l) (.lit (.int .i64 0)) = .lit (.int .i64 ((f l).getD 0))
theorem MapAt.lt {w : World} {m n : Nat} {f : List UInt8 → Option Int} (h : MapAt w m n f) : m < w.heap.size := h.choose_spec.1.lt
theorem MapAt.notCells {w : World} {m n : Nat} {f : List UInt8 → Option Int} (h : MapAt w m n f) : ∀ c t fz, w.heap[m]? ≠ some (.cells c t fz) := by
  obtain ⟨D, ⟨es, cl, hb, _⟩, _⟩ := h
  intro c t fz e
  rw [hb] at e; cases e
theorem MapAt.same {w w' : World} {m n : Nat} {f : List UInt8 → Option Int} (h : MapAt w m n f) (e : w'.heap[m]? = w.heap[m]?) : MapAt w' m n f := by
  obtain ⟨D, ⟨es, cl, hb, r⟩, hf⟩ := h
  exact ⟨D, ⟨es, cl, e.trans hb, r⟩, hf⟩
theorem MapAt.ext {w w' : World} {m n : Nat} {f : List UInt8 → Option Int} (h : MapAt w m n f) (x : Ext w w') : MapAt w' m n f := h.same (x.block m h.lt)
theorem MapAt.only {S : Nat → Prop} {w w' : World} {m n : Nat} {f : List UInt8 → Option Int} (h : MapAt w m n f) (x : Only S w w') (hS : ¬ S m) : MapAt w' m n f := h.same (x.block m h.lt hS)
theorem mapAt_made (w : World) : MapAt (w.alloc (.map #[] 0)) w.heap.size 0 (fun _ => none) :=
  ⟨.map [], World.ownsMap_made w _ _ _, fun _ => ⟨rfl, rfl⟩⟩
theorem MapAt.look_ok {w : World} {m n : Nat} {f : List UInt8 → Option Int} (h : MapAt w m n f) (s : ByteArray) (hs : s.size ≤ maxLen) :
    (Instr.lookup 149 (.map (some m)) (.string s) true).run Tryz.prog w = .ok (.tuple #[.int .i64 ((f (byt s)).getD 0), .bool (f (byt s)).isSome]) w := by
  obtain ⟨D, ho, hf⟩ := h
  obtain ⟨v, ps, hr, hv⟩ := ho.look_ok lawS Tryz.underlying149 (zeroI w) (plainElem_int Tryz.underlying3 (by decide)) (WideMaps.keyOf_string_mk Tryz.underlying9 hs)
  obtain ⟨c, rfl, hc, _⟩ := plainElem_int_inv Tryz.underlying3 hv
  obtain ⟨h1, h2⟩ := hf (byt s)
  simp only [Prod.mk.injEq] at hc
  have h3 : DataW.lit (Lit.int .i64 ((f (byt s)).getD 0)) = DataW.lit (H := Unit) (Lit.int .i64 c) := h2.symm.trans hc.1
  simp only [DataW.lit.injEq, Lit.int.injEq, true_and] at h3
  rw [hr, h3]
  exact congrArg (fun b => Result.ok (Value.tuple #[Value.int IntKind.i64 c, Value.bool b]) w) h1
theorem MapAt.look {w : World} {m n : Nat} {f : List UInt8 → Option Int} (h : MapAt w m n f) (s : ByteArray) (hs : s.size ≤ maxLen) :
    (Instr.lookup 149 (.map (some m)) (.string s) false).run Tryz.prog w = .ok (.int .i64 ((f (byt s)).getD 0)) w := by
  obtain ⟨D, ho, hf⟩ := h
  obtain ⟨c, hr, hc, _⟩ := ho.lookup_int lawS Tryz.underlying149 Tryz.underlying3 (zeroI w) (WideMaps.keyOf_string_mk Tryz.underlying9 hs)
  have h3 : DataW.lit (Lit.int .i64 ((f (byt s)).getD 0)) = DataW.lit (H := Unit) (Lit.int .i64 c) := (hf (byt s)).2.symm.trans hc
  simp only [DataW.lit.injEq, Lit.int.injEq, true_and] at h3
  rw [hr, h3]
def upd (f : List UInt8 → Option Int) (k : List UInt8) (z : Int) : List UInt8 → Option Int := fun l => if l = k then some z else f l
theorem MapAt.store {w : World} {m n : Nat} {f : List UInt8 → Option Int} (h : MapAt w m n f) (s : ByteArray) (hs : s.size ≤ maxLen) (z : Int) (hz : (Lit.int .i64 z).wf = true) (hn : n < maxLen) :
    ∃ w', (Instr.mapUpdate 149 (.map (some m)) (.string s) (.int .i64 z)).run Tryz.prog w = .ok () w' ∧ MapAt w' m (n + 1) (upd f (byt s) z) ∧ Only (fun k => k = m) w w' := by
  obtain ⟨D, ho, hf⟩ := h
  obtain ⟨w', hr, ho', hg⟩ := ho.update lawS Tryz.underlying149 hn (WideMaps.keyOf_string_mk Tryz.underlying9 hs) (plainElem_int Tryz.underlying3 hz)
  refine ⟨w', hr, ⟨_, ho', fun l => ?_⟩, ⟨hg.os, hg.tape, hg.output, hg.size, fun k hk hn => hg.block k hk (fun e => hn (by cases e; rfl))⟩⟩
  have hm : IsMap D := ho.isMap
  by_cases e : l = byt s
  · subst e
    rw [upd, if_pos rfl]
    exact ⟨has_put_same hm (by exact trivial) _, atKey_put_same hm (by exact trivial) _ _⟩
  · have hne : Lit.string l ≠ Lit.string (byt s) := fun h => e (by cases h; rfl)
    rw [upd, if_neg e]
    obtain ⟨h1, h2⟩ := hf l
    exact ⟨(has_put_other hne _).trans h1, (atKey_put_other hne _ _).trans h2⟩

set_option maxRecDepth 100000 in
set_option maxHeartbeats 1000000 in
theorem find_any (w : World) (m n : Nat) (f : List UInt8 → Option Int) (s : ByteArray) (hm : MapAt w m n f) (hs : s.size ≤ 281474976710656) :
    Calls Tryz.prog 157 #[.map (some m), .string s] w fun e w' => e = .returned (.int .i64 ((f (lowL (byt s))).getD (-1))) ∧ Ext w w' := by
  have h1 := fun w => small_any w s hs
  have hl : (str (lowL (byt s))).size ≤ maxLen := by rw [← byt_length, byt_str]; simp [lowL, byt_length]; unfold maxLen; omega
  have hk := fun w1 (x : Ext w w1) => (hm.ext x).look_ok (str (lowL (byt s))) hl
  rw [byt_str] at hk
  cases hf : f (lowL (byt s)) with
  | none =>
    rw [hf] at hk
    clear hf
    generalize str (lowL (byt s)) = q at *
    go_enter Tryz.func157, Tryz.ntmps157
    go_wp2_with (go_at_call 158; refine (h1 _).mono ?_; rintro e w1 ⟨rfl, x1⟩; have hk1 := hk _ x1)
    go_ret
    exact ⟨rfl, x1⟩
  | some z =>
    rw [hf] at hk
    clear hf
    generalize str (lowL (byt s)) = q at *
    go_enter Tryz.func157, Tryz.ntmps157
    go_wp2_with (go_at_call 158; refine (h1 _).mono ?_; rintro e w1 ⟨rfl, x1⟩; have hk1 := hk _ x1)
    go_ret
    exact ⟨rfl, x1⟩
end Go.Proofs.YtbioickfookjeaaGreatDoor
