/-
  wakes: a few lists.
-/
import Derived.Test.YtfcpnglemiiphaaIun2
import Derived.Test.YtfcpnglemiiphaaIunq
import Derived.Test.YtfcpnglemiiphaaIsearch
namespace Go.Proofs.Ytfcpnglemiiphaa
open Go.RowKit Go.Shelf

/-- a list of bytes as a text -/
def strB (l : List UInt8) : ByteArray := ⟨l.toArray⟩
theorem sl_conv {w : World} {v : Value} {l : List UInt8} (h : Sl B8 w v l) : (convert 41 9 v).run Try.prog w = .ok (.string (strB l)) w := by
  rcases h.cases with ⟨a, cap, rfl, rfl, _⟩ | ⟨g, o, cap, hpos, rfl, hcap, hmax, hc⟩
  · match a with
    | none => exact run_convert_bytes_nil w 41 5 Try.underlying41 Try.underlying5 0 cap 9 Try.underlying9
    | some a => exact run_convert_bytes_back w 41 9 5 a cap [] Try.underlying41 Try.underlying5 Try.underlying9 (fun j hj => by simp at hj)
  · exact run_convert_bytes_back w 41 9 5 ⟨g, o, none⟩ cap l Try.underlying41 Try.underlying5 Try.underlying9 (fun j hj => by rw [Addr.add_lit]; exact hc j hj)
/-- a slice that is written out -/
theorem sl_lit {α : Type} {enc : α → Value} (w : World) (cs : Array Value) (e : TypeId) (l : List α) (n : Nat) (hc : cs.toList = l.map enc) (hn : n = l.length) (hm : n ≤ maxLen) : Sl enc (w.alloc (.cells cs e)) (.slice (some ⟨w.heap.size, 0, none⟩) n n) l := by
  refine sl_of hn (Nat.le_refl _) hm fun j hj => ?_
  rw [Nat.zero_add, cell_of_row _ _ _ _ _ _ (heap_alloc_new w _)]
  have : cs.toList[j]? = some (enc l[j]) := by rw [hc]; simp [hj]
  simpa using this

theorem k1 : unionL [[1, 3], [2, 3]] = [1, 2, 3] := by decide
theorem k2 : unpackL [1, 5] = ([5], 0) := by decide
theorem k3 : packL (setL [5, 6, 300]) = [3, 5, 0, 165, 2] := by
  have e : setL [5, 6, 300] = [5, 6, 300] := by decide
  rw [e, packL]
  show numB 3 ++ ((([] ++ numB 5) ++ numB 0) ++ numB 293) = _
  rw [numB_lt (n := 3) (by omega), numB_lt (n := 5) (by omega), numB_lt (n := 0) (by omega), numB_ge (n := 293) (by omega), numB_lt (n := 293 / 128) (by omega)]
  decide
theorem k4 : rightB [1, 2, 3] = true ∧ decide ((2 : UInt64) ∈ [1, 2, 3]) = true ∧ findL [1, 2, 3] 0 3 = 2 := by decide

theorem Union_wk (w : World) (v : Value) (hs : SlS w v [[1, 3], [2, 3]]) : Calls Try.prog 12 #[v] w fun x w' => ∃ g cap, x = .returned (.slice (some ⟨g, 0, none⟩) 3 cap) ∧ 3 ≤ cap ∧ Sl U6 w' (.slice (some ⟨g, 0, none⟩) 3 cap) [1, 2, 3] ∧ Ext w w' := by
  refine (Union_any Rises set_right 2 w v [[1, 3], [2, 3]] (by simp) (by decide) (by decide) hs).mono ?_
  rintro _ w1 ⟨u, rfl, hu, x1⟩
  rw [k1] at hu
  rcases hu.1.2 with ⟨_, h0⟩ | ⟨g, cap, cur, rfl, _, _, hc, _⟩
  · simp at h0
  · exact ⟨g, cap, rfl, hc, hu.sl, x1⟩
theorem Unpack_wk (w : World) (v : Value) (hs : Sl B8 w v [1, 5]) : Calls Try.prog 31 #[v] w fun x w' => ∃ g cap, x = .returned (.tuple #[.slice (some ⟨g, 0, none⟩) 1 cap, .int .i64 0]) ∧ 1 ≤ cap ∧ w'.cell? ⟨g, 0, none⟩ = some (.int .u64 5) ∧ Ext w w' := by
  refine (Unpack_any w v [1, 5] hs (by decide)).mono ?_
  rintro _ w1 ⟨u, rfl, hu, x1⟩
  rw [k2] at hu ⊢
  rcases hu.1.2 with ⟨_, h0⟩ | ⟨g, cap, cur, rfl, _, _, hc, _⟩
  · simp at h0
  · refine ⟨g, cap, rfl, hc, ?_, x1⟩
    obtain ⟨g', o', e, hcell⟩ := hu.sl.at 0 (by decide)
    simp only [Option.some.injEq, Addr.mk.injEq, and_true] at e
    obtain ⟨rfl, rfl⟩ := e
    exact hcell
theorem Pack_wk (w : World) (v : Value) (hs : Sl U6 w v [5, 6, 300]) : Calls Try.prog 29 #[v] w fun x w' => ∃ a n cap, x = .returned (.slice a n cap) ∧ (convert 41 9 (.slice a n cap)).run Try.prog w' = .ok (.string ⟨#[3, 5, 0, 165, 2]⟩) w' ∧ Ext w w' := by
  refine (Pack_any Rises set_right w v [5, 6, 300] (by decide) (by decide) hs).mono ?_
  rintro _ w1 ⟨u, rfl, hu, x1⟩
  rw [k3] at hu
  have hc := sl_conv hu.sl
  obtain ⟨a, n, cap, rfl, _⟩ := hu.sl.shape
  exact ⟨a, n, cap, rfl, hc, x1⟩

set_option maxRecDepth 100000 in
set_option maxHeartbeats 4000000 in
theorem wakes_any (w : World) : Calls Try.prog 20 #[] w fun x w' => x = .returned (.bool true) ∧ Ext w w' := by
  go_enter Try.func20, Try.ntmps20
  go_wp2_with fail
  go_at_call 12
  refine (Union_wk _ _ ?hs).mono ?_
  case hs =>
    refine ⟨[.slice (some ⟨w.heap.size, 0, none⟩) 2 2, .slice (some ⟨w.heap.size + 1, 0, none⟩) 2 2], ?_, rfl, ?_⟩
    · have := sl_lit (enc := fun x : Value => x) ((w.alloc (.cells #[.int .u64 1, .int .u64 3] 33)).alloc (.cells #[.int .u64 2, .int .u64 3] 33)) #[.slice (some ⟨w.heap.size, 0, none⟩) 2 2, .slice (some ⟨w.heap.size + 1, 0, none⟩) 2 2] 22 [.slice (some ⟨w.heap.size, 0, none⟩) 2 2, .slice (some ⟨w.heap.size + 1, 0, none⟩) 2 2] 2 rfl rfl (by decide)
      simpa using this
    · intro i h1 h2
      match i, h1, h2 with
      | 0, _, _ =>
        exact ((sl_lit (enc := U6) w #[.int .u64 1, .int .u64 3] 33 [1, 3] 2 rfl rfl (by decide)).ext ((Ext.refl _).alloc _)).ext ((Ext.refl _).alloc _)
      | 1, _, _ =>
        have := (sl_lit (enc := U6) (w.alloc (.cells #[.int .u64 1, .int .u64 3] 33)) #[.int .u64 2, .int .u64 3] 33 [2, 3] 2 rfl rfl (by decide)).ext ((Ext.refl _).alloc (.cells #[.slice (some ⟨w.heap.size, 0, none⟩) 2 2, .slice (some ⟨w.heap.size + 1, 0, none⟩) 2 2] 22))
        simpa using this
  rintro _ w1 ⟨g1, cap1, rfl, hc1, s1, x1⟩
  go_wp2_with fail
  go_at_call 31
  refine (Unpack_wk _ _ (sl_lit (enc := B8) w1 _ _ _ 2 rfl rfl (by decide))).mono ?_
  rintro _ w2 ⟨g2, cap2, rfl, hc2, c2, x2⟩
  go_wp2_with fail
  go_at_call 29
  refine (Pack_wk _ _ (sl_lit (enc := U6) w2 _ _ _ 3 rfl rfl (by decide))).mono ?_
  rintro _ w3 ⟨a3, n3, cap3, rfl, cv3, x3⟩
  have x13 : Ext w1 w3 := (((Ext.refl w1).alloc _).trans x2 |>.alloc _).trans x3
  have x03 : Ext w w3 := ((((Ext.refl w).alloc _).alloc _).alloc _).trans (x1.trans x13)
  have s3 : Sl U6 w3 (.slice (some ⟨g1, 0, none⟩) 3 cap1) [1, 2, 3] := s1.ext x13
  have c1' : w3.cell? ⟨g1, 1, none⟩ = some (.int .u64 2) := by
    obtain ⟨g', o', e, hcell⟩ := s3.at 1 (by decide)
    simp only [Option.some.injEq, Addr.mk.injEq, and_true] at e
    obtain ⟨rfl, rfl⟩ := e
    exact hcell
  have c2' : w3.cell? ⟨g2, 0, none⟩ = some (.int .u64 5) := (((Ext.refl w2).alloc _).trans x3).cell c2
  have hR : Calls Try.prog 19 #[.slice (some ⟨g1, 0, none⟩) 3 cap1] w3 fun x w' => x = .returned (.bool true) ∧ Ext w3 w' := by
    have := Right_any w3 _ _ s3
    rwa [k4.1] at this
  have hH : ∀ w4, Ext w3 w4 → Calls Try.prog 32 #[.slice (some ⟨g1, 0, none⟩) 3 cap1, .int .u64 2] w4 fun x w' => x = .returned (.bool true) ∧ w' = w4 := fun w4 h => by
    have := Has_any w4 _ _ 2 (s3.ext h)
    rwa [k4.2.1] at this
  have hF : ∀ w4, Ext w3 w4 → Calls Try.prog 42 #[.slice (some ⟨g1, 0, none⟩) 3 cap1, .int .i64 0, .int .u64 3] w4 fun x w' => x = .returned (.int .i64 2) ∧ Ext w4 w' := fun w4 h => by
    have := Find_any w4 _ _ 0 3 (s3.ext h) (by decide)
    rwa [k4.2.2] at this
  clear s1 s3 c2 x1 x2 x3
  go_wp2_with (first
    | (go_at_call 19; refine hR.mono ?_; rintro _ w4 ⟨rfl, x4⟩)
    | (go_at_call 32; refine (hH _ x4).mono ?_; rintro _ w5 ⟨rfl, hw⟩; obtain rfl := hw.symm)
    | (go_at_call 42; refine (hF _ x4).mono ?_; rintro _ w6 ⟨rfl, x6⟩))
  go_ret
  exact ⟨rfl, x03.trans (x4.trans x6)⟩
end Go.Proofs.Ytfcpnglemiiphaa
