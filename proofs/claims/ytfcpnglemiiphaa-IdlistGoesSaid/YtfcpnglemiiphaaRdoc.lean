/-
  The document's Drop, Meet, Less; what they and Put answer, as sets.
-/
import Derived.Test.YtfcpnglemiiphaaRpick
import Derived.Test.YtfcpnglemiiphaaIalg
namespace Go.Proofs.Ytfcpnglemiiphaa
open Go.RowKit Go.Shelf

theorem rises_pickR {X : List UInt64} (h : Rises X) (Y : List UInt64) (b : Bool) : Rises (pickR X Y b) := List.Pairwise.sublist List.filter_sublist h
theorem pickR_meet {X Y : List UInt64} (hX : Rises X) (hY : Rises Y) : pickR X Y true = thoseL X Y 3 := by
  refine rises_ext _ _ (rises_pickR hX Y true) (rises_those hX hY 3) fun z => ?_
  rw [mem_meet hX hY]
  unfold pickR
  rw [List.mem_filter]
  simp
theorem pickR_less {X Y : List UInt64} (hX : Rises X) (hY : Rises Y) : pickR X Y false = thoseL X Y 1 := by
  refine rises_ext _ _ (rises_pickR hX Y false) (rises_those hX hY 1) fun z => ?_
  rw [mem_less hX hY]
  unfold pickR
  rw [List.mem_filter]
  simp
theorem pickR_drop {X : List UInt64} (hX : Rises X) (id : UInt64) : pickR X (setL [id]) false = dropL X id := by
  refine rises_ext _ _ (rises_pickR hX _ false) (rises_dropL hX id) fun z => ?_
  rw [mem_dropL hX]
  unfold pickR
  rw [List.mem_filter]
  simp [mem_setL]
theorem mrg_put {X : List UInt64} (hX : Rises X) (id : UInt64) : (mrg X [id]).map (·.1) = putL X id := by
  refine rises_ext _ _ (rises_mrg X [id] hX (by simp)) (rises_putL hX id) fun z => ?_
  rw [mem_mrg, mem_putL]
  simp
section
set_option maxRecDepth 100000
set_option maxHeartbeats 2000000
theorem rDrop_any (w : World) (v : Value) (l : List UInt64) (id : UInt64) (hl : l.length ≤ 17592186044416) (hs : Sl U6 w v l) :
    Calls Try.prog 24 #[v, .int .u64 id.toNat] w fun x w' => ∃ u, x = .returned u ∧ RowE 33 U6 w' (fun q => w.heap.size ≤ q) u (dropL (setL l) id) ∧ Ext w w' := by
  have h := rpick_any (w.alloc (.cells #[.int .u64 (id.toNat : Int)] 33)) v (.slice (some ⟨w.heap.size, 0, none⟩) 1 1) l [id] false (hs.ext ((Ext.refl w).alloc _)) (sl_lit (enc := U6) w #[.int .u64 (id.toNat : Int)] 33 [id] 1 rfl rfl (by decide)) hl (by simp)
  rw [pickR_drop (rises_setL l)] at h
  obtain ⟨a, n, cap, rfl, _⟩ := hs.shape
  clear hs
  go_enter Try.func24, Try.ntmps24
  go_wp2_with fail
  go_at_call 37
  refine h.mono ?_
  rintro _ w2 ⟨u2, rfl, r2, x2⟩
  go_wp2_with fail
  go_ret
  exact ⟨_, rfl, r2.to rfl rfl (fun q hq => Nat.le_trans (by simp) hq), ((Ext.refl w).alloc _).trans x2⟩
theorem rMeet_any (w : World) (va vb : Value) (A B : List UInt64) (hla : A.length ≤ 17592186044416) (hlb : B.length ≤ 17592186044416) (ha : Sl U6 w va A) (hb : Sl U6 w vb B) :
    Calls Try.prog 9 #[va, vb] w fun x w' => ∃ u, x = .returned u ∧ RowE 33 U6 w' (fun q => w.heap.size ≤ q) u (thoseL (setL A) (setL B) 3) ∧ Ext w w' := by
  have h := rpick_any w va vb A B true ha hb hla hlb
  rw [pickR_meet (rises_setL A) (rises_setL B)] at h
  obtain ⟨a0, n0, c0, rfl, _⟩ := ha.shape
  obtain ⟨b0, m0, d0, rfl, _⟩ := hb.shape
  clear ha hb
  go_enter Try.func9, Try.ntmps9
  go_wp2_with fail
  go_at_call 37
  refine h.mono ?_
  rintro _ w2 ⟨u2, rfl, r2, x2⟩
  go_wp2_with fail
  go_ret
  exact ⟨_, rfl, r2, x2⟩
theorem rLess_any (w : World) (va vb : Value) (A B : List UInt64) (hla : A.length ≤ 17592186044416) (hlb : B.length ≤ 17592186044416) (ha : Sl U6 w va A) (hb : Sl U6 w vb B) :
    Calls Try.prog 10 #[va, vb] w fun x w' => ∃ u, x = .returned u ∧ RowE 33 U6 w' (fun q => w.heap.size ≤ q) u (thoseL (setL A) (setL B) 1) ∧ Ext w w' := by
  have h := rpick_any w va vb A B false ha hb hla hlb
  rw [pickR_less (rises_setL A) (rises_setL B)] at h
  obtain ⟨a0, n0, c0, rfl, _⟩ := ha.shape
  obtain ⟨b0, m0, d0, rfl, _⟩ := hb.shape
  clear ha hb
  go_enter Try.func10, Try.ntmps10
  go_wp2_with fail
  go_at_call 37
  refine h.mono ?_
  rintro _ w2 ⟨u2, rfl, r2, x2⟩
  go_wp2_with fail
  go_ret
  exact ⟨_, rfl, r2, x2⟩
end

theorem row_after {wa w10 w11 : World} {S P : Nat → Prop} {v : Value} {l : List UInt64} (h : RowE 33 U6 wa S v l) (x : Ext wa w10) (k : Keep P w10 w11) (hP : ∀ g, S g → P g) : Sl U6 w11 v l := by
  refine (h.sl.ext x).kept k ?_
  rintro a n c rfl hpos
  rcases h.1.2 with ⟨e, _⟩ | ⟨g, cap, cur, e, _⟩
  · cases e
  · cases e
    exact hP g (h.2 g rfl)
theorem sl_after {wa w10 w11 : World} {P : Nat → Prop} {v : Value} {l : List UInt64} (h : Sl U6 wa v l) (x : Ext wa w10) (k : Keep P w10 w11) (hP : ∀ g, g < wa.heap.size → P g) : Sl U6 w11 v l :=
  (h.ext x).kept k (fun a n c e hpos => hP _ (in_below h a n c e hpos))
end Go.Proofs.Ytfcpnglemiiphaa
