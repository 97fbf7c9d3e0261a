/-
  Find: the numbers that have all of some grams.
-/
import Derived.Test.YtpajkeljgifndaaGreatGf
import Derived.Test.YtpajkeljgifndaaGreatIun
import Derived.Maps.RangeWalk
namespace Go.Proofs.YtpajkeljgifndaaGreat
open Go.RowKit Go.Maps Go.Shelf Go.Lib

theorem elemM : Tryz.prog.underlying 65 = some (.slice (Tryz.prog.elem 65)) := by kernel_rfl
theorem sizeM (w : World) : (Go.sizeOf (Tryz.prog.elem 65)).run Tryz.prog w = .ok 1 w := by
  have e : Tryz.prog.elem 65 = 57 := by kernel_rfl
  obtain ⟨i, hi, h0, h1, h2⟩ := info_parts infoM
  rw [e]
  simp [Go.sizeOf, typeInfo, hi, h1]
theorem sl_dropG {α : Type} {enc : α → Value} {w : World} {a : Option Addr} {n cap : Nat} {l : List α} (h : Sl enc w (.slice a n cap) l) (k : Nat) (hk : k ≤ l.length) : Sl enc w (.slice (if cap = k then a else a.map (fun x => x.add k)) (n - k) (cap - k)) (l.drop k) := by
  have hl := h.len
  have h1 := h.cut k n cap (by omega) (by omega) hl.2.1 (Nat.le_refl _)
  rw [List.take_of_length_le (by omega)] at h1
  simpa [sliced] using h1
theorem slice_lowM (a : Option Addr) (n cap : Nat) (hs : 1 ≤ n) (X : Option Addr) (hX : (if cap = 1 then a else a.map (fun x => x.add 1)) = X) (w : World) : (Instr.slice 65 (.slice a n cap) (some (.int .i64 1)) none none).run Tryz.prog w = .ok (.slice X (n - 1) (cap - 1)) w := by
  rw [run_slice_l (t := 65) (a := a) (len := n) (cap := cap) (ht := elemM) (kl := .i64) (l := 1) (h0 := by omega) (h1 := by omega), sizeM]
  simp only [Result.andThen, sliced, show (1 : Int).toNat = 1 from rfl, Nat.mul_one]
  rw [← hX]
theorem of_wf6 {x : Int} (h : (Lit.int .u64 x).wf = true) : ∃ id : UInt64, x = (id.toNat : Int) := by
  have hb : 0 ≤ x ∧ x ≤ 18446744073709551615 := by simpa [Lit.wf, IntKind.min, IntKind.max, IntKind.signed, IntKind.bits] using h
  exact ⟨UInt64.ofNat x.toNat, by rw [UInt64.toNat_ofNat']; omega⟩
theorem ranges_only {S : Nat → Prop} {w w' : World} {k : TypeId} {R : Value → Option (DataW Unit × List MemPlace)} {b r n : Nat} {D : DataW Unit} {left : Lit → Bool} {cnt : Nat} (h : w.ranges Tryz.prog k R b r n D left cnt) (x : Only S w w') (hb : ¬ S b) (hr : ¬ S r) : w'.ranges Tryz.prog k R b r n D left cnt := by
  have h1 := h.owns.lt
  have h2 := h.lt
  obtain ⟨es, clock, since, seen, c0, hb', F, hs, hD, hr', rest⟩ := h
  exact ⟨es, clock, since, seen, c0, (x.block b h1 hb).trans hb', F, hs, hD, (x.block r h2 hr).trans hr', rest⟩
theorem ranges_obj {w : World} {k : TypeId} {R : Value → Option (DataW Unit × List MemPlace)} {b r n : Nat} {D : DataW Unit} {left : Lit → Bool} {cnt : Nat} (h : w.ranges Tryz.prog k R b r n D left cnt) : (∀ c t fz, w.heap[b]? ≠ some (.cells c t fz)) ∧ (∀ c t fz, w.heap[r]? ≠ some (.cells c t fz)) := by
  obtain ⟨es, clock, since, seen, c0, hb', F, hs, hD, hr', rest⟩ := h
  exact ⟨fun c t fz e => (by rw [hb'] at e; cases e), fun c t fz e => (by rw [hr'] at e; cases e)⟩
theorem own_cells {w : World} {S : Nat → Prop} {e : TypeId} {sz n : Nat} {v : Value} {xs : List Value} (h : Row w S e sz v n xs) (k : Nat) (hk : own v k) : ∃ c, w.heap[k]? = some (.cells c e (0, 0)) := by
  rcases h.1.2 with ⟨rfl, _⟩ | ⟨g, cap, cur, rfl, _, hg, _⟩
  · simp [own, Value.ownBlock] at hk
  · simp only [own, Value.ownBlock, Option.some.injEq] at hk
    subst hk
    exact ⟨_, hg⟩
/-- a block that is no row's is written -/
theorem Row.beside {w w' : World} {S : Nat → Prop} {e : TypeId} {sz n r : Nat} {v : Value} {xs : List Value} (h : Row w S e sz v n xs) (hr : ∀ c t fz, w.heap[r]? ≠ some (.cells c t fz)) (x : Only (fun k => k = r) w w') : Row w' S e sz v n xs :=
  ⟨(h.min.kept x (fun g hg e9 => by
    have e8 : g = r := e9
    obtain ⟨c, hc⟩ := own_cells h g hg
    rw [e8] at hc
    exact hr _ _ _ hc)).1, h.2⟩
theorem grown_only {w w' : World} {r : Nat} (h : w.grownBy w' (some r)) : Only (fun k => k = r) w w' := ⟨h.os, h.tape, h.output, h.size, fun k hk hn => h.block k hk (fun e => hn (by cases e; rfl))⟩
theorem grown_ext {w w' : World} (h : w.grownBy w' none) : Ext w w' := ⟨h.os, h.tape, h.output, h.size, fun k hk => h.block k hk (by simp)⟩
theorem push6 {W : World} {B : Nat} {l : List UInt64} {u : Value} (hr : RowE 30 U6 W (fun k => B ≤ k) u l) (hB : B ≤ W.heap.size) (ty : TypeId) (id : UInt64) (hl : l.length ≤ 17592186044415) :
    ∃ a n c W', (Builtin.append_ #[50, 50] ty #[u, .slice (some ⟨W.heap.size, 0, none⟩) 1 1]).run Tryz.prog (W.alloc (.cells #[.int .u64 (id.toNat : Int)] 30)) = .ok (.slice a n c) W' ∧ Hid (RowE 30 U6 W' (fun k => B ≤ k) (.slice a n c) (l ++ [id]) ∧ Only (own u) W W') := by
  have h2m : RowE 30 U6 (W.alloc (.cells #[.int .u64 (id.toNat : Int)] 30)) (own u) u l := Row.alloc (Row.min hr) _
  obtain ⟨w', a, cap, hr9, r', o'⟩ := run_append6 _ _ ty u l h2m _ 1 [id] (srcB Tryz.underlying50 one6 _ W.heap.size _ [id] 1 1 (heap_alloc_new W _) rfl rfl) rfl (by simp; omega)
  refine ⟨a, _, cap, w', hr9, r'.to rfl rfl ?_, ((Only.refl _ W).alloc _).then o'⟩
  rintro k (hk | hk)
  · exact hr.2 k hk
  · simp at hk; omega
/-- Union of one list that lies in a row -/
theorem union1 (w : World) (S : Nat → Prop) (u : Value) (l : List UInt64) (hr : RowE 30 U6 w S u l) (hl : l.length ≤ 1099511627776) (H : Nat) (hH : w.heap.size = H) :
    Calls Tryz.prog 31 #[.slice (some ⟨H, 0, none⟩) 1 1] (w.alloc (.cells #[u] 50)) fun e w' => ∃ a n c, e = .returned (.slice a n c) ∧ Hid (RowE 30 U6 w' (fun k => w.heap.size ≤ k) (.slice a n c) (setL l) ∧ Ext w w') := by
  subst hH
  have xa : Ext w (w.alloc (.cells #[u] 50)) := (Ext.refl w).alloc _
  have hs : SlS (w.alloc (.cells #[u] 50)) (.slice (some ⟨w.heap.size, 0, none⟩) 1 1) [l] := by
    refine ⟨[u], sl_of rfl (Nat.le_refl _) (by decide) fun j hj => ?_, rfl, fun i hi hi' => ?_⟩
    · obtain rfl : j = 0 := by simp at hj; omega
      exact (Boxed.new w 50 u).cell
    · obtain rfl : i = 0 := by simp at hi; omega
      exact hr.sl.ext xa
  refine (Union_single Len9 set_any _ _ l (by unfold Len9; omega) hl hs).mono ?_
  rintro _ w' ⟨u', rfl, r', x'⟩
  rw [union_one] at r'
  obtain ⟨a, n, c, rfl, _⟩ := r'.sl.shape
  exact ⟨a, n, c, rfl, r'.to rfl rfl (fun k hk => by simp at hk; omega), xa.trans x'⟩
section
set_option maxRecDepth 100000
set_option maxHeartbeats 4000000
theorem Find_nil (w : World) (a : Option Addr) (n c : Nat) : Calls Tryz.prog 18 #[.pointer none, .slice a n c] w fun e w' => e = .returned (.tuple #[.slice none 0 0, .int .i64 1]) ∧ w' = w := by
  go_enter Tryz.func18, Tryz.ntmps18
  go_wp2
  go_ret2
  exact ⟨rfl, rfl⟩
theorem Find_none (w : World) (p : Nat) (a : Option Addr) (c : Nat) : Calls Tryz.prog 18 #[.pointer (some ⟨p, 0, none⟩), .slice a 0 c] w fun e w' => e = .returned (.tuple #[.slice none 0 0, .int .i64 130]) ∧ w' = w := by
  go_enter Tryz.func18, Tryz.ntmps18
  go_wp2
  go_ret2
  exact ⟨rfl, rfl⟩
theorem allB_split (G : UInt32 → UInt64 → Nat) (ds : List UInt32) (hd : 0 < ds.length) (id : UInt64) : allB G ds id = (decide (0 < G ds[0] id) && allB G (ds.drop 1) id) := by
  match ds, hd with
  | d :: t, _ => rfl
theorem allB_perm (G : UInt32 → UInt64 → Nat) {ds gl : List UInt32} (h : ds.Perm (G3.setL gl)) (id : UInt64) : allB G ds id = true ↔ ∀ g ∈ gl, 0 < G g id := by
  unfold allB
  rw [List.all_eq_true]
  constructor
  · intro h1 g hg
    exact of_decide_eq_true (h1 g (h.mem_iff.2 ((G3.mem_setL g gl).2 hg)))
  · intro h1 g hg
    exact decide_eq_true (h1 g ((G3.mem_setL g gl).1 (h.mem_iff.1 hg)))
/-- what stands in Find's loop -/
def FdS (w wr : World) (B c r n : Nat) (h : UInt32 → Option Nat) (G : UInt32 → UInt64 → Nat) (D : DataW Unit) (ds : List UInt32) (asked q : Value) (left : Lit → Bool) (cnt : Nat) (found : List UInt64) : Prop :=
  RowE 30 U6 wr (fun k => B ≤ k) q found ∧ (∀ id : UInt64, id ∈ found ↔ allB G ds id = true ∧ left (.int .u64 (id.toNat : Int)) = false) ∧ found.length + cnt ≤ n ∧ Ext w wr ∧ RowE 57 (encM h) wr (fun k => B ≤ k) asked ds ∧ wr.ranges Tryz.prog 30 (plainElem Tryz.prog 3) c r n D left cnt
end
end Go.Proofs.YtpajkeljgifndaaGreat
