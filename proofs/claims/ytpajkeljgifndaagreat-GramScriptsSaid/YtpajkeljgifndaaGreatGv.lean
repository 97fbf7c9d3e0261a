/-
  What a step does to an index, plainly; New, Count, the counts' own drop.
-/
import Derived.Test.YtpajkeljgifndaaGreatGn
import Derived.Test.YtpajkeljgifndaaGreatGu
namespace Go.Proofs.YtpajkeljgifndaaGreat
open Go.RowKit Go.Maps

def put1 (G : UInt32 → UInt64 → Nat) (id : UInt64) (g : UInt32) : UInt32 → UInt64 → Nat := fun g' i => if g' = g ∧ i = id then G g' i + 1 else G g' i
def drop1 (G : UInt32 → UInt64 → Nat) (id : UInt64) (g : UInt32) : UInt32 → UInt64 → Nat := fun g' i => if g' = g ∧ i = id then G g' i - 1 else G g' i
theorem put1_at (G : UInt32 → UInt64 → Nat) (id : UInt64) (g : UInt32) : put1 G id g g = upd6 (G g) id (G g id + 1) := by
  funext i
  unfold put1 upd6
  by_cases h : i = id
  · subst h; simp
  · simp [h]
theorem drop1_at (G : UInt32 → UInt64 → Nat) (id : UInt64) (g : UInt32) : drop1 G id g g = upd6 (G g) id (G g id - 1) := by
  funext i
  unfold drop1 upd6
  by_cases h : i = id
  · subst h; simp
  · simp [h]
theorem put1_off (G : UInt32 → UInt64 → Nat) (id : UInt64) (g g' : UInt32) (h : g' ≠ g) : put1 G id g g' = G g' := by
  funext i; unfold put1; simp [h]
theorem drop1_off (G : UInt32 → UInt64 → Nat) (id : UInt64) (g g' : UInt32) (h : g' ≠ g) : drop1 G id g g' = G g' := by
  funext i; unfold drop1; simp [h]
theorem CtAt.obj {w : World} {c n : Nat} {f : UInt64 → Nat} (h : CtAt w c n f) : ∃ es cl, w.heap[c]? = some (.map es cl) := by
  obtain ⟨D, ⟨es, cl, hb, _⟩, _⟩ := h
  exact ⟨es, cl, hb⟩
theorem OtAt.obj {w : World} {m n : Nat} {h : UInt32 → Option Nat} (H : OtAt w m n h) : ∃ es cl, w.heap[m]? = some (.map es cl) := by
  obtain ⟨D, ⟨es, cl, hb, _⟩, _⟩ := H
  exact ⟨es, cl, hb⟩
theorem box_map {w : World} {p c : Nat} {t : TypeId} {v : Value} {es : Array MapEntry} {cl : Nat} (h : Boxed w p t v) (k : w.heap[c]? = some (.map es cl)) : p ≠ c := by
  rintro rfl
  have h1 : w.heap[p]? = _ := h
  rw [h1] at k
  cases k
theorem IxH.mono {w : World} {p m n n' : Nat} {h : UInt32 → Option Nat} {G : UInt32 → UInt64 → Nat} (H : IxH w p m h n G) (hn : n ≤ n') : IxH w p m h n' G :=
  ⟨H.box, H.out.mono hn, fun g => (H.ins g).mono hn, H.inj, H.ne, fun g id => Nat.le_trans (H.le g id) hn⟩
theorem IxAt.mono {w : World} {S : Nat → Prop} {p n n' : Nat} {G : UInt32 → UInt64 → Nat} (H : IxAt w S p n G) (hn : n ≤ n') : IxAt w S p n' G := by
  obtain ⟨m, h, H, r⟩ := H
  exact ⟨m, h, H.mono hn, r⟩
theorem IxH.ctAt {w : World} {p m n : Nat} {h : UInt32 → Option Nat} {G : UInt32 → UInt64 → Nat} (H : IxH w p m h n G) {g : UInt32} {c : Nat} (hc : h g = some c) : CtAt w c n (G g) := by
  have h9 := H.ins g
  rw [hc] at h9
  exact h9
/-- the counts of one gram have turned -/
theorem IxH.turn {w w' : World} {p m n : Nat} {h : UInt32 → Option Nat} {G G' : UInt32 → UInt64 → Nat} (H : IxH w p m h n G) (g : UInt32) {c : Nat} (hc : h g = some c) (hw : CtAt w' c (n + 1) (G' g)) (x : Only (fun k => k = c) w w') (hoff : ∀ g', g' ≠ g → G' g' = G g') (hle : ∀ id, G' g id ≤ n + 1) : IxH w' p m h (n + 1) G' := by
  obtain ⟨es, cl, ho⟩ := (H.ctAt hc).obj
  have hpc := box_map H.box ho
  refine ⟨bOnly H.box x hpc, (H.out.only x (fun e => H.ne g (by rw [hc, e]))).mono (Nat.le_succ _), fun g' => ?_, H.inj, H.ne, fun g' id => ?_⟩
  · by_cases e : g' = g
    · subst e; rw [hc]; exact hw
    · rw [hoff g' e]
      exact ((H.ins g').only x (fun c' hc' e2 => e (H.inj g' g c (by rw [← e2]; exact hc') hc))).mono (Nat.le_succ _)
  · by_cases e : g' = g
    · subst e; exact hle id
    · rw [hoff g' e]; exact Nat.le_trans (H.le g' id) (Nat.le_succ _)
/-- a gram more -/
theorem IxH.new {w w' : World} {p m n : Nat} {h : UInt32 → Option Nat} {G : UInt32 → UInt64 → Nat} (H : IxH w p m h n G) (g : UInt32) (hg : h g = none) (ho : OtAt w' m (n + 1) (upd3 h g (some w.heap.size))) (x : Only (fun k => k = m) (w.alloc (.map #[] 0)) w') : IxH w' p m (upd3 h g (some w.heap.size)) (n + 1) G := by
  have xa : Ext w (w.alloc (.map #[] 0)) := (Ext.refl w).alloc _
  obtain ⟨es, cl, hm⟩ := H.out.obj
  have hml := H.out.lt
  refine ⟨bOnly (bExt H.box xa) x (box_map H.box hm), ho, fun g' => ?_, fun g1 g2 c h1 h2 => ?_, fun g' e => ?_, fun g' id => Nat.le_trans (H.le g' id) (Nat.le_succ _)⟩
  · by_cases e : g' = g
    · subst e
      have hz := H.ins g'
      rw [hg] at hz
      rw [upd3, if_pos rfl]
      have e0 : G g' = fun _ => 0 := funext hz
      rw [e0]
      exact ((ctAt_made w).only x (fun e => by have e' : w.heap.size = m := e; omega)).mono (Nat.zero_le _)
    · rw [upd3, if_neg e]
      refine (((H.ins g').ext xa).only x (fun c' hc' e2 => ?_)).mono (Nat.le_succ _)
      have e3 : c' = m := e2
      exact H.ne g' (by rw [← e3]; exact hc')
  · have hlt : ∀ g' c', h g' = some c' → c' ≠ w.heap.size := fun g' c' hc' e => by
      have := (H.ctAt hc').lt
      omega
    unfold upd3 at h1 h2
    by_cases e1 : g1 = g <;> by_cases e2 : g2 = g
    · rw [e1, e2]
    · rw [if_pos e1] at h1; rw [if_neg e2] at h2
      exact absurd (Option.some.inj h1).symm (hlt g2 c h2)
    · rw [if_neg e1] at h1; rw [if_pos e2] at h2
      exact absurd (Option.some.inj h2).symm (hlt g1 c h1)
    · rw [if_neg e1] at h1; rw [if_neg e2] at h2
      exact H.inj g1 g2 c h1 h2
  · unfold upd3 at e
    split at e
    · have := Option.some.inj e; omega
    · exact H.ne g' e
/-- a gram that nobody has is taken out -/
theorem IxH.gone {w w' : World} {p m n : Nat} {h : UInt32 → Option Nat} {G : UInt32 → UInt64 → Nat} (H : IxH w p m h n G) (g : UInt32) (hz : ∀ id, G g id = 0) (ho : OtAt w' m n (upd3 h g none)) (x : Only (fun k => k = m) w w') : IxH w' p m (upd3 h g none) n G := by
  obtain ⟨es, cl, hm⟩ := H.out.obj
  have hsub : ∀ g' c, upd3 h g none g' = some c → h g' = some c := fun g' c e => by
    unfold upd3 at e
    split at e
    · cases e
    · exact e
  refine ⟨bOnly H.box x (box_map H.box hm), ho, fun g' => ?_, fun g1 g2 c h1 h2 => H.inj g1 g2 c (hsub _ _ h1) (hsub _ _ h2), fun g' e => H.ne g' (hsub _ _ e), H.le⟩
  by_cases e : g' = g
  · subst e
    rw [upd3, if_pos rfl]
    exact hz
  · rw [upd3, if_neg e]
    refine (H.ins g').only x (fun c' hc' e2 => ?_)
    have e3 : c' = m := e2
    exact H.ne g' (by rw [← e3]; exact hc')
theorem map_isCells {w : World} {c : Nat} {es : Array MapEntry} {cl : Nat} (h : w.heap[c]? = some (.map es cl)) : ∀ g cs t fz, w.heap[g]? = some (.cells cs t fz) → ¬ (fun k => k = c) g := fun g cs t fz e hg => by
  have hg' : g = c := hg
  rw [hg', h] at e
  cases e
section
variable {α : Type} {enc : α → Value}
theorem Sl.only {S : Nat → Prop} {w w' : World} {v : Value} {l : List α} (h : Sl enc w v l) (k : Only S w w') (hS : ∀ g c t fz, w.heap[g]? = some (.cells c t fz) → ¬ S g) : Sl enc w' v l := by
  obtain ⟨a, cap, rfl, h1, h2, h3⟩ := h
  refine ⟨a, cap, rfl, h1, h2, fun j hj => ?_⟩
  obtain ⟨g, o, e, hc⟩ := h3 j hj
  refine ⟨g, o, e, k.cell hc ?_⟩
  cases hh : w.heap[g]? with
  | none => simp [World.cell?, hh] at hc
  | some ob =>
    cases ob with
    | cells c t fz => exact hS g c t fz hh
    | _ => simp [World.cell?, hh] at hc
end
set_option maxRecDepth 100000 in
set_option maxHeartbeats 2000000 in
theorem New_any (w : World) : Calls Tryz.prog 5 #[] w fun e w' => ∃ p, e = .returned (.pointer (some ⟨p, 0, none⟩)) ∧ IxAt w' (fun k => w.heap.size ≤ k) p 0 (fun _ _ => 0) ∧ Ext w w' := by
  have hmm := @run_makeMap Tryz.prog
  go_enter Tryz.func5, Tryz.ntmps5
  go_wp2
  go_ret
  have e1 : (w.alloc (.map #[] 0)).heap.size = w.heap.size + 1 := by simp
  refine ⟨_, rfl, ⟨w.heap.size, fun _ => none, ⟨?_, (otAt_made w).ext ((Ext.refl _).alloc _), fun _ _ => rfl, fun _ _ _ h => (by cases h), fun _ h => (by cases h), fun _ _ => Nat.le_refl _⟩, by simp, Nat.le_refl _, fun _ _ h => (by cases h)⟩, ((Ext.refl w).alloc _).alloc _⟩
  have h9 := Boxed.new (w.alloc (.map #[] 0)) 46 (.map (some w.heap.size))
  rw [e1] at h9
  exact h9
set_option maxRecDepth 100000 in
set_option maxHeartbeats 2000000 in
theorem Count_nil (w : World) (g : UInt32) : Calls Tryz.prog 9 #[.pointer none, .int .u32 (g.toNat : Int)] w fun e w' => e = .returned (.int .i64 0) ∧ w' = w := by
  go_enter Tryz.func9, Tryz.ntmps9
  go_wp2
  go_ret
  exact ⟨rfl, rfl⟩
set_option maxRecDepth 100000 in
set_option maxHeartbeats 2000000 in
theorem Count_any (w : World) (S : Nat → Prop) (p n : Nat) (G : UInt32 → UInt64 → Nat) (H : IxAt w S p n G) (g : UInt32) : Calls Tryz.prog 9 #[.pointer (some ⟨p, 0, none⟩), .int .u32 (g.toNat : Int)] w fun e w' => (∃ k : Nat, e = .returned (.int .i64 (k : Int)) ∧ Many (G g) k ∧ k ≤ n) ∧ Ext w w' := by
  obtain ⟨m, h, H, _⟩ := H
  have c1 := H.box.cell
  have l1 := H.out.look g
  obtain ⟨k, hk1, hk2, hk3⟩ := (H.ins g).len
  generalize h g = o at *
  go_enter Tryz.func9, Tryz.ntmps9
  go_wp2
  go_ret
  exact ⟨⟨k, rfl, hk2, hk1⟩, Ext.refl w⟩
end Go.Proofs.YtpajkeljgifndaaGreat
