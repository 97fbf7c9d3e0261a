/-
  The contract of fresh: the answers that were kept are what they were, and each is its own.
-/
import Derived.Test.YtjannndndbohaaaRfam
import Derived.Test.YtjannndndbohaaaBlent
import Derived.Laws.IdiomStrings
import Derived.Laws.BytesArg
namespace Go.Proofs.Ytjannndndbohaaa
open Go.RowKit Go.Shelf

def upd {α : Type} (f : Nat → α) (i : Nat) (x : α) : Nat → α := fun j => if j = i then x else f j
theorem upd_at {α : Type} (f : Nat → α) (i : Nat) (x : α) : upd f i x i = x := if_pos rfl
theorem upd_ne {α : Type} (f : Nat → α) (i : Nat) (x : α) {j : Nat} (h : j ≠ i) : upd f i x j = f j := if_neg h
def rep (k b : Nat) : List UInt8 := List.replicate k (UInt8.ofNat b)

/-- rows of bytes, each its own -/
structure Rws (w : World) (n : Nat) (f : Nat → Value) (A : Nat → List UInt8) : Prop where
  row : ∀ j, j < n → RowB w (own (f j)) (f j) (A j)
  ap : ∀ j k, j < n → k < n → j ≠ k → ∀ g, own (f j) g → ¬ own (f k) g
theorem Rws.kept {w w' : World} {n : Nat} {f : Nat → Value} {A : Nat → List UInt8} {S : Nat → Prop} (h : Rws w n f A) (k : Only S w w') (hd : ∀ j, j < n → ∀ g, own (f j) g → ¬ S g) : Rws w' n f A :=
  ⟨fun j hj => Row.kept (h.row j hj) k (hd j hj), h.ap⟩
theorem Rws.ext {w w' : World} {n : Nat} {f : Nat → Value} {A : Nat → List UInt8} (h : Rws w n f A) (k : Ext w w') : Rws w' n f A := ⟨fun j hj => Row.ext (h.row j hj) k, h.ap⟩
theorem Rws.put {w : World} {n : Nat} {f : Nat → Value} {A : Nat → List UInt8} (h : Rws w n f A) {i : Nat} (hi : i < n) {g len cap : Nat} (hf : f i = .slice (some ⟨g, 0, none⟩) len cap) (k : Nat) (hk : k < (A i).length) (b : UInt8) (z : Int) (hz : z = b.toNat) :
    Rws (w.setCell ⟨g, k, none⟩ (.int .u8 z)) n f (upd A i ((A i).set k b)) := by
  refine ⟨fun j hj => ?_, h.ap⟩
  by_cases e : j = i
  · subst e
    rw [upd_at]
    have hr := h.row j hj
    rw [hf] at hr ⊢
    have hlen : len = (A j).length := by
      rcases hr.1.2 with ⟨e, _⟩ | ⟨_, _, _, e, _⟩
      · cases e
      · cases e; rfl
    subst hlen
    have h9 := Row.set1 hr k (.int .u8 z) (by simpa using hk)
    refine rowB_of h9 (by simp) ?_ (fun _ h => h)
    subst hz
    rw [List.map_set]; rfl
  · rw [upd_ne _ _ _ e]
    refine Row.kept (h.row j hj) (Only.setCell (S := fun q => q = g) (p := ⟨g, k, none⟩) (Only.refl _ w) (.inl rfl) _) (fun q hq e2 => ?_)
    exact h.ap j i hj hi e q hq (by rw [hf, e2]; rfl)
/-- several families, apart from one another -/
structure Fams (w : World) (n : Nat) (f : Nat → Value) (A : Nat → List UInt8) (cur : Nat → Value) (B : Nat → List UInt8) : Prop where
  fam : ∀ j, j < n → Fam2 w (f j) (A j) (cur j) (B j)
  ap : ∀ j k, j < n → k < n → j ≠ k → ∀ g, foot (f j) (cur j) g → ¬ foot (f k) (cur k) g
theorem Fams.start {w : World} {n : Nat} {f : Nat → Value} {A : Nat → List UInt8} (h : Rws w n f A) : Fams w n f A f (fun _ => []) :=
  ⟨fun j hj => Fam2.self (h.row j hj), fun j k hj hk e g h1 h2 => h.ap j k hj hk e g (h1.elim id id) (h2.elim id id)⟩
theorem Fams.ext {w w' : World} {n : Nat} {f cur : Nat → Value} {A B : Nat → List UInt8} (h : Fams w n f A cur B) (k : Ext w w') : Fams w' n f A cur B :=
  ⟨fun j hj => (h.fam j hj).kept (S := fun _ => False) k.only (fun _ _ hf => hf), h.ap⟩
theorem Fams.kept {w w' : World} {n : Nat} {f cur : Nat → Value} {A B : Nat → List UInt8} {S : Nat → Prop} (h : Fams w n f A cur B) (k : Only S w w') (hd : ∀ j, j < n → ∀ g, foot (f j) (cur j) g → ¬ S g) : Fams w' n f A cur B :=
  ⟨fun j hj => (h.fam j hj).kept k (hd j hj), h.ap⟩
theorem Fams.push {w : World} {n : Nat} {f cur : Nat → Value} {A B : Nat → List UInt8} (h : Fams w n f A cur B) {i : Nat} (hi : i < n) (b : UInt8) (H : Nat) (z : Int) (hz : z = b.toNat) (hH : w.heap[H]? = some (.cells #[.int .u8 z] 5 (0, 0))) (ty : TypeId) (hn : (A i).length + (B i).length + 1 ≤ 4000000000) :
    ∃ ad cap w', (Builtin.append_ #[22, 22] ty #[cur i, .slice (some ⟨H, 0, none⟩) 1 1]).run Try.prog w = .ok (.slice ad ((A i).length + (B i).length + 1) cap) w' ∧ Fams w' n f A (upd cur i (.slice ad ((A i).length + (B i).length + 1) cap)) (upd B i (B i ++ [b])) ∧ Only (own (cur i)) w w' ∧ (∀ g, own (.slice ad ((A i).length + (B i).length + 1) cap) g → own (cur i) g ∨ w.heap.size ≤ g) := by
  obtain ⟨v', w', hr, hf, ho, hnw, ad, cap, rfl⟩ := Fam2.push (h.fam i hi) b H z hz hH ty hn
  refine ⟨ad, cap, w', hr, ⟨fun j hj => ?_, fun j k hj hk e g h1 h2 => ?_⟩, ho, hnw⟩
  · by_cases e : j = i
    · subst e; rw [upd_at, upd_at]; exact hf
    · rw [upd_ne _ _ _ e, upd_ne _ _ _ e]
      exact (h.fam j hj).kept ho (fun g hg hg2 => h.ap j i hj hi e g hg (.inr hg2))
  · have key : ∀ j, j < n → ∀ g, foot (f j) (upd cur i (.slice ad ((A i).length + (B i).length + 1) cap) j) g → foot (f j) (cur j) g ∨ (j = i ∧ w.heap.size ≤ g) := fun j hj g hg => by
      by_cases e : j = i
      · subst e
        rw [upd_at] at hg
        rcases hg with hg | hg
        · exact .inl (.inl hg)
        · rcases hnw g hg with h3 | h3
          · exact .inl (.inr h3)
          · exact .inr ⟨rfl, h3⟩
      · rw [upd_ne _ _ _ e] at hg; exact .inl hg
    rcases key j hj g h1 with h3 | ⟨h3, h4⟩
    · rcases key k hk g h2 with h5 | ⟨h5, h6⟩
      · exact h.ap j k hj hk e g h3 h5
      · have := (h.fam j hj).lt h3; omega
    · rcases key k hk g h2 with h5 | ⟨h5, h6⟩
      · have := (h.fam k hk).lt h5; omega
      · omega

theorem sl_conv {w : World} {v : Value} {l : List UInt8} (h : Sl w v l) : (convert 22 9 v).run Try.prog w = .ok (.string (str l)) w := by
  rcases h.cases with ⟨a, cap, rfl, rfl, _⟩ | ⟨g, o, cap, _, rfl, _, _, hc⟩
  · cases a with
    | none => exact run_convert_bytes_nil w 22 5 Try.underlying22 Try.underlying5 0 cap 9 Try.underlying9
    | some a => exact run_convert_bytes_back w 22 9 5 a cap [] Try.underlying22 Try.underlying5 Try.underlying9 (fun j hj => by simp at hj)
  · exact run_convert_bytes_back w 22 9 5 ⟨g, o, none⟩ cap l Try.underlying22 Try.underlying5 Try.underlying9 (fun j hj => by rw [Addr.add_lit]; exact hc j hj)
end Go.Proofs.Ytjannndndbohaaa
