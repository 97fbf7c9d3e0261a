/-
  Rows of items that are written full and grown: what grows leaves the slice that it grew from as it is.
-/
import Derived.Test.YtjannndndbohaaaBapp
import Derived.Test.YtjannndndbohaaaBside
namespace Go.Proofs.Ytjannndndbohaaa
open Go.RowKit

def CN (c : Int) : List Value := [.int .i8 0, .bool false, .int .i64 c, .int .i64 0, .int .i64 0]
def repN (c : Int) (n : Nat) : List Value := (List.replicate n (CN c)).flatten
theorem repN_succ (c : Int) (n : Nat) : repN c (n + 1) = repN c n ++ CN c := by simp [repN, List.replicate_succ']
theorem repN_length (c : Int) (n : Nat) : (repN c n).length = n * 5 := by simp [repN, CN]
theorem repN_get (c : Int) : ∀ (n i : Nat), i < n → (repN c n)[i * 5 + 2]? = some (.int .i64 c)
  | 0, _, h => by omega
  | n + 1, i, h => by
    rw [repN_succ]
    by_cases h1 : i < n
    · rw [List.getElem?_append_left (by rw [repN_length]; omega)]
      exact repN_get c n i h1
    · obtain rfl : i = n := by omega
      rw [List.getElem?_append_right (by rw [repN_length]; omega), repN_length]
      simp [CN]
/-- a row's five cells are written over -/
theorem Row.put5 {w : World} {S : Nat → Prop} {e : TypeId} {g n cap : Nat} {xs : List Value} (h : Row w S e 5 (.slice (some ⟨g, 0, none⟩) n cap) n xs) (o : Nat) (cs : List Value) (ho : o + cs.length ≤ n * 5) :
    Row (w.setCells g o cs) S e 5 (.slice (some ⟨g, 0, none⟩) n cap) n (xs.take o ++ cs ++ xs.drop (o + cs.length)) := by
  have hxl : xs.length = n * 5 := h.1.1
  rcases h.1.2 with ⟨e', _⟩ | ⟨g', cap', cur, e', hb, hg, h1, h2, h3, h4⟩
  · cases e'
  · cases e'
    have hh := heap_setCells_at g e (0, 0) cs o w cur.toList (by simpa using hg) (by simp; omega)
    refine ⟨⟨by simp; omega, .inr ⟨g, cap, _, rfl, hb, hh, h1, h2, by simp; omega, ?_⟩⟩, h.2⟩
    have hc : cur.toList = xs ++ cur.toList.drop (n * 5) := by rw [← h4, List.take_append_drop]
    generalize cur.toList.drop (n * 5) = R at hc
    have e1 : (xs ++ R).take o = xs.take o := List.take_append_of_le_length (by omega)
    have e2 : (xs ++ R).drop (o + cs.length) = xs.drop (o + cs.length) ++ R := List.drop_append_of_le_length (by omega)
    rw [hc, e1, e2, ← List.append_assoc]
    have e3 : (xs.take o ++ cs ++ xs.drop (o + cs.length)).length = n * 5 := by simp; omega
    rw [List.take_append_of_le_length (Nat.le_of_eq e3.symm), List.take_of_length_le (Nat.le_of_eq e3)]
/-- the one grew from the other, if they share a block -/
def Shares (a v : Value) : Prop := ∀ g, own a g → own v g → ∃ la n cap, a = .slice (some ⟨g, 0, none⟩) la cap ∧ v = .slice (some ⟨g, 0, none⟩) n cap ∧ la ≤ n
structure Fam (w : World) (c : Int) (a : Value) (la : Nat) (v : Value) (n : Nat) : Prop where
  ra : Row w (own a) 26 5 a la (repN c la)
  rv : Row w (own v) 26 5 v n (repN c n)
  sh : Shares a v
  le : la ≤ n
def foot (a v : Value) (g : Nat) : Prop := own a g ∨ own v g
theorem Fam.kept {w w' : World} {c : Int} {a v : Value} {la n : Nat} {S : Nat → Prop} (h : Fam w c a la v n) (k : Only S w w') (hd : ∀ g, foot a v g → ¬ S g) : Fam w' c a la v n :=
  ⟨h.ra.kept k (fun g hg => hd g (.inl hg)), h.rv.kept k (fun g hg => hd g (.inr hg)), h.sh, h.le⟩
theorem Fam.ext {w w' : World} {c : Int} {a v : Value} {la n : Nat} (h : Fam w c a la v n) (k : Ext w w') : Fam w' c a la v n := ⟨h.ra.ext k, h.rv.ext k, h.sh, h.le⟩
set_option maxHeartbeats 4000000 in
theorem Fam.push {w : World} {c : Int} {a v : Value} {la n : Nat} (h : Fam w c a la v n) (H : Nat) (hH : w.heap[H]? = some (.cells (CN c).toArray 26 (0, 0))) (ty : TypeId) (hn : n + 1 ≤ 4000000000) :
    ∃ v' w', (Builtin.append_ #[33, 33] ty #[v, .slice (some ⟨H, 0, none⟩) 1 1]).run Try.prog w = .ok v' w' ∧ Fam w' c a la v' (n + 1) ∧ Only (own v) w w' ∧ (∀ g, own v' g → own v g ∨ w.heap.size ≤ g) ∧ ∃ ad cap, v' = .slice ad (n + 1) cap := by
  obtain ⟨i, hi0, hz, hsz, hby⟩ := info_parts infoT
  obtain ⟨ra, rv, sh, le⟩ := h
  have hs : Src Try.prog 5 33 (.slice (some ⟨H, 0, none⟩) 1 1) 1 (CN c) w := Src.ofSlice w Try.underlying33 ⟨H, 0, none⟩ 1 1 (CN c) (by simp [CN]) (fun j u hu => by
    rw [Addr.add_lit, Nat.zero_add, cell_of_row w H j _ _ _ hH]; simpa using hu) (by simp [CN, Value.oneCell'])
  have h63 : ((n + 1 : Nat) : Int) ≤ 9223372036854775807 := by omega
  rw [← hsz] at hs
  have hxl : (repN c n).length = n * 5 := repN_length c n
  have grow : ∀ (base : Option Addr) (cap : Nat), v = .slice base n cap → cap < n + 1 → (Builtin.firstCells i.size n (.slice base n cap)).run Try.prog w.drew = .ok (repN c n).toArray w.drew →
      ∃ v' w', (Builtin.append_ #[33, 33] ty #[v, .slice (some ⟨H, 0, none⟩) 1 1]).run Try.prog w = .ok v' w' ∧ Fam w' c a la v' (n + 1) ∧ Only (own v) w w' ∧ (∀ g, own v' g → own v g ∨ w.heap.size ≤ g) ∧ ∃ ad cap, v' = .slice ad (n + 1) cap := by
    intro base cap hv hc hold
    subst hv
    have hr := run_append_grow_src (P := Try.prog) w 33 33 ty 26 i _ Try.underlying33 hi0 hz base n cap (repN c n) hold _ 1 (CN c) hs hc h63 (by rw [hby]; exact growslice_fits hc (by omega))
    have hge := grownCap_ge w (n + 1) cap 26
    have hex : Ext w (w.drew.alloc (.cells ((repN c n ++ CN c).toArray ++ Builtin.zeroCells (Value.agg #[.int .i8 0, .bool false, .int .i64 0, .int .i64 0, .int .i64 0]).cells (grownCap w (n + 1) cap 26 - (n + 1))) 26)) := (Ext.refl w).drew.alloc _
    refine ⟨_, _, hr, ⟨ra.ext hex, ?_, ?_, by omega⟩, hex.only, fun g hg => .inr ?_, ⟨_, _, rfl⟩⟩
    · refine ⟨⟨repN_length c (n + 1), .inr ⟨w.heap.size, _, _, rfl, Nat.zero_le _, heap_alloc_new w.drew _, hge, grownCap_le_maxLen w (n + 1) cap 26 (by unfold maxLen; omega), ?_, ?_⟩⟩, fun _ hk => hk⟩
      · simp [Builtin.zeroCells, repN_length, CN, Value.cells]; omega
      · rw [repN_succ]
        simp only [Array.toList_append]
        rw [List.take_append_of_le_length (by simp [repN_length, CN]; omega), List.take_of_length_le (by simp [repN_length, CN]; omega)]
    · intro g ha hv
      have h1 := ra.lt ha
      simp only [own, Value.ownBlock, Option.some.injEq] at hv
      omega
    · simp only [own, Value.ownBlock, Option.some.injEq] at hg
      omega
  rcases rv.1.2 with ⟨rfl, rfl⟩ | ⟨g, cap, cur, rfl, _, hg, hnc, hcm, hcs, htk⟩
  · exact grow none 0 rfl (by omega) (run_firstCells_none w.drew i.size 0 0 0)
  · have hcell : ∀ j u, (repN c n)[j]? = some u → w.cell? ((⟨g, 0, none⟩ : Addr).add j) = some u := World.ownsRow.cells rv.1 rfl
    by_cases hroom : n + 1 ≤ cap
    · have hr := run_append_room_src (P := Try.prog) w 33 33 ty 26 i Try.underlying33 hi0 g 0 n cap _ 1 (CN c) hs hroom
        (fun j hj => by rw [hsz, cell_of_row w g _ cur 26 (0, 0) hg, Array.getElem?_eq_getElem (by simp [CN] at hj; omega)]; rfl)
        (fun j hj => by simp [World.frozen?, hg])
      rw [hsz] at hr
      have hh := heap_setCells_at g 26 (0, 0) (CN c) (0 + n * 5) w cur.toList (by simpa using hg) (by simp [CN]; omega)
      have hon := Only.setCells (S := own (.slice (some ⟨g, 0, none⟩) n cap)) w g (0 + n * 5) (CN c) rfl
      refine ⟨_, _, hr, ⟨?_, ?_, ?_, by omega⟩, hon, fun k hk => .inl hk, ⟨_, _, rfl⟩⟩
      · by_cases ho : own a g
        · obtain ⟨la', n', cap', rfl, e2, hl⟩ := sh g ho rfl
          cases e2
          obtain rfl : la = la' := by
            rcases ra.1.2 with ⟨e, _⟩ | ⟨_, _, _, e, _⟩ <;> cases e; rfl
          refine ⟨⟨ra.1.1, .inr ⟨g, cap, _, rfl, Nat.zero_le _, hh, by omega, hcm, by simp [CN]; omega, ?_⟩⟩, fun _ hk => hk⟩
          rcases ra.1.2 with ⟨e, _⟩ | ⟨_, _, cur', e, _, hg', _, _, _, ht'⟩
          · cases e
          · cases e
            rw [hg] at hg'
            cases hg'
            rw [List.append_assoc, List.take_append_of_le_length (by simp; omega), List.take_take, Nat.min_eq_left (by omega)]
            exact ht'
        · exact ra.kept hon (fun k hk e => by
            simp only [own, Value.ownBlock, Option.some.injEq] at e
            exact ho (e ▸ hk))
      · refine ⟨⟨repN_length c (n + 1), .inr ⟨g, cap, _, rfl, Nat.zero_le _, hh, by omega, hcm, by simp [CN]; omega, ?_⟩⟩, fun _ hk => hk⟩
        rw [repN_succ, Nat.zero_add, htk]
        rw [List.take_append_of_le_length (by simp [repN_length, CN]; omega), List.take_of_length_le (by simp [repN_length, CN]; omega)]
      · intro k ha hv
        simp only [own, Value.ownBlock, Option.some.injEq] at hv
        subst hv
        obtain ⟨la', n', cap', e1, e2, hl⟩ := sh g ha rfl
        cases e2
        exact ⟨la', n + 1, cap, e1, rfl, by omega⟩
    · refine grow (some ⟨g, 0, none⟩) cap rfl (by omega) ?_
      rw [hsz]
      exact run_firstCells_some w.drew 5 n ⟨g, 0, none⟩ n cap (repN c n) hxl hcell
end Go.Proofs.Ytjannndndbohaaa
