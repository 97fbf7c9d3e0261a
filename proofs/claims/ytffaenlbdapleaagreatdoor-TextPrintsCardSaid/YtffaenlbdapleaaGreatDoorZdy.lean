/-
  The document's own small and Small (rosterref03).
-/
import Derived.Test.YtffaenlbdapleaaGreatDoorZdx
import Derived.Test.YtffaenlbdapleaaGreatDoorQH
import Derived.Test.YtffaenlbdapleaaGreatDoorQE
namespace Go.Proofs.YtffaenlbdapleaaGreatDoor
open Go.RowKit Go.Shelf

theorem slB_conv {w w' : World} {v : Value} {l : List UInt8} (h : Sl B8 w v l) (k : Ext w w') : (convert 62 9 v).run Tryz.prog w' = .ok (.string (str l)) w' := by
  rcases (h.ext k).cases with ⟨a, cap, rfl, rfl, _⟩ | ⟨g, o, cap, hpos, rfl, hcap, hmax, hc⟩
  · match a with
    | none => exact run_convert_bytes_nil w' 62 5 Tryz.underlying62 Tryz.underlying5 0 cap 9 Tryz.underlying9
    | some ad => exact run_convert_bytes_back w' 62 9 5 ad cap [] Tryz.underlying62 Tryz.underlying5 Tryz.underlying9 (fun j hj => by simp at hj)
  · exact run_convert_bytes_back w' 62 9 5 ⟨g, o, none⟩ cap l Tryz.underlying62 Tryz.underlying5 Tryz.underlying9
      (fun j hj => by rw [Addr.add_lit]; exact hc j hj)


def lowK (b : UInt8) : UInt8 := if 65 ≤ b.toNat ∧ b.toNat ≤ 90 then UInt8.ofNat (b.toNat + 32) else b
theorem lowK_val (b : UInt8) : (lowK b).toNat = if 65 ≤ b.toNat ∧ b.toNat ≤ 90 then b.toNat + 32 else b.toNat := all256R (p := fun b => (lowK b).toNat = if 65 ≤ b.toNat ∧ b.toNat ≤ 90 then b.toNat + 32 else b.toNat) (by decide +kernel) b
theorem lowK_d (b : UInt8) : (lowK b == 100) = (b == 100 || b == 68) := all256R (p := fun b => (lowK b == 100) = (b == 100 || b == 68)) (by decide +kernel) b
theorem lowK_n (b : UInt8) : (lowK b == 110) = (b == 110 || b == 78) := all256R (p := fun b => (lowK b == 110) = (b == 110 || b == 78)) (by decide +kernel) b
theorem dn_low (l : List UInt8) : (l.map lowK == [100, 110]) = dnB l := by
  unfold dnB
  match l with
  | [] => rfl
  | [a] => simp
  | [a, b] =>
    have h1 := lowK_d a
    have h2 := lowK_n b
    simp only [List.map_cons, List.map_nil, List.cons_beq_cons, h1, h2, BEq.rfl, Bool.and_true]
    cases (a == 100) <;> cases (a == 68) <;> cases (b == 110) <;> cases (b == 78) <;> rfl
  | a :: b :: c :: t => simp

set_option maxHeartbeats 1000000 in
theorem small_r (b : UInt8) (w : World) :
    Calls Tryz.prog 121 #[.int .u8 b.toNat] w fun e w' => e = .returned (.int .u8 (lowK b).toNat) ∧ w' = w := by
  have hb := b.toNat_lt
  have hl := lowK_val b
  rcases (show b.toNat < 65 ∨ (65 ≤ b.toNat ∧ b.toNat ≤ 90) ∨ 91 ≤ b.toNat by omega) with h | ⟨h1, h2⟩ | h
  · rw [if_neg (by omega)] at hl
    have hv : Hid (((lowK b).toNat : Int) = b.toNat) := by show _ = _; omega
    clear hl
    go_enter Tryz.func121, Tryz.ntmps121
    go_wp2
    go_ret
    exact ⟨ret_i hv.out.symm, rfl⟩
  · rw [if_pos (by omega)] at hl
    have hv : Hid (((lowK b).toNat : Int) = b.toNat + 32) := by show _ = _; omega
    clear hl
    go_enter Tryz.func121, Tryz.ntmps121
    go_wp2
    go_ret
    exact ⟨ret_i (by rw [hv.out]; omega), rfl⟩
  · rw [if_neg (by omega)] at hl
    have hv : Hid (((lowK b).toNat : Int) = b.toNat) := by show _ = _; omega
    clear hl
    go_enter Tryz.func121, Tryz.ntmps121
    go_wp2
    go_ret
    exact ⟨ret_i hv.out.symm, rfl⟩

/-- the row that is being filled -/
structure SmS (w wr : World) (s : ByteArray) (k : Nat) : Prop where
  all : ∀ j, j < s.size → ∃ u, wr.cell? ⟨w.heap.size, j, none⟩ = some u
  done : ∀ j (_ : j < s.size), j < k → wr.cell? ⟨w.heap.size, j, none⟩ = some (B8 (lowK s[j]))
  fz : ∀ j, wr.frozen? ⟨w.heap.size, j, none⟩ = false
  x : Ext w wr

set_option maxRecDepth 100000 in
set_option maxHeartbeats 2000000 in
theorem Small_r (w : World) (s : ByteArray) (hs : s.size ≤ 65536) :
    Calls Tryz.prog 99 #[.string s] w fun e w' => e = .returned (.string (str ((byt s).map lowK))) ∧ Ext w w' := by
  obtain ⟨i0, hi0, hz0, hz1, hz2⟩ := info_parts info8
  have hbl := byt_length s
  go_enter Tryz.func99, Tryz.ntmps99
  go_wp2_with (first
    | (at_make; refine wpList_make_full _ rfl _ _ 62 rfl w.heap.size 5 i0 (.int .u8 0) 1 Tryz.underlying62 hi0 hz0 hz1 .i64 .i64 _ _ s.size rfl rfl (by omega) (by omega) (by rw [hz2]; omega) (by unfold maxLen; omega) (Nat.le_refl _) ?_))
  intro w1 hown0 hgrow0
  have s0 : SmS w w1 s 0 := by
    have hc := World.ownsRow.cells hown0 (g := w.heap.size) rfl
    refine ⟨fun j hj => ?_, fun j _ hj => by omega, fun j => World.ownsRow.frozenAt hown0 j, (Below.refl _ _).grown hgrow0 (Nat.le_refl _) (fun k hk => by cases hk)⟩
    have := hc j (.int .u8 0) (by rw [toList_madeCells_one]; simp [hj])
    rw [Addr.add_lit, Nat.zero_add] at this
    exact ⟨_, this⟩
  clear hown0 hgrow0
  go_wp2
  go_loopw [4] (fun i wr => ∃ k : Nat, k ≤ s.size ∧ i = .int .i64 k ∧ SmS w wr s k) (fun i _ => s.size - (intOf i).toNat)
  case atStart => exact ⟨0, Nat.zero_le _, rfl, s0⟩
  case round =>
    obtain ⟨k, hk, rfl, hS⟩ := hrel
    clear s0
    by_cases hlt : k < s.size
    · have hb := s[k].toNat_lt
      have hfz := hS.fz k
      obtain ⟨cv, hcl⟩ := hS.all k hlt
      have hN : Hid (SmS w (wr.setCell ⟨w.heap.size, k, none⟩ (.int .u8 (lowK s[k]).toNat)) s (k + 1)) := by
        refine ⟨fun j hj => ?_, fun j hj hjk => ?_, fun j => by rw [World.frozen?_setCell]; exact hS.fz j, hS.x.setNew (Nat.le_refl _) _⟩
        · obtain ⟨u, hu⟩ := hS.all j hj
          exact cell?_setCell_some hu
        · by_cases e : j = k
          · subst e
            exact World.cell?_setCell_same _ _ _ hcl
          · exact (World.cell?_setCell_other _ _ _ _ (by intro h; injection h with _ h2; exact e h2.symm)).trans (hS.done j hj (by omega))
      clear hS
      go_wp2_with (go_at_call 121; refine (small_r _ _).mono ?_; rintro e w2 ⟨rfl, rfl⟩)
      go_roundw
      case rel => exact ⟨k + 1, by omega, by go_num, hN.out⟩
      case measure => simp [intOf]; omega
    · have hsl : Sl B8 wr (.slice (some ⟨w.heap.size, 0, none⟩) s.size s.size) ((byt s).map lowK) := by
        refine sl_of (by simp [hbl]) (Nat.le_refl _) (by unfold maxLen; omega) fun j hj => ?_
        simp only [List.length_map, hbl] at hj
        rw [Nat.zero_add, hS.done j hj (by omega), List.getElem_map, byt_at s j hj]
      have hcv := slB_conv hsl (Ext.refl wr)
      have hx := hS.x
      clear hsl hS
      go_wp2
      go_ret
      exact ⟨rfl, hx⟩
end Go.Proofs.YtffaenlbdapleaaGreatDoor
