/-
  The contract of Open.
-/
import Derived.Test.YtmcodhdphdckkaaGreatDoorBwtext
namespace Go.Proofs.YtmcodhdphdckkaaGreatDoor
open Go.RowKit Go.Shelf

/-- the row of ints has grown, and is put back into the writer -/
theorem wr_put1 {w w' : World} {S : Nat → Prop} {g : Nat} {v1 v2 u : Value} {st : Wr} {l : List FNat} (h : WrV w S g v1 v2 st)
    (hu : RowI w' (Up (own v2) w.heap.size) u l.reverse) (ho : Only (own v2) w w') :
    w'.heap[g]? = some (.cells #[v1, v2] 86 (0, 0)) ∧ WrV (w'.setCell ⟨g, 1, none⟩ u) (Up S w.heap.size) g v1 u ⟨st.laid, l⟩ ∧ Only S w (w'.setCell ⟨g, 1, none⟩ u) := by
  obtain ⟨hSg, hg, hB, hI⟩ := h
  have hlt : g < w.heap.size := (Array.getElem?_eq_some_iff.1 hg).1
  have hg' : w'.heap[g]? = some (.cells #[v1, v2] 86 (0, 0)) := (ho.block g hlt (row_ne hI hg wr_ne_i)).trans hg
  have hS : ∀ k, own v2 k → S k := hI.2
  refine ⟨hg', ⟨.inl hSg, heap_setCell_at w' g 1 u _ _ _ hg', ?_, ?_⟩, (ho.mono fun k _ hk => hS k hk).setCell (.inl hSg) u⟩
  · have hB' : RowB w' (own v1) v1 st.laid := Row.kept (Row.min hB) ho (row_apart hB hI i_ne_b)
    exact (Row.other hB' (p := ⟨g, 1, none⟩) hg' wr_ne_b u).wide (fun k hk => .inl (hB.2 k hk))
  · exact (Row.other hu (p := ⟨g, 1, none⟩) hg' wr_ne_i u).wide (up_mono (Nat.le_refl _) hS)

def tagM (c n : Nat) : UInt8 := UInt8.ofNat (64 * c + 32 + n)
theorem tagM_toNat (c n : Nat) (hc : c ≤ 3) (hn : n < 31) : (tagM c n).toNat = 64 * c + 32 + n := by unfold tagM; simp; omega
set_option maxRecDepth 100000 in
theorem or32 (c n : Nat) (hc : c ≤ 3) (hn : n < 31) : bits .or .u8 ((tagB c n).toNat : Int) 32 = ((tagM c n).toNat : Int) := by
  have h : ∀ c : Fin 4, ∀ n : Fin 31, bits .or .u8 ((tagB c.val n.val).toNat : Int) 32 = ((tagM c.val n.val).toNat : Int) := by decide
  exact h ⟨c, by omega⟩ ⟨n, hn⟩

def openE (st : Wr) (c n : Int) : Nat :=
  if mayB c n = false then 2 else if 80 ≤ st.opn.length then 91 else if 67108864 < closedN (st.laid.length + 2) (nats st.opn) then 3 else 0
def openW (st : Wr) (c n : Int) (hl : st.laid.length ≤ 67108864) : Wr :=
  if openE st c n = 0 then ⟨st.laid ++ [tagM c.toNat n.toNat], ⟨st.laid.length + 1, by omega⟩ :: st.opn⟩ else st

set_option maxRecDepth 100000 in
set_option maxHeartbeats 8000000 in
theorem Open_any (w : World) (S : Nat → Prop) (p : Value) (st : Wr) (c n : Int) (h : WrAt w S p st) (h1 : st.laid.length ≤ 67108864) (h2 : st.opn.length ≤ 1000) :
    Calls Tryz.prog 26 #[p, .int .i8 c, .int .i64 n] w fun x w' => x = .returned (.int .i64 (openE st c n)) ∧ WrAt w' (Up S w.heap.size) p (openW st c n h1) ∧ Only S w w' := by
  have hcl := closed_any w S p st 2 h (by omega) h2
  have hE : Hid (openE st c n = if mayB c n = false then 2 else if 80 ≤ st.opn.length then 91 else if 67108864 < closedN (st.laid.length + 2) (nats st.opn) then 3 else 0) := rfl
  have hW : Hid (openW st c n h1 = if openE st c n = 0 then ⟨st.laid ++ [tagM c.toNat n.toNat], ⟨st.laid.length + 1, by omega⟩ :: st.opn⟩ else st) := rfl
  have hwr := h
  obtain ⟨g, v1, v2, rfl, hwv⟩ := h
  have hlo := lengthOctets_any 0 (by omega) w
  have h00 : lenOct 0 = 1 := rfl
  rw [h00] at hlo
  have hv2 : ∃ a cap, v2 = .slice a st.opn.length cap := by
    rcases hwv.2.2.2.1.2 with ⟨e, hl⟩ | ⟨g', cap, cur, e, _⟩
    · exact ⟨none, 0, by rw [e]; simp at hl; simp [hl]⟩
    · exact ⟨some ⟨g', 0, none⟩, cap, by rw [e]; simp⟩
  obtain ⟨a2, cap2, rfl⟩ := hv2
  obtain ⟨c0, c1, f0, f1⟩ := wr_cells hwv.2.1
  by_cases hm : mayB c n = true
  · have hm' := of_decide_eq_true hm
    obtain ⟨c, rfl⟩ := Int.eq_ofNat_of_zero_le hm'.1
    obtain ⟨n, rfl⟩ := Int.eq_ofNat_of_zero_le hm'.2.2.1
    have hcc : c ≤ 3 := by omega
    have hnn : n < 31 := by omega
    clear hm'
    rw [if_neg (by simp [hm])] at hE
    obtain ⟨N, hN⟩ : ∃ N, closedN (st.laid.length + 2) (nats st.opn) = N := ⟨_, rfl⟩
    rw [hN] at hcl hE
    obtain ⟨k, hk⟩ : ∃ k, st.opn.length = k := ⟨_, rfl⟩
    simp only [hk] at hE c1 h2 hwv
    clear hN
    by_cases h80 : 80 ≤ k
    · go_enter Tryz.func26, Tryz.ntmps26
      go_wp2_with (go_at_call 49; refine (mayTag_any _ _ _).mono ?_; rintro _ w1 ⟨rfl, rfl⟩; rw [hm])
      go_ret
      rw [hW.out, hE.out, if_pos h80]
      exact ⟨rfl, hwr.wide (fun _ h => .inl h), Only.refl _ _⟩
    · rw [if_neg h80] at hE
      by_cases hbig : 67108864 < N
      · go_enter Tryz.func26, Tryz.ntmps26
        go_wp2_with (first
          | (go_at_call 49; refine (mayTag_any _ _ _).mono ?_; rintro _ w1 ⟨rfl, rfl⟩; rw [hm])
          | (go_at_call 51; refine hlo.mono ?_; rintro _ w2 ⟨rfl, rfl⟩)
          | (go_at_call 50; refine hcl.mono ?_; rintro _ w3 ⟨rfl, hx3⟩))
        go_ret
        rw [hW.out, hE.out, if_pos hbig]
        exact ⟨rfl, (hwr.ext hx3).wide (fun _ h => .inl h), hx3.only⟩
      · rw [if_neg hbig] at hE
        rw [hE.out, if_pos rfl] at hW
        go_enter Tryz.func26, Tryz.ntmps26
        go_wp2_with (first
          | (go_at_call 49; refine (mayTag_any _ _ _).mono ?_; rintro _ w1 ⟨rfl, rfl⟩; rw [hm])
          | (go_at_call 51; refine hlo.mono ?_; rintro _ w2 ⟨rfl, rfl⟩)
          | (go_at_call 50; refine hcl.mono ?_; rintro _ w3 ⟨rfl, hx3⟩; have c03 := hx3.cell c0))
        have hwv3 := hwv.ext hx3
        have hmx : Tryz.prog.follows .mixedOrders = true := by kernel_rfl
        have hor := or32 c n hcc hnn
        have c03A : ∀ ob : Obj, (w3.alloc ob).cell? ⟨g, 0, none⟩ = some v1 := fun ob => ((Ext.refl w3).alloc ob).cell c03
        go_region_law_o ((first
          | (refine step_byte (by rfl) _ _ (by rfl) w3 (by first | exact ((Ext.refl w3).alloc _).drew | exact ((Ext.refl w3).drew).alloc _) (own v1) v1 st.laid (Row.min hwv3.2.2.1) (by rfl) w3.heap.size (by rfl) _ (by first | exact heap_alloc_new w3 _ | exact heap_alloc_new w3.drew _) (tagM c n) (by rfl) (by omega) ?_; intro a5 cap5 w5 hr5 ho5; obtain ⟨hg5, hw5, hon5⟩ := wr_put0 hwv3 hr5 ho5; obtain ⟨c05, _, f05, _⟩ := wr_cells hg5)
          | (go_simp; go_at_call 52; refine (tagOf_any c n hcc hnn _).mono ?_; rintro _ w4 ⟨rfl, rfl⟩; unfold B8; dsimp only)))
        all_goals
          generalize hw6 : w5.setCell ⟨g, 0, none⟩ (.slice a5 (st.laid.length + 1) cap5) = w6 at hw5 hon5 ⊢
          clear hw6 hr5 ho5 hg5 c05 f05
          obtain ⟨c06, d06, f06, e06⟩ := wr_cells hw5.2.1
          have c06A : ∀ ob : Obj, (w6.alloc ob).cell? ⟨g, 1, none⟩ = some (.slice a2 k cap2) := fun ob => ((Ext.refl w6).alloc ob).cell d06
          go_wp2_with fail
          go_region_law_o ((refine step_int (by rfl) _ _ (by rfl) w6 (by first | exact ((Ext.refl w6).alloc _).drew | exact ((Ext.refl w6).drew).alloc _) (own (.slice a2 k cap2)) (.slice a2 k cap2) st.opn.reverse (Row.min hw5.2.2.2) (by rfl) w6.heap.size (by rfl) _ (by first | exact heap_alloc_new w6 _ | exact heap_alloc_new w6.drew _) ⟨st.laid.length + 1, by omega⟩ (by first | rfl | simp) (by simp; omega) ?_; intro a7 cap7 w7 hr7 ho7; obtain ⟨hg7, hw7, hon7⟩ := wr_put1 (l := ⟨st.laid.length + 1, by omega⟩ :: st.opn) hw5 (by rw [List.reverse_cons]; exact hr7) ho7; obtain ⟨c07, d07, f07, e07⟩ := wr_cells hg7))
          all_goals
            go_wp2
            go_ret
            rw [hW.out, hE.out]
            simp only [List.length_reverse, hk] at hw7 hon7
            refine ⟨rfl, hw7.at.wide ?_, hx3.only.then (hon5.trans hon7)⟩
            rintro q ((hq | hq) | hq)
            · exact .inl hq
            · exact .inr (Nat.le_trans hx3.size hq)
            · exact .inr (Nat.le_trans hx3.size (Nat.le_trans hon5.size hq))
  · have hm1 : mayB c n = false := by simpa using hm
    go_enter Tryz.func26, Tryz.ntmps26
    go_wp2_with (go_at_call 49; refine (mayTag_any _ _ _).mono ?_; rintro _ w1 ⟨rfl, rfl⟩; rw [hm1])
    go_ret
    rw [hW.out, hE.out, if_pos hm1]
    exact ⟨rfl, hwr.wide (fun _ h => .inl h), Only.refl _ _⟩
end Go.Proofs.YtmcodhdphdckkaaGreatDoor
