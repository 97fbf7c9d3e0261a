/-
  The code of a row of letters.
-/
import Derived.Test.YtimjmecogbkgfabGreatDoorTwo
import Derived.Test.YtimjmecogbkgfabGreatDoorNumToNumO
namespace Go.Proofs.YtimjmecogbkgfabGreatDoor
open Go.RowKit

def isSml (b : UInt8) : Bool := decide (97 ≤ b.toNat) && decide (b.toNat ≤ 122)
def sndStr : ByteArray := ⟨#[45, 49, 50, 51, 45, 49, 50, 42, 45, 50, 50, 52, 53, 53, 45, 49, 50, 54, 50, 51, 45, 49, 42, 50, 45, 50]⟩
theorem snd_at (k : Nat) (h : k < sndStr.size) : (sndStr[k]'h).toNat = (sndTab.getD k 45).toNat := by
  have hk : k < 26 := h
  have : ∀ j : Fin 26, (sndStr[j.val]'j.isLt).toNat = (sndTab.getD j.val 45).toNat := by decide
  exact this ⟨k, hk⟩
theorem byteEq {a b : UInt8} (h : a = b) : ((a.toNat : Int) == (b.toNat : Int)) = true := by rw [h]; simp
theorem byteNe {a b : UInt8} (h : a ≠ b) : ((a.toNat : Int) == (b.toNat : Int)) = false := by
  simp only [beq_eq_false_iff_ne, ne_eq]
  intro e
  exact h (UInt8.toNat_inj.1 (by omega))
theorem byteBne {a b : UInt8} (h : a ≠ b) : ((a.toNat : Int) != (b.toNat : Int)) = true := by
  simp only [bne, byteNe h, Bool.not_false]
theorem byteBeq {a b : UInt8} (h : a = b) : ((a.toNat : Int) != (b.toNat : Int)) = false := by
  simp only [bne, byteEq h, Bool.not_true]
theorem soundOf_any (w : World) (b : UInt8) (hb : isSml b = true) :
    Calls Tryz.prog 48 #[.int .u8 b.toNat] w fun e w' => e = .returned (.int .u8 (snd b).toNat) ∧ w' = w := by
  unfold isSml at hb
  simp only [Bool.and_eq_true, decide_eq_true_eq] at hb
  obtain ⟨h1, h2⟩ := hb
  obtain ⟨j, hj⟩ : ∃ j : Nat, (b.toNat : Int) - 97 = (j : Int) := ⟨b.toNat - 97, by omega⟩
  have hj2 : j < sndStr.size := by show j < 26; omega
  have hj3 : (j : Int) < 26 := by omega
  have HS : Hid (((sndStr[j]'hj2).toNat : Int) = (snd b).toNat) := by
    show _ = _
    rw [snd_at j hj2]; unfold snd; rw [show b.toNat - 97 = j by omega]
  go_enter Tryz.func48, Tryz.ntmps48
  go_wp2
  go_ret
  exact ⟨ret_i HS.out, rfl⟩
/-- the four bytes of a code -/
def cods (a : UInt8) (D : List UInt8) : Array Value := #[.int .u8 (a.toNat - 32 : Nat), B8 (D.getD 0 48), B8 (D.getD 1 48), B8 (D.getD 2 48)]
theorem cods_code (a : UInt8) (ha : isSml a = true) (t : List UInt8) : cods a (codeGo (snd a) t) = ((codeL (a :: t)).map B8).toArray := by
  unfold isSml at ha
  simp only [Bool.and_eq_true, decide_eq_true_eq] at ha
  unfold cods codeL
  have e : ((UInt8.ofNat (a.toNat - 32)).toNat : Int) = ((a.toNat - 32 : Nat) : Int) := by
    have : a.toNat - 32 < 256 := by omega
    simp [Nat.mod_eq_of_lt this]
  have e2 : Value.int .u8 ((a.toNat - 32 : Nat) : Int) = B8 (UInt8.ofNat (a.toNat - 32)) := by unfold B8; rw [e]
  rw [e2]
  show _ = ((UInt8.ofNat (a.toNat - 32) :: List.take 3 (codeGo (snd a) t ++ [48, 48, 48])).map B8).toArray
  generalize codeGo (snd a) t = D
  match D with
  | [] => rfl
  | [x] => rfl
  | [x, y] => rfl
  | x :: y :: z :: r => rfl
theorem cods_put (a : UInt8) (D : List UInt8) (x : UInt8) (h : D.length < 3) : (cods a D).setIfInBounds (1 + D.length) (B8 x) = cods a (D ++ [x]) := by
  match D, h with
  | [], _ => rfl
  | [y], _ => rfl
  | [y, z], _ => rfl
theorem cods_full (a : UInt8) (D : List UInt8) (x : UInt8) (h : 3 ≤ D.length) : cods a (D ++ [x]) = cods a D := by
  match D, h with
  | y :: z :: u :: r, _ => rfl
theorem set_four {w3 : World} {g : Nat} {a b c d x y z u : Value} {t : TypeId} (h : w3.heap[g]? = some (.cells #[a, b, c, d] t)) :
    ((((w3.setCell ⟨g, 0, none⟩ x).setCell ⟨g, 1, none⟩ y).setCell ⟨g, 2, none⟩ z).setCell ⟨g, 3, none⟩ u).heap[g]? = some (.cells #[x, y, z, u] t) :=
  heap_setCell_same _ g 3 _ t u (heap_setCell_same _ g 2 _ t z (heap_setCell_same _ g 1 _ t y (heap_setCell_same w3 g 0 _ t x h)))
theorem heap_cellC {w : World} {g : Nat} {cs : Array Value} {t : TypeId} (h : w.heap[g]? = some (.cells cs t)) (i : Nat) : w.cell? ⟨g, i, none⟩ = cs[i]? := by
  unfold World.cell?; rw [h]; rfl
theorem Fr.setC {w w3 : World} (h : Fr w.heap.size w w3) {g i : Nat} (hg : w.heap.size ≤ g) (v : Value) : Fr w.heap.size w (w3.setCell ⟨g, i, none⟩ v) := by
  refine ⟨Below.setCell h.1 hg v, fun k o h1 h2 h3 => ?_⟩
  have hk : k < w.heap.size := (Array.getElem?_eq_some_iff.1 h1).1
  rw [heap_setCell_other _ _ _ _ (by show k ≠ g; omega)]
  exact h.2 k o h1 h2 h3
theorem two_kept0 (w : World) (a b : Obj) : ((w.alloc a).alloc b).heap[w.heap.size]? = some a ∧ ((w.alloc a).alloc b).heap[w.heap.size + 1]? = some b := by
  have e0 : ((w.alloc a).alloc b).heap = (w.heap.push a).push b := rfl
  rw [e0]
  refine ⟨?_, ?_⟩
  · rw [Array.getElem?_push, Array.getElem?_push]
    simp only [Array.size_push]
    rw [if_neg (by omega), if_pos trivial]
  · rw [Array.getElem?_push]
    simp only [Array.size_push]
    rw [if_pos trivial]

set_option maxRecDepth 100000 in
set_option maxHeartbeats 2000000 in
theorem codeOf_any (w : World) (B : Nat) (v : Value) (a : UInt8) (t : List UInt8) (hown : Own w B v (a :: t)) (hl : (a :: t).all isSml = true) (hlen : t.length ≤ 140737488355328) :
    Calls Tryz.prog 27 #[v] w fun e w' => e = .returned (.agg (cods a (codeGo (snd a) t))) ∧ Fr w.heap.size w w' := by
  rw [List.all_cons, Bool.and_eq_true] at hl
  obtain ⟨ha, ht⟩ := hl
  have hcell := fun (W : World) (h : Fr w.heap.size w W) (j : Nat) (u : UInt8) (hj : (a :: t)[j]? = some u) (g : Nat) (hg : v.ownBlock = some g) => (h.1.cell (p := ⟨g, j, none⟩) (hown.blk hg)).trans (show w.cell? ⟨g, j, none⟩ = some (B8 u) by
    have := World.ownsRow.cells hown (g := g) hg j (B8 u) (by rw [List.getElem?_map, hj]; rfl)
    by_cases h0 : j = 0
    · subst h0; simpa [Addr.add] using this
    · simpa [Addr.add, h0] using this)
  obtain ⟨g, cap, hv, hcap, hcap2⟩ : ∃ g cap, v = .slice (some ⟨g, 0, none⟩) (t.length + 1) cap ∧ t.length + 1 ≤ cap ∧ cap ≤ maxLen := by
    rcases hown.2 with ⟨_, h⟩ | ⟨g, cap, cur, h, _, _, h3, h4, _⟩
    · simp at h
    · exact ⟨g, cap, h, h3, h4⟩
  subst hv
  have c0 : ∀ W, Fr w.heap.size w W → W.cell? ⟨g, 0, none⟩ = some (.int .u8 a.toNat) := fun W h => hcell W h 0 a rfl g rfl
  have cj : ∀ W, Fr w.heap.size w W → ∀ (j : Nat) (h : j < t.length), W.cell? ⟨g, 1 + j, none⟩ = some (.int .u8 (t[j]).toNat) := fun W h j hj => hcell W h (1 + j) t[j] (by rw [Nat.add_comm, List.getElem?_cons_succ, List.getElem?_eq_getElem hj]) g rfl
  have hgl : g < w.heap.size := hown.blk rfl
  clear hcell hown
  have hso := fun w => soundOf_any w a ha
  have HA : Hid _ := ha
  have HT : Hid _ := ht
  clear ha ht
  have hab : 97 ≤ a.toNat ∧ a.toNat ≤ 122 := by have := HA.out; unfold isSml at this; simpa using this
  obtain ⟨ha1, ha2⟩ := hab
  have c00 := c0 w (Fr.refl _ _)
  have c01 := fun o => c0 (w.alloc o) (Fr.one o)
  have c02 := fun o p => c0 ((w.alloc o).alloc p) ((Fr.one o).then (Fr.one p))
  unfold maxLen at hcap2
  have HC0 : Hid (#[Value.int IntKind.u8 ((a.toNat : Int) - 97 + 65), Value.int IntKind.u8 48, Value.int IntKind.u8 48, Value.int IntKind.u8 48] = cods a []) := by
    show _ = _
    unfold cods
    rw [show ((a.toNat : Int) - 97 + 65) = ((a.toNat - 32 : Nat) : Int) by omega]
    rfl
  obtain ⟨k1, k2⟩ := two_kept0 w (Obj.cells #[Value.int IntKind.u8 0, Value.int IntKind.u8 0, Value.int IntKind.u8 0, Value.int IntKind.u8 0] 60) (Obj.cells #[Value.int IntKind.u8 ((a.toNat : Int) - 97 + 65), Value.int IntKind.u8 48, Value.int IntKind.u8 48, Value.int IntKind.u8 48] 60)
  have K1 : Hid _ := k1
  have K2 : Hid _ := k2
  clear k1 k2
  have hfin : ∀ (W : World) (D : List UInt8), W.heap[w.heap.size]? = some (Obj.cells #[Value.int IntKind.u8 0, Value.int IntKind.u8 0, Value.int IntKind.u8 0, Value.int IntKind.u8 0] 60) → W.heap[w.heap.size + 1]? = some (Obj.cells (cods a D) 60) →
      (∀ i, i < 4 → W.cell? ⟨w.heap.size, i, none⟩ = some (.int .u8 0)) ∧ (∀ i, W.frozen? ⟨w.heap.size, i, none⟩ = false) ∧ W.cell? ⟨w.heap.size + 1, 0, none⟩ = some (.int .u8 (a.toNat - 32 : Nat)) ∧ W.cell? ⟨w.heap.size + 1, 1, none⟩ = some (B8 (D.getD 0 48)) ∧ W.cell? ⟨w.heap.size + 1, 2, none⟩ = some (B8 (D.getD 1 48)) ∧ W.cell? ⟨w.heap.size + 1, 3, none⟩ = some (B8 (D.getD 2 48)) := by
    intro W D h1 h2
    refine ⟨fun i hi => ?_, fun i => frozen_of_row _ _ i _ _ h1, heap_cellC h2 0, heap_cellC h2 1, heap_cellC h2 2, heap_cellC h2 3⟩
    rw [heap_cellC h1 i]
    rcases (show i = 0 ∨ i = 1 ∨ i = 2 ∨ i = 3 by omega) with h | h | h | h <;> subst h <;> rfl
  by_cases hc1 : cap = 1
  · subst hc1
    have ht0 : t = [] := List.eq_nil_of_length_eq_zero (by omega)
    subst ht0
    go_enter Tryz.func27, Tryz.ntmps27
    go_wp2_with (go_at_call 48; refine (hso _).mono ?_; rintro e w2 ⟨rfl, rfl⟩)
    go_loopw [22] (fun i wr => i = .int .i64 0 ∧ wr.heap[w.heap.size]? = some (Obj.cells #[Value.int IntKind.u8 0, Value.int IntKind.u8 0, Value.int IntKind.u8 0, Value.int IntKind.u8 0] 60) ∧ wr.heap[w.heap.size + 1]? = some (Obj.cells (cods a []) 60) ∧ Fr w.heap.size w wr) (fun _ _ => 0)
    case atStart => exact ⟨rfl, K1.out, by rw [← HC0.out]; exact K2.out, (Fr.one _).then (Fr.one _)⟩
    case round =>
      obtain ⟨rfl, h1, h2, hfr⟩ := hrel
      clear c00 c01 c02
      obtain ⟨z0, z1, q0, q1, q2, q3⟩ := hfin wr [] h1 h2
      have y0 := z0 0 (by omega)
      have y1 := z0 1 (by omega)
      have y2 := z0 2 (by omega)
      have y3 := z0 3 (by omega)
      have f0 := z1 0
      have f1 := z1 1
      have f2 := z1 2
      have f3 := z1 3
      have H1 : Hid _ := h1
      clear z0 z1 h1 h2
      rw [B8] at q1 q2 q3
      go_wp2
      refine post_c rfl rfl w.heap.size _ rfl (run_loadVar_row (P := Tryz.prog) _ w.heap.size 60 60 _ _ _ (set_four H1.out) Tryz.underlying60 rfl (by kernel_rfl)) ?_
      refine ⟨by rfl, ?_⟩
      exact (((hfr.setC (Nat.le_refl _) _).setC (Nat.le_refl _) _).setC (Nat.le_refl _) _).setC (Nat.le_refl _) _
  · go_enter Tryz.func27, Tryz.ntmps27
    go_wp2_with (go_at_call 48; refine (hso _).mono ?_; rintro e w2 ⟨rfl, rfl⟩)
    go_loopw [4, 5, 22] (fun f l i wr => ∃ (k F : Nat) (last : UInt8) (D : List UInt8), k ≤ t.length ∧ i = .int .i64 k ∧ f = .int .i64 (F : Int) ∧ F = 1 + min 3 D.length ∧ l = .int .u8 last.toNat ∧ codeGo (snd a) t = D ++ codeGo last (t.drop k) ∧ wr.heap[w.heap.size]? = some (Obj.cells #[Value.int IntKind.u8 0, Value.int IntKind.u8 0, Value.int IntKind.u8 0, Value.int IntKind.u8 0] 60) ∧ wr.heap[w.heap.size + 1]? = some (Obj.cells (cods a D) 60) ∧ Fr w.heap.size w wr) (fun _ _ i _ => t.length - (intOf i).toNat)
    case atStart => exact ⟨0, 1, snd a, [], Nat.zero_le _, rfl, rfl, rfl, rfl, by simp, K1.out, by rw [← HC0.out]; exact K2.out, (Fr.one _).then (Fr.one _)⟩
    case round =>
      obtain ⟨k, F, last, D, hk, rfl, rfl, hF, rfl, hsp, h1, h2, hfr⟩ := hrel
      have HS : Hid _ := hsp
      clear hsp c00 c01 c02
      obtain ⟨z0, z1, q0, q1, q2, q3⟩ := hfin wr D h1 h2
      by_cases hlt : k < t.length
      · have cc := cj wr hfr k hlt
        have hsm : isSml t[k] = true := List.all_eq_true.1 HT.out _ (List.getElem_mem _)
        have hsk := fun w => soundOf_any w t[k] hsm
        have HD : Hid (t.drop k = t[k] :: t.drop (k + 1)) := List.drop_eq_getElem_cons hlt
        have hb := (snd t[k]).toNat_lt
        have hlb := last.toNat_lt
        have H1 : Hid _ := h1
        have H2 : Hid _ := h2
        have HF : Hid _ := hF
        clear h1 h2 hF z0 z1 q0 q1 q2 q3
        by_cases h42 : snd t[k] = 42
        · have e42 : (((snd t[k]).toNat : Int) == 42) = true := byteEq h42
          have HX : Hid (codeGo (snd a) t = D ++ codeGo last (t.drop (k + 1))) := by
            show _ = _
            rw [HS.out, HD.out, codeGo, if_pos h42]
          clear h42
          go_wp2_with (go_at_call 48; refine (hsk _).mono ?_; rintro e w2 ⟨rfl, rfl⟩)
          go_roundw
          case rel => exact ⟨k + 1, F, last, D, by omega, by go_num, rfl, HF.out, rfl, HX.out, H1.out, H2.out, hfr⟩
          case measure => simp [intOf]; omega
        · have e42 : (((snd t[k]).toNat : Int) == 42) = false := byteNe h42
          by_cases hg : snd t[k] ≠ 45 ∧ snd t[k] ≠ last
          · have HX : Hid (codeGo (snd a) t = (D ++ [snd t[k]]) ++ codeGo (snd t[k]) (t.drop (k + 1))) := by
              show _ = _
              rw [HS.out, HD.out, codeGo, if_neg h42, if_pos hg, List.append_assoc]; rfl
            have e45 : (((snd t[k]).toNat : Int) != 45) = true := byteBne hg.1
            have els : (((snd t[k]).toNat : Int) != (last.toNat : Int)) = true := byteBne hg.2
            clear h42 hg
            by_cases h3 : D.length < 3
            · have hF4 : F < 4 := by rw [HF.out]; omega
              have hF4' : (F : Int) < 4 := by omega
              have HFe : Hid (F = 1 + D.length) := by show F = _; rw [HF.out]; omega
              have hcl : wr.cell? ⟨w.heap.size + 1, F, none⟩ = some ((cods a D).getD F undef) := by
                rw [heap_cellC H2.out F]
                rw [Array.getElem?_eq_getElem (by show F < 4; exact hF4), Array.getD_eq_getD_getElem?, Array.getElem?_eq_getElem (by show F < 4; exact hF4)]; rfl
              have hfz := frozen_of_row _ _ F _ _ H2.out
              generalize (cods a D).getD F undef = old at hcl
              go_wp2_with (go_at_call 48; refine (hsk _).mono ?_; rintro e w2 ⟨rfl, rfl⟩)
              go_roundw
              case rel =>
                refine ⟨k + 1, F + 1, snd t[k], D ++ [snd t[k]], by omega, by go_num, by go_num, ?_, rfl, HX.out, ?_, ?_, hfr.setC (by omega) _⟩
                · rw [HFe.out, List.length_append]; simp; omega
                · rw [heap_setCell_other _ _ _ _ (by show w.heap.size ≠ w.heap.size + 1; omega)]; exact H1.out
                · have := heap_setCell_same _ (w.heap.size + 1) F _ _ (B8 (snd t[k])) H2.out
                  rw [HFe.out, cods_put a D _ h3, ← HFe.out] at this
                  exact this
              case measure => simp [intOf]; omega
            · have hF4 : ¬ (F : Int) < 4 := by rw [HF.out]; omega
              go_wp2_with (go_at_call 48; refine (hsk _).mono ?_; rintro e w2 ⟨rfl, rfl⟩)
              go_roundw
              case rel =>
                refine ⟨k + 1, F, snd t[k], D ++ [snd t[k]], by omega, by go_num, rfl, ?_, rfl, HX.out, H1.out, ?_, hfr⟩
                · rw [HF.out, List.length_append]; simp; omega
                · rw [cods_full a D _ (by omega)]; exact H2.out
              case measure => simp [intOf]; omega
          · have HX : Hid (codeGo (snd a) t = D ++ codeGo (snd t[k]) (t.drop (k + 1))) := by
              show _ = _
              rw [HS.out, HD.out, codeGo, if_neg h42, if_neg hg]
            have hg2 : (((snd t[k]).toNat : Int) != 45) = false ∨ ((((snd t[k]).toNat : Int) != 45) = true ∧ (((snd t[k]).toNat : Int) != (last.toNat : Int)) = false) := by
              by_cases h45 : snd t[k] = 45
              · left; exact byteBeq h45
              · right
                refine ⟨byteBne h45, ?_⟩
                by_cases hl : snd t[k] = last
                · exact byteBeq hl
                · exact absurd ⟨h45, hl⟩ hg
            clear h42 hg
            rcases hg2 with g1 | ⟨g1, g2⟩
            · go_wp2_with (go_at_call 48; refine (hsk _).mono ?_; rintro e w2 ⟨rfl, rfl⟩)
              go_roundw
              case rel => exact ⟨k + 1, F, snd t[k], D, by omega, by go_num, rfl, HF.out, rfl, HX.out, H1.out, H2.out, hfr⟩
              case measure => simp [intOf]; omega
            · go_wp2_with (go_at_call 48; refine (hsk _).mono ?_; rintro e w2 ⟨rfl, rfl⟩)
              go_roundw
              case rel => exact ⟨k + 1, F, snd t[k], D, by omega, by go_num, rfl, HF.out, rfl, HX.out, H1.out, H2.out, hfr⟩
              case measure => simp [intOf]; omega
      · have y0 := z0 0 (by omega)
        have y1 := z0 1 (by omega)
        have y2 := z0 2 (by omega)
        have y3 := z0 3 (by omega)
        have f0 := z1 0
        have f1 := z1 1
        have f2 := z1 2
        have f3 := z1 3
        have HR : Hid (codeGo (snd a) t = D) := by
          show _ = _
          rw [HS.out, List.drop_eq_nil_of_le (by omega), codeGo, List.append_nil]
        have H1 : Hid _ := h1
        clear z0 z1 h1 h2
        rw [B8] at q1 q2 q3
        go_wp2
        refine post_c rfl rfl w.heap.size _ rfl (run_loadVar_row (P := Tryz.prog) _ w.heap.size 60 60 _ _ _ (set_four H1.out) Tryz.underlying60 rfl (by kernel_rfl)) ?_
        refine ⟨by rw [HR.out]; rfl, ?_⟩
        exact (((hfr.setC (Nat.le_refl _) _).setC (Nat.le_refl _) _).setC (Nat.le_refl _) _).setC (Nat.le_refl _) _
end Go.Proofs.YtimjmecogbkgfabGreatDoor
