/-
  Whole numbers: their keys.
-/
import Derived.Test.YtfiijlmpfpmgiaaGreatDoorSpKToNumA
namespace Go.Proofs.YtfiijlmpfpmgiaaGreatDoor
open Go.RowKit

set_option maxRecDepth 100000 in
set_option maxHeartbeats 2000000 in
theorem numKey_any (w : World) (s : ByteArray) (hs : s.size ≤ 65536) :
    Calls Tryz.prog 180 #[.agg #[], .string s] w fun e w' => e = .returned (ans ((numL (byt s)).map numKey)) ∧ Fr w.heap.size w w' := by
  have hno := fun w => numberOf_any w s (by omega)
  cases hx : numL (byt s) with
  | none =>
    rw [hx] at hno
    go_enter Tryz.func180, Tryz.ntmps180
    go_wp2_with (first
      | (go_at_call 207; refine (hno _).mono ?_; rintro e w2 ⟨rfl, hf2⟩; simp only [numAns]))
    go_ret2
    exact ⟨rfl, ((Fr.one _).then hf2).then (Fr.one _)⟩
  | some x =>
    rw [hx] at hno
    obtain ⟨hc, hz, hl, hl2, he⟩ := numL_some hx
    rw [byt_length] at hl2
    clear hx he hl
    obtain ⟨b, d⟩ := x
    simp only at hc hz hl2
    obtain ⟨D, hD⟩ : ∃ D, Hid (D = str d) := ⟨str d, rfl⟩
    have hsz : D.size = d.length := by rw [hD.out]; exact str_size d
    have hs5 : D.size ≤ 65536 := by omega
    have mixed := mixed
    cases b with
    | false =>
      obtain ⟨S, hS⟩ : ∃ S, Hid (S = str ([112] ++ cnt3 d.length)) := ⟨str ([112] ++ cnt3 d.length), rfl⟩
      have hs4 : S.size = 4 := by rw [hS.out, str_size]; rfl
      have HR : Hid (S ++ D = str (numKey (false, d))) := by
        show S ++ D = _
        rw [hS.out, hD.out]
        apply ByteArray.ext
        simp [str, numKey]
      clear hc hz
      go_enter Tryz.func180, Tryz.ntmps180
      go_wp2_with (first
        | (go_at_call 207; refine (hno _).mono ?_; rintro e w2 ⟨rfl, hf2⟩; simp only [numAns]; rw [← hD.out]))
      go_region_with_o (go_at_call 208; refine (appendCount_any _ (w2.heap.size + 1) _ [112] d.length _ rfl (by omega) ((own_litB [112] (by simp) (by simp) rfl rfl).drew) (by simp) (by simp)).mono ?_; rintro e w3 ⟨v3, rfl, ho3, hf3⟩; have hcv : _ = _ := ho3.conv; rw [← hS.out] at hcv; have hcl : w3.cell? ⟨w2.heap.size, 1, none⟩ = some (.string D) := (hf3.1.cell (p := ⟨w2.heap.size, 1, none⟩) (by simp)).trans (cell_new2 w2 _ _ _ 1))
      all_goals go_wp2
      all_goals
        go_ret2
        have hle : w.heap.size ≤ w2.heap.size := by have := hf2.size; simp at this; omega
        exact ⟨ret_some rfl HR.out, ((((Fr.one _).then hf2).then (Fr.one _)).then (Fr.one _).drew).trans (hf3.mono (by omega))⟩
    | true =>
      have hcn := (isCnt_iff d).1 hc
      have HD2 : Hid (d.all isDig = true) := hcn.1
      have HG : Hid (∀ k (h : k < D.size), D[k] = d[k]'(by omega)) := by
        show ∀ k (h : k < D.size), D[k] = d[k]'(by omega)
        intro k h
        have h1 := byt_get D k h
        have h2 : byt D = d := by rw [hD.out, byt_str]
        rw [h2, List.getElem?_eq_getElem (by omega)] at h1
        exact (Option.some.inj h1).symm
      obtain ⟨n, hn⟩ : ∃ n : Nat, (16777215 : Int) - (d.length : Int) = (n : Int) := ⟨16777215 - d.length, by omega⟩
      clear hc hz hcn
      go_enter Tryz.func180, Tryz.ntmps180
      go_wp2_with (first
        | (go_at_call 207; refine (hno _).mono ?_; rintro e w2 ⟨rfl, hf2⟩; simp only [numAns]; rw [← hD.out])
        | (go_at_call 208; refine (appendCount_any _ (w2.heap.size + 1) _ [110] n _ rfl (by omega) ((own_litB [110] (by simp) (by simp) rfl rfl)) (by simp) (by simp)).mono ?_; rintro e w3 ⟨v3, rfl, ho3, hf3⟩))
      have hle : w.heap.size ≤ w2.heap.size := by have := hf2.size; simp at this; omega
      have hcb : ∀ wr : World, Fr (w2.heap.size + 1) ((w2.alloc (Obj.cells #[Value.bool true, Value.string D] 275)).alloc (Obj.cells #[Value.int IntKind.u8 110] 5)) wr → wr.cell? ⟨w2.heap.size, 1, none⟩ = some (.string D) :=
        fun wr h => (h.1.cell (p := ⟨w2.heap.size, 1, none⟩) (by simp)).trans (cell_new2 w2 _ _ _ 1)
      have hfin : ∀ wr : World, Fr (w2.heap.size + 1) ((w2.alloc (Obj.cells #[Value.bool true, Value.string D] 275)).alloc (Obj.cells #[Value.int IntKind.u8 110] 5)) wr → Fr w.heap.size w wr :=
        fun wr h => ((((Fr.one _).then hf2).then (Fr.one _)).then (Fr.one _)).trans (h.mono (by omega))
      clear hf2
      go_loopw [9, 36] (fun v i wr => ∃ k : Nat, k ≤ d.length ∧ i = .int .i64 k ∧ Own wr (w2.heap.size + 1) v (([110] ++ cnt3 n) ++ (d.take k).map (fun b => UInt8.ofNat (105 - b.toNat))) ∧ Fr (w2.heap.size + 1) ((w2.alloc (Obj.cells #[Value.bool true, Value.string D] 275)).alloc (Obj.cells #[Value.int IntKind.u8 110] 5)) wr) (fun _ i _ => d.length - (intOf i).toNat)
      case atStart => exact ⟨0, Nat.zero_le _, rfl, by rw [List.take_zero, List.map_nil, List.append_nil]; exact ho3, hf3⟩
      case round =>
        obtain ⟨k, hk, rfl, hown, hfr⟩ := hrel
        clear ho3 hf3
        have hcl := hcb wr hfr
        by_cases hlt : k < d.length
        · have hlt2 : k < D.size := by omega
          have hg := HG.out k hlt2
          have hdg : 48 ≤ D[k].toNat ∧ D[k].toNat ≤ 57 := by
            rw [hg]
            have := (List.all_eq_true.1 HD2.out) (d[k]) (List.getElem_mem _)
            exact (isDig_iff _).1 this
          obtain ⟨g1, g2⟩ := hdg
          have HT : Hid ((d.take (k + 1)).map (fun b => UInt8.ofNat (105 - b.toNat)) = (d.take k).map (fun b => UInt8.ofNat (105 - b.toNat)) ++ [UInt8.ofNat (105 - D[k].toNat)]) := by
            show _ = _
            rw [List.take_succ_eq_append_getElem hlt, List.map_append, hg]; rfl
          clear hg
          have hll : ((([110] : List UInt8) ++ cnt3 n) ++ (d.take k).map (fun b => UInt8.ofNat (105 - b.toNat))).length ≤ 100000 := by
            simp [cnt3]; omega
          have hBw : w2.heap.size + 1 ≤ wr.heap.size := by have := hfr.size; simp at this; omega
          go_wp2_with (first
            | (at_builtin; refine wpList_push rfl _ _ rfl _ (w2.heap.size + 1) _ _ [UInt8.ofNat (105 - D[k].toNat)] _ hown hBw rfl 1 1 rfl rfl ?hcs ?hlen ?_))
          case hcs =>
            simp only [List.map, B8]
            rw [u8_ofNat]
            have e : ((105 - D[k].toNat : Nat) : Int) % 256 = 57 - (D[k].toNat : Int) + 48 := by omega
            rw [e]
          case hlen => simp only [List.length_singleton]; omega
          intro v4 w4 ho4 hf4
          go_wp2
          go_roundw
          case rel => exact ⟨k + 1, by omega, by go_num, by rw [HT.out]; simpa [List.map_take] using ho4, hfr.trans hf4⟩
          case measure => simp [intOf]; omega
        · have hcv := hown.conv
          go_wp2
          go_ret2
          refine ⟨ret_some rfl ?_, hfin _ hfr⟩
          rw [List.take_of_length_le (by rw [List.length_map]; omega)]
          show str _ = str (numKey (true, d))
          unfold numKey
          rw [if_pos rfl]
          have : 16777215 - d.length = n := by omega
          simp only [this]
end Go.Proofs.YtfiijlmpfpmgiaaGreatDoor
