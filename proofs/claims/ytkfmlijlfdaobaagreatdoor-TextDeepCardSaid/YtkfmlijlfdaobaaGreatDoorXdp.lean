/-
  TextDeep: the law's walk.
-/
import Derived.Test.YtkfmlijlfdaobaaGreatDoorQR
import Derived.Test.YtkfmlijlfdaobaaGreatDoorQK
import Derived.Test.YtkfmlijlfdaobaaGreatDoorOr2
namespace Go.Proofs.YtkfmlijlfdaobaaGreatDoor
open Go.RowKit Go.Shelf

theorem str_app (l m : List UInt8) : str l ++ str m = str (l ++ m) := by
  apply ByteArray.ext
  rw [ByteArray.data_append]
  apply Array.ext'
  simp [str]
theorem own_none (w : World) (B : Nat) : Own w B (.slice none 0 0) [] := ⟨rfl, .inl ⟨rfl, rfl⟩⟩
theorem own_like {w w' : World} {B : Nat} {v : Value} {l : List UInt8} (h : Own w B v l) (k : ∀ g, v.ownBlock = some g → w'.heap[g]? = w.heap[g]?) : Own w' B v l := by
  refine ⟨h.1, ?_⟩
  rcases h.2 with h1 | ⟨g, cap, cur, rfl, h2, hg, h3⟩
  · exact .inl h1
  · exact .inr ⟨g, cap, cur, rfl, h2, (k g rfl).trans hg, h3⟩
/-- a part of an own row, as a text -/
theorem own_conv_sub {w : World} {B : Nat} {g n c : Nat} {l : List UInt8} (h : Own w B (.slice (some ⟨g, 0, none⟩) n c) l) (i m c2 : Nat) (x : List UInt8) (hx : (l.drop i).take m = x) (hm : m = x.length) : (convert 38 9 (.slice (some ⟨g, i, none⟩) m c2)).run Tryz.prog w = .ok (.string (str x)) w := by
  subst hm
  have hc := World.ownsRow.cells h (g := g) rfl
  refine run_convert_bytes_back w 38 9 5 ⟨g, i, none⟩ c2 x Tryz.underlying38 Tryz.underlying5 Tryz.underlying9 (fun j hj => ?_)
  have hxj : x[j]? = some x[j] := List.getElem?_eq_getElem hj
  have hlj : l[i + j]? = some x[j] := by
    rw [← hxj, ← hx, List.getElem?_take, if_pos (by rw [← hx, List.length_take] at hj; omega), List.getElem?_drop]
  have := hc (i + j) (B8 x[j]) (by rw [List.getElem?_map, hlj]; rfl)
  rw [Addr.add_lit, Nat.zero_add] at this
  rw [Addr.add_lit]
  exact this
theorem rep_part (m : Nat) : (([40, 124] ++ repL (m + 1)).drop 2).take (5 * m) = repL m := by
  show (repL (m + 1)).take (5 * m) = _
  rw [repL, List.take_append_of_le_length (Nat.le_of_eq (repL_len m).symm), List.take_of_length_le (Nat.le_of_eq (repL_len m))]
theorem opL_len : ∀ k, (opL k).length = 2 * k
  | 0 => rfl
  | k + 1 => by rw [opL, List.length_append, opL_len k]; rfl
theorem shL_len : ∀ k, (shL k).length = k
  | 0 => rfl
  | k + 1 => by rw [shL, List.length_append, shL_len k]; rfl
theorem str_size (l : List UInt8) : (str l).size = l.length := by rw [← byt_length, byt_str]
set_option maxRecDepth 100000 in
set_option maxHeartbeats 8000000 in
theorem TextDeep_any (w : World) (hL : Laid w) : Calls Tryz.prog 3 #[] w fun e w' => e = .returned (.bool true) ∧ Ext w w' := by
  have hWk := fun W (y : Ext w W) => wakes_any W (hL.ext y)
  have hPa : Hid (∀ W (y : Ext w W) S, Calls Tryz.prog 4 #[.string S] W (ParPost W (parseR S))) := fun W y S => Parse_any W (hL.ext y) S
  have hEr : Hid (∀ W (y : Ext w W), ErrT W) := fun W y => (hL.ext y).err
  clear hL
  go_enter Tryz.func3, Tryz.ntmps3
  go_upto_region 4 with fail
  go_loopw [1, 2, 3] (fun v1 v2 v3 wr => ∃ (k : Nat) (O Z : ByteArray), v3 = .int .i64 k ∧ v1 = .string O ∧ v2 = .string Z ∧ Hid (O = str (opL k) ∧ Z = str (shL k)) ∧ k ≤ 63 ∧ Hid (wr = w)) (fun _ _ v3 _ => 63 - (intOf v3).toNat)
  case atStart => exact ⟨0, _, _, rfl, rfl, rfl, ⟨rfl, rfl⟩, by omega, rfl⟩
  case round =>
    obtain ⟨k, O, Z, rfl, rfl, rfl, hOZ, hk, hwr⟩ := hrel
    have hOs : O.size ≤ 126 := by rw [hOZ.out.1, str_size, opL_len]; omega
    have hZs : Z.size ≤ 63 := by rw [hOZ.out.2, str_size, shL_len]; omega
    have s1 : ¬ 9223372036854775807 < O.size + 2 := by omega
    have s2 : ¬ 9223372036854775807 < Z.size + 1 := by omega
    have s3 : ¬ 9223372036854775807 < O.size + 5 := by omega
    have s4 : ¬ 9223372036854775807 < O.size + 5 + Z.size := by omega
    have s5 : ¬ 9223372036854775807 < O.size + 8 := by omega
    have s6 : ¬ 9223372036854775807 < O.size + 8 + Z.size := by omega
    by_cases hlt : k < 63
    · have hlt' : (k : Int) < 63 := by omega
      have hn : Hid (O ++ ⟨#[40, 33]⟩ = str (opL (k + 1)) ∧ Z ++ ⟨#[41]⟩ = str (shL (k + 1))) := by
        refine ⟨?_, ?_⟩
        · rw [hOZ.out.1]; exact str_app (opL k) [40, 33]
        · rw [hOZ.out.2]; exact str_app (shL k) [41]
      go_wp2
      go_roundw
      case rel => exact ⟨k + 1, _, _, by go_num, rfl, rfl, hn, by omega, hwr⟩
      case measure => simp [intOf]; omega
    · have hk63 : k = 63 := by omega
      subst hk63
      have hD : Hid (O ++ ⟨#[40, 97, 61, 98, 41]⟩ ++ Z = deepS) := by
        show _ = _
        rw [hOZ.out.1, hOZ.out.2]
        exact (congrArg (· ++ str (shL 63)) (str_app (opL 63) itL)).trans (str_app _ _)
      have hM : Hid (O ++ ⟨#[40, 33, 40, 97, 61, 98, 41, 41]⟩ ++ Z = moreS) := by
        show _ = _
        rw [hOZ.out.1, hOZ.out.2]
        exact (congrArg (· ++ str (shL 63)) (str_app (opL 63) [40, 33, 40, 97, 61, 98, 41, 41])).trans (str_app _ _)
      have hPD := hPa.out wr (by rw [hwr.out]; exact Ext.refl _) deepS
      rw [deep_parse, ← hD.out] at hPD
      have hck := deep_check
      generalize (notT 63).1 = a at hPD hck
      generalize (notT 63).2 = kd at hPD hck
      have hckh : Hid _ := hck
      have x0 : Ext w wr := by rw [hwr.out]; exact Ext.refl _
      clear hck hwr hlt hk
      -- TAIL
      go_wp2_with fail
      go_at_call 4
      refine hPD.mono ?_
      rintro _ wp ⟨yp, f, rfl, hf⟩
      obtain ⟨fO, fK⟩ := hf.self
      have hfp : Hid (FOwn wp f a ∧ FKids wp f kd) := ⟨fO, fK⟩
      clear hf fO fK
      obtain ⟨kind, ka, kn, kc, desc, value, start, ma, mn, mc, fin, rule, dn⟩ := f
      simp only [F9.arr]
      try dsimp only
      have q2 : FlT (wp.alloc (.cells #[.int .i8 kind, .slice ka kn kc, .string desc, .string value, .string start, .slice ma mn mc, .string fin, .string rule, .bool dn] 26)) wp.heap.size ⟨kind, ka, kn, kc, desc, value, start, ma, mn, mc, fin, rule, dn⟩ := heap_alloc_new _ _
      have y2 := (Ext.refl wp).alloc (.cells #[.int .i8 kind, .slice ka kn kc, .string desc, .string value, .string start, .slice ma mn mc, .string fin, .string rule, .bool dn] 26)
      have yy := yp.trans y2
      go_upto_region 9 with fail
      generalize World.alloc wp _ = w2 at q2 y2 yy ⊢
      generalize wp.heap.size = HF at q2 ⊢
      have hf2 : Hid (FOwn w2 ⟨kind, ka, kn, kc, desc, value, start, ma, mn, mc, fin, rule, dn⟩ a ∧ FKids w2 ⟨kind, ka, kn, kc, desc, value, start, ma, mn, mc, fin, rule, dn⟩ kd) := ⟨hfp.out.1.ext y2, hfp.out.2.ext y2⟩
      have hCh2 := Check_any w2 (.agg (⟨kind, ka, kn, kc, desc, value, start, ma, mn, mc, fin, rule, dn⟩ : F9).arr) a kd ⟨_, rfl, hf2.out.1, hf2.out.2⟩
      simp only [F9.arr] at hCh2
      rw [hckh.out] at hCh2
      clear hfp y2 yp hf2
      obtain ⟨d0, d1, d2, d3, d4, d5, d6, d7, d8, -⟩ := q2.cells
      simp only at d0 d1 d2 d3 d4 d5 d6 d7 d8
      go_wp2_with fail
      go_at_call 5
      refine hCh2.mono ?_
      rintro _ wc ⟨rfl, yc⟩
      try dsimp only
      have x3 := (x0.trans yy).trans yc
      clear d0 d1 d2 d3 d4 d5 d6 d7 d8 q2 hCh2 yy yc hPD
      have hPM := hPa.out wc x3 moreS
      rw [more_parse, ← hM.out] at hPM
      go_wp2_with fail
      go_at_call 4
      refine hPM.mono ?_
      rintro _ w4 ⟨y4, ge, rfl, hge, hfe⟩
      try dsimp only
      have y5 := (Ext.refl w4).alloc (.cells #[.int .i8 0, .slice none 0 0, .string ⟨#[]⟩, .string ⟨#[]⟩, .string ⟨#[]⟩, .slice none 0 0, .string ⟨#[]⟩, .string ⟨#[]⟩, .bool false] 26)
      have e5 := hfe.ext y5
      have x5 := (x3.trans y4).trans y5
      clear hPM hfe hge
      unfold errV
      simp only [F9.arr, F9.zero]
      go_upto_region 11 with fail
      generalize World.alloc w4 _ = w5 at y5 e5 x5 ⊢
      have hTo := told_hit w5 ge 91 128 ⟨#[40]⟩ (hEr.out w5 x5) e5 (by decide)
      unfold errV at hTo
      clear y4 y5 e5
      go_wp2_with fail
      go_at_call 6
      refine hTo.mono ?_
      rintro _ w6 ⟨rfl, y6⟩
      try dsimp only
      have t7 : FtAt (w6.alloc (.cells #[.int .i64 91, .int .i64 128, .string ⟨#[40]⟩] 35)) w6.heap.size 91 128 ⟨#[40]⟩ := heap_alloc_new _ _
      have y7 := (Ext.refl w6).alloc (.cells #[.int .i64 91, .int .i64 128, .string ⟨#[40]⟩] 35)
      have hHTh0 : Hid (w.heap.size ≤ w6.heap.size) := (x5.trans y6).size
      have x7 := (x5.trans y6).trans y7
      clear hTo y6 y7 x5 x3 x0
      go_upto_region 12 with fail
      generalize World.alloc w6 _ = w7 at t7 x7 ⊢
      obtain ⟨HT, hHTe⟩ : ∃ HT, HT = w6.heap.size := ⟨_, rfl⟩
      rw [← hHTe] at t7 hHTh0 ⊢
      have hHTh : Hid (w.heap.size ≤ HT) := hHTh0
      clear hHTe hHTh0
      obtain ⟨a0, a1, a2, az⟩ := t7.cells
      clear s1 s2 s3 s4 s5 s6 hOs hZs hOZ hD hM
      go_upto_region 15 with fail
      clear a0 a1 a2 az
      obtain ⟨B, hB⟩ : ∃ B, Hid (B = w7.heap.size) := ⟨_, rfl⟩
      have hHTB : Hid (HT < B) := by show HT < B; rw [hB.out]; exact (Array.getElem?_eq_some_iff.1 t7).1
      have hBw : Hid (w.heap.size ≤ B) := by show _ ≤ _; rw [hB.out]; exact x7.size
      go_wp2_with (at_builtin; refine Hid.out ?_)
      refine wpList_pushS rfl _ _ rfl B (.slice none 0 0) [] (own_none w7 B) (by rw [hB.out]; exact Nat.le_refl _) rfl ⟨#[40, 124]⟩ rfl (by decide) ?_
      intro v8 w8 o8 r8
      obtain ⟨g8, c8, hv8⟩ : ∃ g c, v8 = .slice g 2 c := by obtain ⟨g, c, h⟩ := o8.shape; exact ⟨g, c, h⟩
      subst hv8
      have o8h : Hid (Own w8 B (.slice g8 2 c8) ([40, 124] ++ repL 0)) := o8
      have r8h : Hid (Fr B w7 w8 ∧ B ≤ w8.heap.size) := ⟨r8, Nat.le_trans (by rw [hB.out]; exact Nat.le_refl _) r8.size⟩
      clear o8 r8
      go_upto_region 17 with fail
      go_loopw [13, 14] (fun v13 v14 wq => ∃ (j n c : Nat) (ga : Option Addr), v13 = .slice ga n c ∧ v14 = .int .i64 j ∧ 1 ≤ j ∧ j ≤ 65536 ∧ Hid (n = 2 + 5 * (j - 1)) ∧ Hid (Own wq B (.slice ga n c) ([40, 124] ++ repL (j - 1))) ∧ Hid (Fr B w7 wq ∧ B ≤ wq.heap.size)) (fun _ v14 _ => 65536 - (intOf v14).toNat)
      case atStart => exact ⟨1, 2, c8, g8, rfl, rfl, by omega, by omega, rfl, o8h, r8h⟩
      case round =>
        clear o8h r8h
        obtain ⟨j, n, c, ga, rfl, rfl, hj1, hj2, hn, ho, hr⟩ := hrel
        by_cases hlt : j < 65536
        · have hlt' : (j : Int) < 65536 := by omega
          have hlen : ([40, 124] ++ repL (j - 1)).length + (⟨#[40, 97, 61, 98, 41]⟩ : ByteArray).size ≤ 140737488355328 := by rw [List.length_append, repL_len]; show 2 + 5 * (j - 1) + 5 ≤ _; omega
          have hnx : Hid ([40, 124] ++ repL (j - 1) ++ byt ⟨#[40, 97, 61, 98, 41]⟩ = [40, 124] ++ repL (j + 1 - 1)) := by
            show _ = _
            obtain ⟨m, rfl⟩ : ∃ m, j = m + 1 := ⟨j - 1, by omega⟩
            show [40, 124] ++ repL m ++ itL = [40, 124] ++ (repL m ++ itL)
            rw [List.append_assoc]
          have hnn : Hid (2 + 5 * (j - 1) + 5 = 2 + 5 * (j + 1 - 1)) := by show _ = _; omega
          generalize hLq : [40, 124] ++ repL (j - 1) = Lq at ho hlen hnx
          clear hLq
          go_wp2_with (at_builtin; refine Hid.out ?_)
          refine wpList_pushS rfl _ _ rfl B (.slice ga n c) Lq ho.out hr.out.2 rfl ⟨#[40, 97, 61, 98, 41]⟩ rfl hlen ?_
          intro v9 w9 o9 r9
          obtain ⟨g9, c9, hv9⟩ := o9.shape
          have hl9 : Hid ((Lq ++ byt ⟨#[40, 97, 61, 98, 41]⟩).length = n + 5) := by
            show _ = _
            obtain ⟨g, c', e⟩ := ho.out.shape
            have : n = Lq.length := by injection e
            rw [List.length_append, ← this]; rfl
          rw [hl9.out] at hv9
          subst hv9
          have o9h : Hid (Own w9 B (.slice g9 (n + 5) c9) ([40, 124] ++ repL (j + 1 - 1))) := by show Own _ _ _ _; rw [← hnx.out]; exact o9
          have r9h : Hid (Fr B w7 w9 ∧ B ≤ w9.heap.size) := ⟨hr.out.1.trans r9, Nat.le_trans hr.out.2 r9.size⟩
          have n9h : Hid (n + 5 = 2 + 5 * (j + 1 - 1)) := by show _ = _; rw [hn.out]; exact hnn.out
          clear o9 r9 ho hr hn hnx hnn hl9
          obtain ⟨n9, hn9⟩ : ∃ n9, n9 = n + 5 := ⟨_, rfl⟩
          rw [← hn9] at o9h n9h ⊢
          clear hn9
          go_wp2
          go_roundw
          case rel => exact ⟨j + 1, n9, c9, g9, rfl, by go_num, by omega, by omega, n9h, o9h, r9h⟩
          case measure => simp [intOf]; omega
        · have hj : j = 65536 := by omega
          subst hj
          have hn2 : n = 327677 := hn.out
          subst hn2
          have hro := ho.out.2
          obtain ⟨gg, hgg⟩ : ∃ gg, ga = some ⟨gg, 0, none⟩ := by
            rcases hro with ⟨e, _⟩ | ⟨g, _, _, e, _⟩
            · cases e
            · exact ⟨g, by injection e⟩
          subst hgg
          clear hro hn hlt hj1 hj2
          have x8 : Ext w wr := Below.trans x7 (Below.mono hr.out.1.1 hBw.out)
          have t8 : FtAt wr HT 91 128 ⟨#[40]⟩ := (hr.out.1.1.block HT hHTB.out).trans t7
          clear t7
          obtain ⟨X, hX⟩ : ∃ X, Hid (X = str ([40, 124] ++ repL 65535)) := ⟨str ([40, 124] ++ repL 65535), Eq.refl (str ([40, 124] ++ repL 65535))⟩
          have hXs : X.size = 327677 := by rw [hX.out, str_size, List.length_append, repL_len]; rfl
          have hbX : byt X = [40, 124] ++ repL 65535 := by rw [hX.out, byt_str]
          have hap : ∀ (l : List UInt8), byt (X ++ str l) = byt X ++ l := fun l => by unfold byt; rw [ByteArray.data_append, Array.toList_append]; simp [str]
          have hg1 : parseR (X ++ ⟨#[41]⟩) = .ok (nodeO 1, repF 65535) := many_parse (m := 65535) (by omega) (by omega) (by rw [show (⟨#[41]⟩ : ByteArray) = str [41] from rfl, hap, hbX])
          have hg2 : parseR (X ++ ⟨#[40, 97, 61, 98, 41, 41]⟩) = .bad 3 327677 ⟨#[40]⟩ := full_parse (m := 65535) (by omega) (by rw [show (⟨#[40, 97, 61, 98, 41, 41]⟩ : ByteArray) = str (itL ++ [41]) from rfl, hap, hbX, List.append_assoc ([40, 124] ++ repL 65535) itL [41]])
          obtain ⟨Y, hY⟩ : ∃ Y, Hid (Y = str (repL 65534)) := ⟨str (repL 65534), Eq.refl (str (repL 65534))⟩
          have hYs : Y.size = 327670 := by rw [hY.out, str_size, repL_len]
          have hg3 : parseR ((⟨#[40, 124]⟩ : ByteArray) ++ ⟨#[40, 33, 40, 97, 61, 98, 41, 41]⟩ ++ Y ++ ⟨#[41]⟩) = .ok (nodeO 1, notF 65534) := not_parse (m := 65534) (by omega) (by
            rw [hY.out]
            rw [show (⟨#[40, 124]⟩ : ByteArray) = str [40, 124] from rfl, show (⟨#[40, 33, 40, 97, 61, 98, 41, 41]⟩ : ByteArray) = str [40, 33, 40, 97, 61, 98, 41, 41] from rfl, show (⟨#[41]⟩ : ByteArray) = str [41] from rfl, str_app, str_app, str_app, byt_str])
          have hcvX : (convert 38 9 (.slice (some ⟨gg, 0, none⟩) 327677 c)).run Tryz.prog wr = .ok (.string X) wr := by rw [hX.out]; exact ho.out.conv
          have hP1 := hPa.out wr x8 (X ++ ⟨#[41]⟩)
          rw [hg1] at hP1
          have hck1 : checkL (nodeO 1) (repF 65535) = (0, 65536, 2) := many_check 65535 (by omega) (by omega)
          have hck1h : Hid _ := hck1
          have hg2h : Hid _ := hg2
          have hg3h : Hid _ := hg3
          generalize repF 65535 = kr at hP1 hck1h
          have u1 : ¬ 9223372036854775807 < X.size + 1 := by omega
          have u2 : ¬ 9223372036854775807 < X.size + 6 := by omega
          have u3 : ¬ 9223372036854775807 < 10 + Y.size := by omega
          have u4 : ¬ 9223372036854775807 < 10 + Y.size + 1 := by omega
          have hL9 : ([40, 124] ++ repL (65536 - 1) : List UInt8) = [40, 124] ++ repL 65535 := rfl
          rw [hL9] at ho
          have hXe : Hid (X = str ([40, 124] ++ repL 65535)) := hX
          clear hL9 hg1 hg2 hg3 hck1 hap hbX hX
          go_wp2_with fail
          go_at_call 4
          refine hP1.mono ?_
          rintro _ wp ⟨yp, f, rfl, hf⟩
          obtain ⟨fO, fK⟩ := hf.self
          have hfp : Hid (FOwn wp f (nodeO 1) ∧ FKids wp f kr) := ⟨fO, fK⟩
          clear hf fO fK
          obtain ⟨kind, ka, kn, kc, desc, value, start, ma, mn, mc, fin, rule, dn⟩ := f
          simp only [F9.arr]
          try dsimp only
          have q2 : FlT (wp.alloc (.cells #[.int .i8 kind, .slice ka kn kc, .string desc, .string value, .string start, .slice ma mn mc, .string fin, .string rule, .bool dn] 26)) wp.heap.size ⟨kind, ka, kn, kc, desc, value, start, ma, mn, mc, fin, rule, dn⟩ := heap_alloc_new _ _
          have y2 := (Ext.refl wp).alloc (.cells #[.int .i8 kind, .slice ka kn kc, .string desc, .string value, .string start, .slice ma mn mc, .string fin, .string rule, .bool dn] 26)
          have yy := yp.trans y2
          go_upto_region 21 with fail
          generalize World.alloc wp _ = w2 at q2 y2 yy ⊢
          generalize wp.heap.size = HF at q2 ⊢
          have hf2 : Hid (FOwn w2 ⟨kind, ka, kn, kc, desc, value, start, ma, mn, mc, fin, rule, dn⟩ (nodeO 1) ∧ FKids w2 ⟨kind, ka, kn, kc, desc, value, start, ma, mn, mc, fin, rule, dn⟩ kr) := ⟨hfp.out.1.ext y2, hfp.out.2.ext y2⟩
          have hCh2 := Check_any w2 (.agg (⟨kind, ka, kn, kc, desc, value, start, ma, mn, mc, fin, rule, dn⟩ : F9).arr) (nodeO 1) kr ⟨_, rfl, hf2.out.1, hf2.out.2⟩
          simp only [F9.arr] at hCh2
          rw [hck1h.out] at hCh2
          clear hfp y2 yp hf2
          obtain ⟨d0, d1, d2, d3, d4, d5, d6, d7, d8, -⟩ := q2.cells
          simp only at d0 d1 d2 d3 d4 d5 d6 d7 d8
          go_wp2_with fail
          go_at_call 5
          refine hCh2.mono ?_
          rintro _ wc ⟨rfl, yc⟩
          try dsimp only
          have x3 := (x8.trans yy).trans yc
          have o3 : Own wc B (.slice (some ⟨gg, 0, none⟩) 327677 c) ([40, 124] ++ repL 65535) := (ho.out.below yy).below yc
          have t3 := (t8.ext yy).ext yc
          have hgB : Hid (B ≤ gg) := by
            rcases ho.out.2 with ⟨e, _⟩ | ⟨g, _, _, e, hB9, _⟩
            · cases e
            · have : g = gg := by injection e with e; injection e with e; injection e with e; exact e.symm
              rw [this] at hB9; exact hB9
          clear d0 d1 d2 d3 d4 d5 d6 d7 d8 q2 hCh2 yy yc hP1 t8 ho x8 hcvX hr
          have hcvX : (convert 38 9 (.slice (some ⟨gg, 0, none⟩) 327677 c)).run Tryz.prog wc = .ok (.string X) wc := by
            have := o3.conv
            rwa [← hXe.out] at this
          have hP2 := hPa.out wc x3 (X ++ ⟨#[40, 97, 61, 98, 41, 41]⟩)
          rw [hg2h.out] at hP2
          go_wp2_with fail
          go_at_call 4
          refine hP2.mono ?_
          rintro _ w4 ⟨y4, ge2, rfl, hge2, hfe2⟩
          try dsimp only
          have x4 := x3.trans y4
          have o4 := o3.below y4
          have t4 := t3.ext y4
          have hTo := told_hit w4 ge2 3 327677 ⟨#[40]⟩ (hEr.out w4 x4) hfe2 (by decide)
          unfold errV at hTo ⊢
          clear hP2 hge2 hfe2 hcvX o3 t3 x3
          go_wp2_with fail
          go_at_call 6
          refine hTo.mono ?_
          rintro _ w5 ⟨rfl, y5⟩
          try dsimp only
          have x5 := x4.trans y5
          have o5 := o4.below y5
          have t5 := t4.ext y5
          clear hTo o4 t4 x4 y4 y5
          obtain ⟨a0, a1, a2, az⟩ := t5.cells
          go_upto_region 24 with fail
          have hHT := hHTh.out
          have v1 : FtAt (w5.setCell ⟨HT, 0, none⟩ (.int .i64 3)) HT 3 128 ⟨#[40]⟩ := heap_setCell_at w5 HT 0 _ _ _ _ t5
          have v2 : FtAt ((w5.setCell ⟨HT, 0, none⟩ (.int .i64 3)).setCell ⟨HT, 1, none⟩ (.int .i64 327677)) HT 3 327677 ⟨#[40]⟩ := heap_setCell_at _ HT 1 _ _ _ _ v1
          have v3 : FtAt (((w5.setCell ⟨HT, 0, none⟩ (.int .i64 3)).setCell ⟨HT, 1, none⟩ (.int .i64 327677)).setCell ⟨HT, 2, none⟩ (.string ⟨#[40]⟩)) HT 3 327677 ⟨#[40]⟩ := heap_setCell_at _ HT 2 _ _ _ _ v2
          have z3 : Ext w (((w5.setCell ⟨HT, 0, none⟩ (.int .i64 3)).setCell ⟨HT, 1, none⟩ (.int .i64 327677)).setCell ⟨HT, 2, none⟩ (.string ⟨#[40]⟩)) := ((x5.setNew (p := ⟨HT, 0, none⟩) hHT _).setNew (p := ⟨HT, 1, none⟩) hHT _).setNew (p := ⟨HT, 2, none⟩) hHT _
          have o6 : Own (((w5.setCell ⟨HT, 0, none⟩ (.int .i64 3)).setCell ⟨HT, 1, none⟩ (.int .i64 327677)).setCell ⟨HT, 2, none⟩ (.string ⟨#[40]⟩)) B (.slice (some ⟨gg, 0, none⟩) 327677 c) ([40, 124] ++ repL 65535) := by
            refine own_like o5 (fun g hg => ?_)
            have hgl := (World.ownsRow.lt o5 g hg).2
            have hgg : g = gg := by simpa [Value.ownBlock, eq_comm] using hg
            have hne : ¬ g = HT := by have := hgB.out; have := hHTB.out; omega
            exact (((setOnly w5 HT 0 _).then (setOnly _ HT 1 _)).then (setOnly _ HT 2 _)).block g hgl hne
          clear v1 v2 t5 a0 a1 a2 az x5 o5
          generalize ((w5.setCell ⟨HT, 0, none⟩ (.int .i64 3)).setCell ⟨HT, 1, none⟩ (.int .i64 327677)).setCell ⟨HT, 2, none⟩ (.string ⟨#[40]⟩) = w6 at v3 z3 o6 ⊢
          have hcap : 327677 ≤ c := by
            rcases o6.2 with ⟨e, _⟩ | ⟨g, cap, cur, e, _, _, h1, _⟩
            · cases e
            · have e1 : c = cap := by injection e
              rw [List.length_append, repL_len] at h1
              rw [e1]; exact h1
          have k1 : ¬ c < 2 := by omega
          have k2 : ¬ c < 327672 := by omega
          have k3 : (2 : Int) ≤ (c : Int) := by omega
          have k4 : (327672 : Int) ≤ (c : Int) := by omega
          have k5 : ¬ c = 2 := by omega
          have k6 : IntKind.i64.wrap 327672 = 327672 := by rw [IntKind.wrap_i64]; rfl
          have hsub : ∀ W, Own W B (.slice (some ⟨gg, 0, none⟩) 327677 c) ([40, 124] ++ repL 65535) → (convert 38 9 (.slice (some ⟨gg, 0, none⟩) 2 c)).run Tryz.prog W = .ok (.string ⟨#[40, 124]⟩) W ∧ (convert 38 9 (.slice (some ⟨gg, 2, none⟩) 327670 (c - 2))).run Tryz.prog W = .ok (.string Y) W := fun W oW => by
            refine ⟨own_conv_sub oW 0 2 c [40, 124] rfl rfl, ?_⟩
            rw [hY.out]
            exact own_conv_sub oW 2 327670 (c - 2) (repL 65534) (rep_part 65534) ((repL_len 65534).symm)
          have hS1 : (convert 38 9 (.slice (some ⟨gg, 0, none⟩) 2 c)).run Tryz.prog w6.drew = .ok (.string ⟨#[40, 124]⟩) w6.drew ∧ (convert 38 9 (.slice (some ⟨gg, 2, none⟩) 327670 (c - 2))).run Tryz.prog w6.drew = .ok (.string Y) w6.drew := hsub _ o6.drew
          have hS1a : ∀ o, (convert 38 9 (.slice (some ⟨gg, 0, none⟩) 2 c)).run Tryz.prog (w6.drew.alloc o) = .ok (.string ⟨#[40, 124]⟩) (w6.drew.alloc o) ∧ (convert 38 9 (.slice (some ⟨gg, 2, none⟩) 327670 (c - 2))).run Tryz.prog (w6.drew.alloc o) = .ok (.string Y) (w6.drew.alloc o) := fun o => hsub _ (o6.drew.alloc o)
          have zd := z3.drew
          have hPH := fun W (y : Ext w W) => hPa.out W y ((⟨#[40, 124]⟩ : ByteArray) ++ ⟨#[40, 33, 40, 97, 61, 98, 41, 41]⟩ ++ Y ++ ⟨#[41]⟩)
          rw [hg3h.out] at hPH
          have hmix : Tryz.prog.follows Departure.mixedOrders = true := by kernel_rfl
          have v3h : Hid (FtAt w6 HT 3 327677 ⟨#[40]⟩) := v3
          have hckn : Hid ((checkL (nodeO 1) (notF 65534)).1 = 0 ∧ (checkL (nodeO 1) (notF 65534)).2.1 = 65536) := not_check 65534 (by omega)
          have hYh : Hid (Y = str (repL 65534)) := hY.out
          have od := o6.drew
          have vd : FtAt w6.drew HT 3 327677 ⟨#[40]⟩ := v3
          clear hg3h hXe hXs hYs hcap o6 v3 z3 hS1a v3h
          generalize notF 65534 = kz at hPH hckn
          refine wp_region_last (fun w' => (convert 38 9 (.slice (some ⟨gg, 0, none⟩) 2 c)).run Tryz.prog w' = .ok (.string ⟨#[40, 124]⟩) w' ∧ (convert 38 9 (.slice (some ⟨gg, 2, none⟩) 327670 (c - 2))).run Tryz.prog w' = .ok (.string Y) w') 18 hmix ?_
          change wpAnyT _ _ _ _ _ _ 19 _ _ w6.drew
          have hSw : (convert 38 9 (.slice (some ⟨gg, 0, none⟩) 2 c)).run Tryz.prog w6.drew = .ok (.string ⟨#[40, 124]⟩) w6.drew ∧ (convert 38 9 (.slice (some ⟨gg, 2, none⟩) 327670 (c - 2))).run Tryz.prog w6.drew = .ok (.string Y) w6.drew := hS1
          clear hS1
          generalize w6.drew = w7 at hSw zd od vd ⊢
          refine wpAnyT_take (i := 0) (v := ?_) rfl (by kernel_rfl) (by kernel_rfl) (by kernel_rfl) (by kernel_rfl) (fun _ _ _ h => h) (Or.inl ⟨by rfl, ?hy0⟩) hSw ?_
          case hy0 => (intro w' hSw'; obtain ⟨q0, q1⟩ := hSw'; go_simp; try with_reducible rfl)
          dsimp only [Act.put, List.getElem_toArray, List.getElem_cons_zero, List.getElem_cons_succ]
          simp only [List.setIfInBounds_toArray, List.set_cons_zero, List.set_cons_succ]
          refine wpAnyT_take (i := 1) (v := ?_) rfl (by kernel_rfl) (by kernel_rfl) (by kernel_rfl) (by kernel_rfl) (fun _ _ _ h => h) (Or.inl ⟨by rfl, ?hy1⟩) hSw ?_
          case hy1 => (intro w' hSw'; obtain ⟨q0, q1⟩ := hSw'; go_simp; try with_reducible rfl)
          dsimp only [Act.put, List.getElem_toArray, List.getElem_cons_zero, List.getElem_cons_succ]
          simp only [List.setIfInBounds_toArray, List.set_cons_zero, List.set_cons_succ]
          refine wpAnyT_take (i := 2) (v := ?_) rfl (by kernel_rfl) (by kernel_rfl) (by kernel_rfl) (by kernel_rfl) (fun _ _ _ h => h) (Or.inl ⟨by rfl, ?hy2⟩) hSw ?_
          case hy2 => (intro w' hSw'; obtain ⟨q0, q1⟩ := hSw'; go_simp; try with_reducible rfl)
          dsimp only [Act.put, List.getElem_toArray, List.getElem_cons_zero, List.getElem_cons_succ]
          simp only [List.setIfInBounds_toArray, List.set_cons_zero, List.set_cons_succ]
          refine wpAnyT_take (i := 3) (v := ?_) rfl (by kernel_rfl) (by kernel_rfl) (by kernel_rfl) (by kernel_rfl) (fun _ _ _ h => h) (Or.inl ⟨by rfl, ?hy3⟩) hSw ?_
          case hy3 => (intro w' hSw'; obtain ⟨q0, q1⟩ := hSw'; go_simp; try with_reducible rfl)
          dsimp only [Act.put, List.getElem_toArray, List.getElem_cons_zero, List.getElem_cons_succ]
          simp only [List.setIfInBounds_toArray, List.set_cons_zero, List.set_cons_succ]
          refine wpAnyT_take (i := 4) (v := ?_) rfl (by kernel_rfl) (by kernel_rfl) (by kernel_rfl) (by kernel_rfl) (fun _ _ _ h => h) (Or.inl ⟨by rfl, ?hy4⟩) hSw ?_
          case hy4 => (intro w' hSw'; obtain ⟨q0, q1⟩ := hSw'; go_simp; try with_reducible rfl)
          dsimp only [Act.put, List.getElem_toArray, List.getElem_cons_zero, List.getElem_cons_succ]
          simp only [List.setIfInBounds_toArray, List.set_cons_zero, List.set_cons_succ]
          refine wpAnyT_take (i := 5) (v := ?_) rfl (by kernel_rfl) (by kernel_rfl) (by kernel_rfl) (by kernel_rfl) (fun _ _ _ h => h) (Or.inl ⟨by rfl, ?hy5⟩) hSw ?_
          case hy5 => (intro w' hSw'; obtain ⟨q0, q1⟩ := hSw'; go_simp; try with_reducible rfl)
          dsimp only [Act.put, List.getElem_toArray, List.getElem_cons_zero, List.getElem_cons_succ]
          simp only [List.setIfInBounds_toArray, List.set_cons_zero, List.set_cons_succ]
          refine wpAnyT_take (i := 6) (v := ?_) rfl (by kernel_rfl) (by kernel_rfl) (by kernel_rfl) (by kernel_rfl) (fun _ _ _ h => h) (Or.inl ⟨by rfl, ?hy6⟩) hSw ?_
          case hy6 => (intro w' hSw'; obtain ⟨q0, q1⟩ := hSw'; go_simp; try with_reducible rfl)
          dsimp only [Act.put, List.getElem_toArray, List.getElem_cons_zero, List.getElem_cons_succ]
          simp only [List.setIfInBounds_toArray, List.set_cons_zero, List.set_cons_succ]
          refine wpAnyT_take (i := 7) (v := ?_) rfl (by kernel_rfl) (by kernel_rfl) (by kernel_rfl) (by kernel_rfl) (fun _ _ _ h => h) (Or.inl ⟨by rfl, ?hy7⟩) hSw ?_
          case hy7 => (intro w' hSw'; obtain ⟨q0, q1⟩ := hSw'; go_simp; try with_reducible rfl)
          dsimp only [Act.put, List.getElem_toArray, List.getElem_cons_zero, List.getElem_cons_succ]
          simp only [List.setIfInBounds_toArray, List.set_cons_zero, List.set_cons_succ]
          refine wpAnyT_take (i := 8) (v := ?_) rfl (by kernel_rfl) (by kernel_rfl) (by kernel_rfl) (by kernel_rfl) (fun _ _ _ h => h) (Or.inl ⟨by rfl, ?hy8⟩) hSw ?_
          case hy8 => (intro w' hSw'; obtain ⟨q0, q1⟩ := hSw'; go_simp; try with_reducible rfl)
          dsimp only [Act.put, List.getElem_toArray, List.getElem_cons_zero, List.getElem_cons_succ]
          simp only [List.setIfInBounds_toArray, List.set_cons_zero, List.set_cons_succ]
          refine wpAnyT_take (i := 9) (v := ?_) rfl (by kernel_rfl) (by kernel_rfl) (by kernel_rfl) (by kernel_rfl) (fun _ _ _ h => h) (Or.inl ⟨by rfl, ?hy9⟩) hSw ?_
          case hy9 => (intro w' hSw'; obtain ⟨q0, q1⟩ := hSw'; go_simp; try with_reducible rfl)
          dsimp only [Act.put, List.getElem_toArray, List.getElem_cons_zero, List.getElem_cons_succ]
          simp only [List.setIfInBounds_toArray, List.set_cons_zero, List.set_cons_succ]
          refine wpAnyT_take (i := 10) (v := ?_) rfl (by kernel_rfl) (by kernel_rfl) (by kernel_rfl) (by kernel_rfl) (fun _ _ _ h => h) (Or.inl ⟨by rfl, ?hy10⟩) hSw ?_
          case hy10 => (intro w' hSw'; obtain ⟨q0, q1⟩ := hSw'; go_simp; try with_reducible rfl)
          dsimp only [Act.put, List.getElem_toArray, List.getElem_cons_zero, List.getElem_cons_succ]
          simp only [List.setIfInBounds_toArray, List.set_cons_zero, List.set_cons_succ]
          refine wpAnyT_take (i := 11) (v := ?_) rfl (by kernel_rfl) (by kernel_rfl) (by kernel_rfl) (by kernel_rfl) (fun _ _ _ h => h) (Or.inl ⟨by rfl, ?hy11⟩) hSw ?_
          case hy11 => (intro w' hSw'; obtain ⟨q0, q1⟩ := hSw'; go_simp; try with_reducible rfl)
          dsimp only [Act.put, List.getElem_toArray, List.getElem_cons_zero, List.getElem_cons_succ]
          simp only [List.setIfInBounds_toArray, List.set_cons_zero, List.set_cons_succ]
          refine wpAnyT_two (i := 12) (j := 16) rfl rfl (by kernel_rfl) ?_ ?_
          · rw [if_pos (by rfl)]
            go_simp
            go_at_call 4
            refine (hPH _ zd).mono ?_
            rintro _ wh ⟨yh, f, rfl, hf⟩
            obtain ⟨gO, gK⟩ := hf.self
            have hfh0 : Hid (FOwn wh f (nodeO 1) ∧ FKids wh f kz) := ⟨gO, gK⟩
            clear hf gO gK
            obtain ⟨kind, ka, kn, kc, desc, value, start, ma, mn, mc, fin, rule, dn⟩ := f
            simp only [F9.arr]
            have hfh : Hid (FOwn wh ⟨kind, ka, kn, kc, desc, value, start, ma, mn, mc, fin, rule, dn⟩ (nodeO 1) ∧ FKids wh ⟨kind, ka, kn, kc, desc, value, start, ma, mn, mc, fin, rule, dn⟩ kz) := hfh0
            clear hfh0
            try dsimp only
            have oh := od.below yh
            have vh := vd.ext yh
            have xh := zd.trans yh
            have hSw := hsub _ oh
            refine ⟨hSw, ?_⟩
            clear hPH zd od vd
            refine wpAnyT_take (i := 13) (v := ?_) rfl (by kernel_rfl) (by kernel_rfl) (by kernel_rfl) (by kernel_rfl) (fun _ _ _ h => h) (Or.inl ⟨by rfl, ?hy13⟩) hSw ?_
            case hy13 => (intro w' hSw'; obtain ⟨q0, q1⟩ := hSw'; go_simp; try with_reducible rfl)
            dsimp only [Act.put, List.getElem_toArray, List.getElem_cons_zero, List.getElem_cons_succ]
            simp only [List.setIfInBounds_toArray, List.set_cons_zero, List.set_cons_succ]
            refine wpAnyT_take (i := 14) (v := ?_) rfl (by kernel_rfl) (by kernel_rfl) (by kernel_rfl) (by kernel_rfl) (fun _ _ _ h => h) (Or.inl ⟨by rfl, ?hy14⟩) hSw ?_
            case hy14 => (intro w' hSw'; obtain ⟨q0, q1⟩ := hSw'; go_simp; try with_reducible rfl)
            dsimp only [Act.put, List.getElem_toArray, List.getElem_cons_zero, List.getElem_cons_succ]
            simp only [List.setIfInBounds_toArray, List.set_cons_zero, List.set_cons_succ]
            refine wpAnyT_take (i := 15) (v := ?_) rfl (by kernel_rfl) (by kernel_rfl) (by kernel_rfl) (by kernel_rfl) (fun _ _ _ h => h) (Or.inl ⟨by rfl, ?hy15⟩) hSw ?_
            case hy15 => (intro w' hSw'; obtain ⟨q0, q1⟩ := hSw'; go_simp; try with_reducible rfl)
            dsimp only [Act.put, List.getElem_toArray, List.getElem_cons_zero, List.getElem_cons_succ]
            simp only [List.setIfInBounds_toArray, List.set_cons_zero, List.set_cons_succ]
            refine wpAnyT_one (i := 16) rfl (by kernel_rfl) ?_
            rw [if_pos (by rfl)]
            go_simp
            have z9 : FlT (wh.alloc (.cells #[.int .i8 0, .slice none 0 0, .string ⟨#[]⟩, .string ⟨#[]⟩, .string ⟨#[]⟩, .slice none 0 0, .string ⟨#[]⟩, .string ⟨#[]⟩, .bool false] 26)) wh.heap.size F9.zero := fl_new wh
            have o9 : Own (wh.alloc (.cells #[.int .i8 0, .slice none 0 0, .string ⟨#[]⟩, .string ⟨#[]⟩, .string ⟨#[]⟩, .slice none 0 0, .string ⟨#[]⟩, .string ⟨#[]⟩, .bool false] 26)) B (.slice (some ⟨gg, 0, none⟩) 327677 c) ([40, 124] ++ repL 65535) := oh.alloc _
            have v9 : FtAt (wh.alloc (.cells #[.int .i8 0, .slice none 0 0, .string ⟨#[]⟩, .string ⟨#[]⟩, .string ⟨#[]⟩, .slice none 0 0, .string ⟨#[]⟩, .string ⟨#[]⟩, .bool false] 26)) HT 3 327677 ⟨#[40]⟩ := vh.ext ((Ext.refl wh).alloc _)
            have x9 := xh.alloc (.cells #[.int .i8 0, .slice none 0 0, .string ⟨#[]⟩, .string ⟨#[]⟩, .string ⟨#[]⟩, .slice none 0 0, .string ⟨#[]⟩, .string ⟨#[]⟩, .bool false] 26)
            have hE9 : Hid (Ext wh (wh.alloc (.cells #[.int .i8 0, .slice none 0 0, .string ⟨#[]⟩, .string ⟨#[]⟩, .string ⟨#[]⟩, .slice none 0 0, .string ⟨#[]⟩, .string ⟨#[]⟩, .bool false] 26))) := (Ext.refl wh).alloc _
            refine ⟨hsub _ o9, ?_⟩
            have hgA : ∀ g, (Value.slice (some ⟨gg, 0, none⟩) 327677 c).ownBlock = some g → g ≠ wh.heap.size := fun g hg => by have := (World.ownsRow.lt oh g hg).2; omega
            have hHA : ¬ HT = wh.heap.size := by have := (Array.getElem?_eq_some_iff.1 vh).1; omega
            have hwA : w.heap.size ≤ wh.heap.size := xh.size
            obtain ⟨A, hAe⟩ : ∃ A, Hid (A = wh.heap.size) := ⟨_, rfl⟩
            rw [← hAe.out] at z9 hgA hHA hwA ⊢
            have hAl : Hid (wh.heap.size ≤ A) := Nat.le_of_eq hAe.out.symm
            clear hSw oh vh xh yh
            generalize wh.alloc (.cells #[.int .i8 0, .slice none 0 0, .string ⟨#[]⟩, .string ⟨#[]⟩, .string ⟨#[]⟩, .slice none 0 0, .string ⟨#[]⟩, .string ⟨#[]⟩, .bool false] 26) = w9 at z9 o9 v9 x9 hE9 ⊢
            obtain ⟨zc0, zc1, zc2, zc3, zc4, zc5, zc6, zc7, zc8, zfz⟩ := z9.cells
            refine wpAnyT_one (i := 17) rfl (by kernel_rfl) ?_
            rw [if_pos (by rfl)]
            go_simp
            obtain ⟨w10, hw10⟩ : ∃ w10, w10 = (((((((((w9.setCell ⟨A, 0, none⟩ (.int .i8 kind)).setCell ⟨A, 1, none⟩ (.slice ka kn kc)).setCell ⟨A, 2, none⟩ (.string desc)).setCell ⟨A, 3, none⟩ (.string value)).setCell ⟨A, 4, none⟩ (.string start)).setCell ⟨A, 5, none⟩ (.slice ma mn mc)).setCell ⟨A, 6, none⟩ (.string fin)).setCell ⟨A, 7, none⟩ (.string rule)).setCell ⟨A, 8, none⟩ (.bool dn)) := ⟨_, rfl⟩
            rw [← hw10]
            have p10 : Only (fun g => g = A) w9 w10 := by rw [hw10]; exact put_only w9 A ⟨kind, ka, kn, kc, desc, value, start, ma, mn, mc, fin, rule, dn⟩
            have f10 : FlT w10 A ⟨kind, ka, kn, kc, desc, value, start, ma, mn, mc, fin, rule, dn⟩ := by rw [hw10]; exact z9.put ⟨kind, ka, kn, kc, desc, value, start, ma, mn, mc, fin, rule, dn⟩
            clear hw10 zc0 zc1 zc2 zc3 zc4 zc5 zc6 zc7 zc8 zfz
            have o10 : Own w10 B (.slice (some ⟨gg, 0, none⟩) 327677 c) ([40, 124] ++ repL 65535) := own_like o9 (fun g hg => p10.block g (World.ownsRow.lt o9 g hg).2 (by have := hgA g hg; omega))
            have v10 : FtAt w10 HT 3 327677 ⟨#[40]⟩ := v9.only p10 hHA
            have x10 : Ext w w10 := x9.then p10 (fun g hg => by omega)
            have hf10 : Hid (FOwn w10 ⟨kind, ka, kn, kc, desc, value, start, ma, mn, mc, fin, rule, dn⟩ (nodeO 1) ∧ FKids w10 ⟨kind, ka, kn, kc, desc, value, start, ma, mn, mc, fin, rule, dn⟩ kz) := by have y10 : Ext wh w10 := hE9.out.then p10 (fun g hg => by have := hAl.out; omega); exact ⟨hfh.out.1.ext y10, hfh.out.2.ext y10⟩
            refine ⟨hsub _ o10, ?_⟩
            clear o10 p10 z9 o9 v9 x9 hfh hE9
            refine wpAnyT_one (i := 18) rfl (by kernel_rfl) ?_
            rw [if_pos (by rfl)]
            go_simp
            refine wpAnyT_done (by kernel_rfl) ?_
            clear hsub hgA hHA hwA hHT hmix k1 k2 k3 k4 k5 k6 u1 u2 u3 u4
            (try clear hSw)
            (try clear hSw)
            have hCk := Check_any w10 (.agg (⟨kind, ka, kn, kc, desc, value, start, ma, mn, mc, fin, rule, dn⟩ : F9).arr) (nodeO 1) kz ⟨_, rfl, hf10.out.1, hf10.out.2⟩
            simp only [F9.arr] at hCk
            obtain ⟨d0, d1, d2, d3, d4, d5, d6, d7, d8, -⟩ := f10.cells
            simp only at d0 d1 d2 d3 d4 d5 d6 d7 d8
            obtain ⟨ck1, ck2⟩ := hckn.out
            generalize checkL (nodeO 1) kz = CK at hCk ck1 ck2
            obtain ⟨CK1, CK2, CK3⟩ := CK
            simp only at hCk ck1 ck2
            subst ck1 ck2
            go_wp2_with fail
            go_at_call 5
            refine hCk.mono ?_
            rintro _ w11 ⟨rfl, y11⟩
            try dsimp only
            have v11 := v10.ext y11
            have x11 := x10.trans y11
            clear d0 d1 d2 d3 d4 d5 d6 d7 d8 hCk y11 v10 f10
            obtain ⟨a0, a1, a2, -⟩ := v11.cells
            go_wp2_with fail
            go_at_call 7
            refine (hWk w11 x11).mono ?_
            rintro _ w12 ⟨rfl, y12⟩
            try dsimp only
            go_wp2
            go_ret
            exact ⟨rfl, x11.trans y12⟩
          · rw [if_pos (by rfl)]
            go_simp
            have oa : Own (w7.alloc (.cells #[.int .i8 0, .slice none 0 0, .string ⟨#[]⟩, .string ⟨#[]⟩, .string ⟨#[]⟩, .slice none 0 0, .string ⟨#[]⟩, .string ⟨#[]⟩, .bool false] 26)) B (.slice (some ⟨gg, 0, none⟩) 327677 c) ([40, 124] ++ repL 65535) := od.alloc _
            have hSw : (convert 38 9 (.slice (some ⟨gg, 0, none⟩) 2 c)).run Tryz.prog (w7.alloc (.cells #[.int .i8 0, .slice none 0 0, .string ⟨#[]⟩, .string ⟨#[]⟩, .string ⟨#[]⟩, .slice none 0 0, .string ⟨#[]⟩, .string ⟨#[]⟩, .bool false] 26)) = .ok (.string ⟨#[40, 124]⟩) (w7.alloc (.cells #[.int .i8 0, .slice none 0 0, .string ⟨#[]⟩, .string ⟨#[]⟩, .string ⟨#[]⟩, .slice none 0 0, .string ⟨#[]⟩, .string ⟨#[]⟩, .bool false] 26)) ∧ (convert 38 9 (.slice (some ⟨gg, 2, none⟩) 327670 (c - 2))).run Tryz.prog (w7.alloc (.cells #[.int .i8 0, .slice none 0 0, .string ⟨#[]⟩, .string ⟨#[]⟩, .string ⟨#[]⟩, .slice none 0 0, .string ⟨#[]⟩, .string ⟨#[]⟩, .bool false] 26)) = .ok (.string Y) (w7.alloc (.cells #[.int .i8 0, .slice none 0 0, .string ⟨#[]⟩, .string ⟨#[]⟩, .string ⟨#[]⟩, .slice none 0 0, .string ⟨#[]⟩, .string ⟨#[]⟩, .bool false] 26)) := hsub _ oa
            refine ⟨hSw, ?_⟩
            have za := zd.alloc (.cells #[.int .i8 0, .slice none 0 0, .string ⟨#[]⟩, .string ⟨#[]⟩, .string ⟨#[]⟩, .slice none 0 0, .string ⟨#[]⟩, .string ⟨#[]⟩, .bool false] 26)
            have va : FtAt (w7.alloc (.cells #[.int .i8 0, .slice none 0 0, .string ⟨#[]⟩, .string ⟨#[]⟩, .string ⟨#[]⟩, .slice none 0 0, .string ⟨#[]⟩, .string ⟨#[]⟩, .bool false] 26)) HT 3 327677 ⟨#[40]⟩ := vd.ext ((Ext.refl w7).alloc _)
            have fa := fl_new w7
            have hgA : ∀ g, (Value.slice (some ⟨gg, 0, none⟩) 327677 c).ownBlock = some g → g ≠ w7.heap.size := fun g hg => by have := (World.ownsRow.lt od g hg).2; omega
            have hHA : ¬ HT = w7.heap.size := by have := (Array.getElem?_eq_some_iff.1 vd).1; omega
            have hwA : w.heap.size ≤ w7.heap.size := zd.size
            obtain ⟨A, hAe⟩ : ∃ A, Hid (A = w7.heap.size) := ⟨_, rfl⟩
            rw [← hAe.out] at fa hgA hHA hwA ⊢
            clear od vd zd hAe
            generalize w7.alloc (.cells #[.int .i8 0, .slice none 0 0, .string ⟨#[]⟩, .string ⟨#[]⟩, .string ⟨#[]⟩, .slice none 0 0, .string ⟨#[]⟩, .string ⟨#[]⟩, .bool false] 26) = w8 at oa hSw za va fa ⊢
            refine wpAnyT_one (i := 12) rfl (by kernel_rfl) ?_
            rw [if_pos (by rfl)]
            go_simp
            go_at_call 4
            refine (hPH _ za).mono ?_
            rintro _ w9 ⟨yh, f, rfl, hf⟩
            have hK9 : Hid (FKeep (news w8 w9) w9 f (nodeO 1) kz) := hf
            clear hf
            obtain ⟨kind, ka, kn, kc, desc, value, start, ma, mn, mc, fin, rule, dn⟩ := f
            simp only [F9.arr]
            try dsimp only
            have o9 := oa.below yh
            have v9 := va.ext yh
            have x9 := za.trans yh
            have z9 := fa.ext yh
            have hA8 : Hid (A < w8.heap.size) := fa.lt
            have hSw := hsub _ o9
            refine ⟨hSw, ?_⟩
            clear hPH oa va za fa yh
            refine wpAnyT_take (i := 13) (v := ?_) rfl (by kernel_rfl) (by kernel_rfl) (by kernel_rfl) (by kernel_rfl) (fun _ _ _ h => h) (Or.inl ⟨by rfl, ?hy13⟩) hSw ?_
            case hy13 => (intro w' hSw'; obtain ⟨q0, q1⟩ := hSw'; go_simp; try with_reducible rfl)
            dsimp only [Act.put, List.getElem_toArray, List.getElem_cons_zero, List.getElem_cons_succ]
            simp only [List.setIfInBounds_toArray, List.set_cons_zero, List.set_cons_succ]
            refine wpAnyT_take (i := 14) (v := ?_) rfl (by kernel_rfl) (by kernel_rfl) (by kernel_rfl) (by kernel_rfl) (fun _ _ _ h => h) (Or.inl ⟨by rfl, ?hy14⟩) hSw ?_
            case hy14 => (intro w' hSw'; obtain ⟨q0, q1⟩ := hSw'; go_simp; try with_reducible rfl)
            dsimp only [Act.put, List.getElem_toArray, List.getElem_cons_zero, List.getElem_cons_succ]
            simp only [List.setIfInBounds_toArray, List.set_cons_zero, List.set_cons_succ]
            refine wpAnyT_take (i := 15) (v := ?_) rfl (by kernel_rfl) (by kernel_rfl) (by kernel_rfl) (by kernel_rfl) (fun _ _ _ h => h) (Or.inl ⟨by rfl, ?hy15⟩) hSw ?_
            case hy15 => (intro w' hSw'; obtain ⟨q0, q1⟩ := hSw'; go_simp; try with_reducible rfl)
            dsimp only [Act.put, List.getElem_toArray, List.getElem_cons_zero, List.getElem_cons_succ]
            simp only [List.setIfInBounds_toArray, List.set_cons_zero, List.set_cons_succ]
            obtain ⟨zc0, zc1, zc2, zc3, zc4, zc5, zc6, zc7, zc8, zfz⟩ := z9.cells
            refine wpAnyT_one (i := 17) rfl (by kernel_rfl) ?_
            rw [if_pos (by rfl)]
            go_simp
            obtain ⟨w10, hw10⟩ : ∃ w10, w10 = (((((((((w9.setCell ⟨A, 0, none⟩ (.int .i8 kind)).setCell ⟨A, 1, none⟩ (.slice ka kn kc)).setCell ⟨A, 2, none⟩ (.string desc)).setCell ⟨A, 3, none⟩ (.string value)).setCell ⟨A, 4, none⟩ (.string start)).setCell ⟨A, 5, none⟩ (.slice ma mn mc)).setCell ⟨A, 6, none⟩ (.string fin)).setCell ⟨A, 7, none⟩ (.string rule)).setCell ⟨A, 8, none⟩ (.bool dn)) := ⟨_, rfl⟩
            rw [← hw10]
            have p10 : Only (fun g => g = A) w9 w10 := by rw [hw10]; exact put_only w9 A ⟨kind, ka, kn, kc, desc, value, start, ma, mn, mc, fin, rule, dn⟩
            have f10 : FlT w10 A ⟨kind, ka, kn, kc, desc, value, start, ma, mn, mc, fin, rule, dn⟩ := by rw [hw10]; exact z9.put ⟨kind, ka, kn, kc, desc, value, start, ma, mn, mc, fin, rule, dn⟩
            clear hw10 zc0 zc1 zc2 zc3 zc4 zc5 zc6 zc7 zc8 zfz
            have o10 : Own w10 B (.slice (some ⟨gg, 0, none⟩) 327677 c) ([40, 124] ++ repL 65535) := own_like o9 (fun g hg => p10.block g (World.ownsRow.lt o9 g hg).2 (by have := hgA g hg; omega))
            have v10 : FtAt w10 HT 3 327677 ⟨#[40]⟩ := v9.only p10 hHA
            have x10 : Ext w w10 := x9.then p10 (fun g hg => by omega)
            have hf10 : Hid (FOwn w10 ⟨kind, ka, kn, kc, desc, value, start, ma, mn, mc, fin, rule, dn⟩ (nodeO 1) ∧ FKids w10 ⟨kind, ka, kn, kc, desc, value, start, ma, mn, mc, fin, rule, dn⟩ kz) := hK9.out _ (fun g hg => p10.block g hg.2 (by have := hg.1; have := hA8.out; omega))
            refine ⟨hsub _ o10, ?_⟩
            clear o10 p10 z9 o9 v9 x9 hK9
            refine wpAnyT_one (i := 18) rfl (by kernel_rfl) ?_
            rw [if_pos (by rfl)]
            go_simp
            refine wpAnyT_done (by kernel_rfl) ?_
            clear hsub hgA hHA hwA hHT hmix k1 k2 k3 k4 k5 k6 u1 u2 u3 u4
            (try clear hSw)
            (try clear hSw)
            have hCk := Check_any w10 (.agg (⟨kind, ka, kn, kc, desc, value, start, ma, mn, mc, fin, rule, dn⟩ : F9).arr) (nodeO 1) kz ⟨_, rfl, hf10.out.1, hf10.out.2⟩
            simp only [F9.arr] at hCk
            obtain ⟨d0, d1, d2, d3, d4, d5, d6, d7, d8, -⟩ := f10.cells
            simp only at d0 d1 d2 d3 d4 d5 d6 d7 d8
            obtain ⟨ck1, ck2⟩ := hckn.out
            generalize checkL (nodeO 1) kz = CK at hCk ck1 ck2
            obtain ⟨CK1, CK2, CK3⟩ := CK
            simp only at hCk ck1 ck2
            subst ck1 ck2
            go_wp2_with fail
            go_at_call 5
            refine hCk.mono ?_
            rintro _ w11 ⟨rfl, y11⟩
            try dsimp only
            have v11 := v10.ext y11
            have x11 := x10.trans y11
            clear d0 d1 d2 d3 d4 d5 d6 d7 d8 hCk y11 v10 f10
            obtain ⟨a0, a1, a2, -⟩ := v11.cells
            go_wp2_with fail
            go_at_call 7
            refine (hWk w11 x11).mono ?_
            rintro _ w12 ⟨rfl, y12⟩
            try dsimp only
            go_wp2
            go_ret
            exact ⟨rfl, x11.trans y12⟩
end Go.Proofs.YtkfmlijlfdaobaaGreatDoor
