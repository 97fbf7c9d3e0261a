/-
  name.appendPair at any text.
-/
import Derived.Test.YtfonmpahbjijeaaGreatDoorNap
import Derived.Test.YtfonmpahbjijeaaGreatDoorShelf5ToNut
import Derived.Test.YtfonmpahbjijeaaGreatDoorNprint
namespace Go.Proofs.YtfonmpahbjijeaaGreatDoor
open Go.RowKit

theorem Own.ext7 {w w' : World} {B : Nat} {v : Value} {l : List UInt8} (h : Own w B v l) (x : Ext w w') : Own w' B v l := by
  refine ⟨h.1, ?_⟩
  rcases h.2 with h1 | ⟨g, cap, cur, rfl, hb, hg, r⟩
  · exact .inl h1
  · exact .inr ⟨g, cap, cur, rfl, hb, (x.block g (Array.getElem?_eq_some_iff.1 hg).1).trans hg, r⟩
theorem fr_ext {B : Nat} {w w' : World} (hB : B ≤ w.heap.size) (x : Ext w w') : Fr B w w' := ⟨Below.mono x hB, fun g _ h _ _ => (x.block g (Array.getElem?_eq_some_iff.1 h).1).trans h⟩
set_option maxRecDepth 100000 in
set_option maxHeartbeats 4000000 in
theorem appendPair_x (w0 w : World) (B : Nat) (v : Value) (l : List UInt8) (hown : Own w B v l) (hB : B ≤ w.heap.size) (hB0 : w0.heap.size ≤ B) (hx0 : Ext w0 w) (g off cap : Nat) (ht : Tab w0 g off cap) (a : Av) (h1 : a.t.size ≤ 1000000000) (h2 : a.v.size ≤ 1000000000) (h3 : l.length ≤ 1000000000)
    (dz : List UInt8 → Nat) (hz : DzOk dz) (hd : ∀ k, k < a.v.size → DecX w0 (a.v.extract k a.v.size) (dz ((byt a.v).drop k))) :
    Calls Tryz.prog 33 #[v, .agg #[.string a.t, .string a.v]] w fun e w' => ∃ v', e = .returned v' ∧ Own w' B v' (l ++ pairL dz a) ∧ Fr B w w' := by
  obtain ⟨tt, s⟩ := a
  simp only at h1 h2 hd ⊢
  have hva := fun w1 (x : Ext w0 w1) (t : ByteArray) (h : t.size ≤ 1000000000) => Valid_any w1 g off cap (ht.ext x) t (by omega)
  have hhx := fun w1 (t : ByteArray) (h : t.size ≤ 1000000000) => Hex_any w1 t (by omega)
  have hib := nIndexByte
  clear ht
  have hbx := heap_alloc_new w (.cells #[.string tt, .string s] 56)
  have hall := valGo_len hz (byt s).length (byt s) true
  go_enter Tryz.func33, Tryz.ntmps33
  go_wp2_with (at_builtin; refine Hid.out ?_)
  refine wpList_pushS rfl _ _ rfl B _ l (hown.alloc _) (by simp; omega) rfl _ rfl (by omega) ?_
  intro v3 w3 ho3 hr3
  have hs3 := hr3.1.size
  go_wp2_with (at_builtin; refine Hid.out ?_)
  refine wpList_push rfl _ _ rfl w3 B _ _ [61] _ ho3 (by simp at hs3; omega) rfl _ _ rfl rfl rfl (by rw [List.length_append, byt_length]; simp; omega) ?_
  intro v4 w4 ho4 hr4
  have hr04 : Fr B (w.alloc (.cells #[.string tt, .string s] 56)) w4 := hr3.trans hr4
  have hb4 : w4.heap[w.heap.size]? = some (.cells #[.string tt, .string s] 56 (0, 0)) := hr04.2 _ _ hbx (fun e => by cases e) (fun _ _ e => by cases e)
  have d0 := cell_of_row _ _ 0 _ _ _ hb4
  have d1 := cell_of_row _ _ 1 _ _ _ hb4
  simp only [List.getElem?_toArray, List.getElem?_cons_zero, List.getElem?_cons_succ] at d0 d1
  clear ho3 hr3 hs3 hr4
  go_wp2
  have hbyl : (byt s).length = s.size := byt_length s
  have hsw : (w.alloc (.cells #[.string tt, .string s] 56)).heap.size = w.heap.size + 1 := World.size_alloc _ _
  go_loopw [0, 6] (fun x i wr => ∃ (p : Nat) (acc : List UInt8), p ≤ s.size ∧ i = .int .i64 p ∧ Own wr B x (l ++ byt tt ++ [61] ++ acc) ∧ Hid (acc ++ valL dz (decide (p = 0)) ((byt s).drop p) = valL dz true (byt s)) ∧ Fr B (w.alloc (.cells #[.string tt, .string s] 56)) wr) (fun _ i _ => s.size - (intOf i).toNat)
  case atStart => exact ⟨0, [], Nat.zero_le _, rfl, by rw [List.append_nil]; exact ho4, by show _ = _; simp, hr04⟩
  case round =>
    obtain ⟨p, acc, hp, rfl, hw5, HI, hr5⟩ := hrel
    clear ho4 hr04 hb4 d0 d1
    have hb5 : wr.heap[w.heap.size]? = some (.cells #[.string tt, .string s] 56 (0, 0)) := hr5.2 _ _ hbx (fun e => by cases e) (fun _ _ e => by cases e)
    have d0 := cell_of_row _ _ 0 _ _ _ hb5
    have d1 := cell_of_row _ _ 1 _ _ _ hb5
    simp only [List.getElem?_toArray, List.getElem?_cons_zero, List.getElem?_cons_succ] at d0 d1
    have hs5 := hr5.1.size
    rw [hsw] at hs5
    by_cases hlt : p < s.size
    · have hlt' : (p : Int) ≤ (s.size : Int) - 1 := by omega
      have hne : (byt s).drop p ≠ [] := by intro e; have := congrArg List.length e; rw [List.length_drop, hbyl] at this; simp at this; omega
      have hzz := hz _ hne
      rw [List.length_drop, hbyl] at hzz
      have hdp := hd p hlt
      have hst := valL_step hz (decide (p = 0)) _ hne
      generalize hn : dz ((byt s).drop p) = n at *
      clear hd hn
      have x05 : Ext w0 wr := Below.trans hx0 (Below.mono ((Fr.refl B w).alloc hB (.cells #[.string tt, .string s] 56)).1 hB0 |>.trans (Below.mono hr5.1 hB0))
      have hBwr : B ≤ wr.heap.size := by omega
      have hdx : Calls Tryz.prog 61 #[.string (s.extract p s.size)] wr fun e w' => ∃ r, e = .returned (.tuple #[.int .i32 r, .int .i64 n]) ∧ Hid (Ext wr w') ∧ w'.cell? ⟨w.heap.size, 0, none⟩ = some (.string tt) ∧ w'.cell? ⟨w.heap.size, 1, none⟩ = some (.string s) := by
        refine (hdp _ x05).mono ?_
        rintro _ w' ⟨r, rfl, x⟩
        exact ⟨r, rfl, x, x.cell d0, x.cell d1⟩
      go_upto_region 9 with (go_at_call 61; refine hdx.mono ?_; rintro _ w6 ⟨r6, rfl, x6, d0', d1'⟩)
      have hw6 := Own.ext7 hw5 x6.out
      have hr6 := hr5.trans (fr_ext hBwr x6.out)
      clear hw5 hr5 hb5 d0 d1 hs5 x05 hBwr x6 hdx d0' d1'
      have hw5 := hw6
      have hr5 := hr6
      clear hw6 hr6
      have hb5 : w6.heap[w.heap.size]? = some (.cells #[.string tt, .string s] 56 (0, 0)) := hr5.2 _ _ hbx (fun e => by cases e) (fun _ _ e => by cases e)
      have d0 := cell_of_row _ _ 0 _ _ _ hb5
      have d1 := cell_of_row _ _ 1 _ _ _ hb5
      simp only [List.getElem?_toArray, List.getElem?_cons_zero, List.getElem?_cons_succ] at d0 d1
      have hs5 := hr5.1.size
      rw [hsw] at hs5
      have hs1 : 0 < (s.extract p (p + n)).size := by rw [ByteArray.size_extract]; omega
      have hsg2 : byt (s.extract p (p + n)) = ((byt s).drop p).take n := by rw [byt_extract, Nat.add_sub_cancel_left]
      have hhead0 : (byt (s.extract p (p + n))).headD 0 = (s.extract p (p + n))[0]'hs1 := head_at6 _ hs1
      have hsgz : (s.extract p (p + n)).size = n := by rw [ByteArray.size_extract]; omega
      generalize hb : (s.extract p (p + n))[0]'hs1 = b at *
      clear hs1 hb
      generalize s.extract p (p + n) = sg at *
      have hhead : (byt sg).headD 0 = b := hhead0
      have hsgs : sg.size ≤ 1000000000 := by omega
      have hpz : (byt s).length - p = ((byt s).drop p).length := by rw [List.length_drop]
      have HJ : Hid (acc ++ (signL (decide (p = 0)) (decide ((byt s).length - p = 1)) (byt sg) ++ valL dz false ((byt s).drop (p + n))) = valL dz true (byt s)) := by
        show _ = _
        rw [← HI.out, hst, hsg2, hpz, List.drop_drop]
      have hfin : Hid (acc.length ≤ 3000000000) := by
        show _ ≤ _
        have e1 := congrArg List.length HI.out
        rw [List.length_append] at e1
        have e2 : (valL dz true (byt s)).length ≤ 3 * (byt s).length := hall
        omega
      have hzr : (b.toNat : Int) < 256 := by have := b.toNat_lt; omega
      have hz0 : (0 : Int) ≤ (b.toNat : Int) := by omega
      have hz32 : Hid ((b.toNat : Int) < 32 ↔ b < 32) := by show _ ↔ _; rw [UInt8.lt_iff_toNat_lt]; show _ ↔ b.toNat < 32; omega
      have hzE : Hid (∀ k : Nat, k < 256 → ((b.toNat : Int) = k ↔ b = UInt8.ofNat k)) := by
        intro k hk
        constructor
        · intro e
          have e2 : b.toNat = k := by omega
          rw [← e2, UInt8.ofNat_toNat]
        · intro e
          rw [e, UInt8.toNat_ofNat', Nat.mod_eq_of_lt hk]
      have hsp0 := fun w => hib w ⟨#[34, 43, 44, 59, 60, 62, 92]⟩ (b.toNat : Int)
      have hbb : ((b.toNat : Int)).toNat.toUInt8 = b := by rw [Int.toNat_natCast]; exact UInt8.ofNat_toNat
      rw [hbb] at hsp0
      clear hbb hib
      have hqs0 : (0 ≤ Lib.indexByte [34, 43, 44, 59, 60, 62, 92] b) ↔ (specB b = true) := ib_mem b _
      have hsp : ∀ w, Calls Tryz.prog 64 #[.string ⟨#[34, 43, 44, 59, 60, 62, 92]⟩, .int .u8 (b.toNat : Int)] w fun e w' => e = .returned (.int .i64 (Lib.indexByte [34, 43, 44, 59, 60, 62, 92] b)) ∧ w' = w := hsp0
      clear hsp0
      generalize Lib.indexByte [34, 43, 44, 59, 60, 62, 92] b = q at *
      have hqs : Hid (0 ≤ q ↔ specB b = true) := hqs0
      clear hqs0
      generalize (b.toNat : Int) = z at *
      have hvx := hva w6 (Below.trans hx0 (Below.mono ((Fr.refl B w).alloc hB (.cells #[.string tt, .string s] 56)).1 hB0 |>.trans (Below.mono hr5.1 hB0))) sg hsgs
      obtain ⟨vb, hvb⟩ : ∃ vb, vb = validL (byt sg) := ⟨_, rfl⟩
      rw [← hvb] at hvx
      have hvbh : Hid (vb = validL (byt sg)) := hvb
      clear hvb hva hdp hst hsg2 hhead0 hne HI hpz hall hown hz hbx
      have e127 := (hzE.out 127 (by decide))
      have e32 := (hzE.out 32 (by decide))
      have e35 := (hzE.out 35 (by decide))
      have E127 : Hid (z = 127 ↔ b = 127) := e127
      have E32 : Hid (z = 32 ↔ b = 32) := e32
      have E35 : Hid (z = 35 ↔ b = 35) := e35
      clear e127 e32 e35 hzE
      have hpn : (p : Int) + (n : Int) ≤ (s.size : Int) := by omega
      by_cases a1 : z < 32
      · go_wp2_with (first | (go_at_call 62; refine hvx.mono ?_; rintro _ w7 ⟨rfl, hf7⟩) | (at_builtin; refine Hid.out ?_))
        have ho7 := hw5
        have hf07 := hr5
        refine wpList_push rfl _ _ rfl w6 B _ _ [92] _ ho7 (by have := hf07.1.size; rw [hsw] at this; omega) rfl _ _ rfl rfl rfl (by have := hfin.out; simp only [List.length_append, byt_length, List.length_cons, List.length_nil]; omega) ?_
        intro v8 w8 ho8 hr8
        have hf08 := hf07.trans hr8
        go_wp2_with (first | (go_at_call 63; refine (hhx w8 sg hsgs).mono ?_; rintro _ w9 ⟨rfl, hf9⟩) | (at_builtin; refine Hid.out ?_))
        have hf09 := hf08.trans (hf9.mono (by have := hf08.1.size; rw [hsw] at this; omega))
        refine wpList_pushS rfl _ _ rfl B _ _ (ho8.below hf9.1) (by have := hf09.1.size; rw [hsw] at this; omega) rfl _ rfl (by have := hfin.out; simp only [List.length_append, byt_length]; rw [← byt_length (str _), byt_str, hexL_length, byt_length]; simp only [List.length_cons, List.length_nil]; omega) ?_
        intro v10 w10 ho10 hr10
        go_wp2
        go_roundw
        · refine ⟨p + n, acc ++ 92 :: hexL (byt sg), by omega, by go_num, ?_, ?_, hf09.trans hr10⟩
          · rw [byt_str] at ho10; simpa [List.append_assoc] using ho10
          · have h9 := signL_hex (f := decide (p = 0)) (l := decide ((byt s).length - p = 1)) hhead (.inl (hz32.out.1 a1))
            have := HJ.out
            rw [h9] at this
            show _ = _
            rw [decide_eq_false (by omega), ← this]
            simp [List.append_assoc]
        · simp [intOf]; omega
      · have nb32 : ¬ b < 32 := fun e => a1 (hz32.out.2 e)
        by_cases a2 : z = 127
        · have hb127 := E127.out.1 a2
          have hb127h : Hid (b = 127) := hb127
          clear hb127
          subst a2
          go_wp2_with (first | (go_at_call 62; refine hvx.mono ?_; rintro _ w7 ⟨rfl, hf7⟩) | (at_builtin; refine Hid.out ?_))
          have ho7 := hw5
          have hf07 := hr5
          refine wpList_push rfl _ _ rfl w6 B _ _ [92] _ ho7 (by have := hf07.1.size; rw [hsw] at this; omega) rfl _ _ rfl rfl rfl (by have := hfin.out; simp only [List.length_append, byt_length, List.length_cons, List.length_nil]; omega) ?_
          intro v8 w8 ho8 hr8
          have hf08 := hf07.trans hr8
          go_wp2_with (first | (go_at_call 63; refine (hhx w8 sg hsgs).mono ?_; rintro _ w9 ⟨rfl, hf9⟩) | (at_builtin; refine Hid.out ?_))
          have hf09 := hf08.trans (hf9.mono (by have := hf08.1.size; rw [hsw] at this; omega))
          refine wpList_pushS rfl _ _ rfl B _ _ (ho8.below hf9.1) (by have := hf09.1.size; rw [hsw] at this; omega) rfl _ rfl (by have := hfin.out; simp only [List.length_append, byt_length]; rw [← byt_length (str _), byt_str, hexL_length, byt_length]; simp only [List.length_cons, List.length_nil]; omega) ?_
          intro v10 w10 ho10 hr10
          go_wp2
          go_roundw
          · refine ⟨p + n, acc ++ 92 :: hexL (byt sg), by omega, by go_num, ?_, ?_, hf09.trans hr10⟩
            · rw [byt_str] at ho10; simpa [List.append_assoc] using ho10
            · have h9 := signL_hex (f := decide (p = 0)) (l := decide ((byt s).length - p = 1)) hhead (.inr (.inl hb127h.out))
              have := HJ.out
              rw [h9] at this
              show _ = _
              rw [decide_eq_false (by omega), ← this]
              simp [List.append_assoc]
          · simp [intOf]; omega
        · have nb127 : ¬ b = 127 := fun e => a2 (E127.out.2 e)
          cases vb with
          | false =>
            go_wp2_with (first | (go_at_call 62; refine hvx.mono ?_; rintro _ w7 ⟨rfl, hf7⟩) | (at_builtin; refine Hid.out ?_))
            have ho7 := hw5.below hf7.1
            have hf07 := hr5.trans (hf7.mono (by omega))
            refine wpList_push rfl _ _ rfl w7 B _ _ [92] _ ho7 (by have := hf07.1.size; rw [hsw] at this; omega) rfl _ _ rfl rfl rfl (by have := hfin.out; simp only [List.length_append, byt_length, List.length_cons, List.length_nil]; omega) ?_
            intro v8 w8 ho8 hr8
            have hf08 := hf07.trans hr8
            go_wp2_with (first | (go_at_call 63; refine (hhx w8 sg hsgs).mono ?_; rintro _ w9 ⟨rfl, hf9⟩) | (at_builtin; refine Hid.out ?_))
            have hf09 := hf08.trans (hf9.mono (by have := hf08.1.size; rw [hsw] at this; omega))
            refine wpList_pushS rfl _ _ rfl B _ _ (ho8.below hf9.1) (by have := hf09.1.size; rw [hsw] at this; omega) rfl _ rfl (by have := hfin.out; simp only [List.length_append, byt_length]; rw [← byt_length (str _), byt_str, hexL_length, byt_length]; simp only [List.length_cons, List.length_nil]; omega) ?_
            intro v10 w10 ho10 hr10
            go_wp2
            go_roundw
            · refine ⟨p + n, acc ++ 92 :: hexL (byt sg), by omega, by go_num, ?_, ?_, hf09.trans hr10⟩
              · rw [byt_str] at ho10; simpa [List.append_assoc] using ho10
              · have h9 := signL_hex (f := decide (p = 0)) (l := decide ((byt s).length - p = 1)) hhead (.inr (.inr hvbh.out.symm))
                have := HJ.out
                rw [h9] at this
                show _ = _
                rw [decide_eq_false (by omega), ← this]
                simp [List.append_assoc]
            · simp [intOf]; omega
          | true =>
            have hvt : Hid (validL (byt sg) = true) := hvbh.out.symm
            by_cases hq : 0 ≤ q
            · go_wp2_with (first | (go_at_call 62; refine hvx.mono ?_; rintro _ w7 ⟨rfl, hf7⟩) | (go_at_call 64; refine (hsp _).mono ?_; rintro _ wq ⟨rfl, hwq⟩; subst wq) | (at_builtin; refine Hid.out ?_))
              have ho7 := hw5.below hf7.1
              have hf07 := hr5.trans (hf7.mono (by omega))
              refine wpList_push rfl _ _ rfl w7 B _ _ [92] _ ho7 (by have := hf07.1.size; rw [hsw] at this; omega) rfl _ _ rfl rfl rfl (by have := hfin.out; simp only [List.length_append, byt_length, List.length_cons, List.length_nil]; omega) ?_
              intro v8 w8 ho8 hr8
              have hf08 := hf07.trans hr8
              go_wp2_with (at_builtin; refine Hid.out ?_)
              refine wpList_pushS rfl _ _ rfl B _ _ ho8 (by have := hf08.1.size; rw [hsw] at this; omega) rfl _ rfl (by have := hfin.out; simp only [List.length_append, byt_length, List.length_cons, List.length_nil]; omega) ?_
              intro v10 w10 ho10 hr10
              go_wp2
              go_roundw
              · refine ⟨p + n, acc ++ 92 :: byt sg, by omega, by go_num, ?_, ?_, hf08.trans hr10⟩
                · simpa [List.append_assoc] using ho10
                · have h9 := signL_esc (f := decide (p = 0)) (l := decide ((byt s).length - p = 1)) hhead nb32 nb127 hvt.out (.inl (hqs.out.1 hq))
                  have := HJ.out
                  rw [h9] at this
                  show _ = _
                  rw [decide_eq_false (by omega), ← this]
                  simp [List.append_assoc]
              · simp [intOf]; omega
            · have hspf : Hid (specB b = false) := bool_eq_false (fun e => hq (hqs.out.2 e))
              by_cases a3 : z = 32
              · have hb32h : Hid (b = 32) := E32.out.1 a3
                subst a3
                by_cases hp0 : p = 0
                · have hp0h : Hid (p = 0) := hp0
                  have hp0' : (p : Int) = 0 := by omega
                  clear hp0
                  go_wp2_with (first | (go_at_call 62; refine hvx.mono ?_; rintro _ w7 ⟨rfl, hf7⟩) | (go_at_call 64; refine (hsp _).mono ?_; rintro _ wq ⟨rfl, hwq⟩; subst wq) | (at_builtin; refine Hid.out ?_))
                  have ho7 := hw5.below hf7.1
                  have hf07 := hr5.trans (hf7.mono (by omega))
                  refine wpList_push rfl _ _ rfl w7 B _ _ [92] _ ho7 (by have := hf07.1.size; rw [hsw] at this; omega) rfl _ _ rfl rfl rfl (by have := hfin.out; simp only [List.length_append, byt_length, List.length_cons, List.length_nil]; omega) ?_
                  intro v8 w8 ho8 hr8
                  have hf08 := hf07.trans hr8
                  go_wp2_with (at_builtin; refine Hid.out ?_)
                  refine wpList_pushS rfl _ _ rfl B _ _ ho8 (by have := hf08.1.size; rw [hsw] at this; omega) rfl _ rfl (by have := hfin.out; simp only [List.length_append, byt_length, List.length_cons, List.length_nil]; omega) ?_
                  intro v10 w10 ho10 hr10
                  go_wp2
                  go_roundw
                  · refine ⟨p + n, acc ++ 92 :: byt sg, by omega, by go_num, ?_, ?_, hf08.trans hr10⟩
                    · simpa [List.append_assoc] using ho10
                    · have h9 := signL_esc (f := decide (p = 0)) (l := decide ((byt s).length - p = 1)) hhead nb32 nb127 hvt.out (.inr (.inl ⟨hb32h.out, .inl (by simp [hp0h.out])⟩))
                      have := HJ.out
                      rw [h9] at this
                      show _ = _
                      rw [decide_eq_false (by omega), ← this]
                      simp [List.append_assoc]
                  · simp [intOf]; omega
                · have hp0' : ¬ (p : Int) = 0 := by omega
                  by_cases hpl : p + 1 = s.size
                  · have hpl' : (p : Int) = (s.size : Int) - 1 := by omega
                    have hplh : Hid (p + 1 = s.size) := hpl
                    clear hpl
                    go_wp2_with (first | (go_at_call 62; refine hvx.mono ?_; rintro _ w7 ⟨rfl, hf7⟩) | (go_at_call 64; refine (hsp _).mono ?_; rintro _ wq ⟨rfl, hwq⟩; subst wq) | (at_builtin; refine Hid.out ?_))
                    have ho7 := hw5.below hf7.1
                    have hf07 := hr5.trans (hf7.mono (by omega))
                    refine wpList_push rfl _ _ rfl w7 B _ _ [92] _ ho7 (by have := hf07.1.size; rw [hsw] at this; omega) rfl _ _ rfl rfl rfl (by have := hfin.out; simp only [List.length_append, byt_length, List.length_cons, List.length_nil]; omega) ?_
                    intro v8 w8 ho8 hr8
                    have hf08 := hf07.trans hr8
                    go_wp2_with (at_builtin; refine Hid.out ?_)
                    refine wpList_pushS rfl _ _ rfl B _ _ ho8 (by have := hf08.1.size; rw [hsw] at this; omega) rfl _ rfl (by have := hfin.out; simp only [List.length_append, byt_length, List.length_cons, List.length_nil]; omega) ?_
                    intro v10 w10 ho10 hr10
                    go_wp2
                    go_roundw
                    · refine ⟨p + n, acc ++ 92 :: byt sg, by omega, by go_num, ?_, ?_, hf08.trans hr10⟩
                      · simpa [List.append_assoc] using ho10
                      · have h9 := signL_esc (f := decide (p = 0)) (l := decide ((byt s).length - p = 1)) hhead nb32 nb127 hvt.out (.inr (.inl ⟨hb32h.out, .inr (by have := hplh.out; simp; omega)⟩))
                        have := HJ.out
                        rw [h9] at this
                        show _ = _
                        rw [decide_eq_false (by omega), ← this]
                        simp [List.append_assoc]
                    · simp [intOf]; omega
                  · have hpl' : ¬ (p : Int) = (s.size : Int) - 1 := by omega
                    have hpl2 : ((p : Int) == (s.size : Int) - 1) = false := by simpa using hpl'
                    have hpl3 : ¬ (p : Int) + 1 = (s.size : Int) := by omega
                    have hpl4 : decide ((p : Int) = (s.size : Int) - 1) = false := by simpa using hpl'
                    go_wp2_with (first | (go_at_call 62; refine hvx.mono ?_; rintro _ w7 ⟨rfl, hf7⟩) | (go_at_call 64; refine (hsp _).mono ?_; rintro _ wq ⟨rfl, hwq⟩; subst wq) | (at_builtin; refine Hid.out ?_))
                    have ho7 := hw5.below hf7.1
                    have hf07 := hr5.trans (hf7.mono (by omega))
                    refine wpList_pushS rfl _ _ rfl B _ _ ho7 (by have := hf07.1.size; rw [hsw] at this; omega) rfl _ rfl (by have := hfin.out; simp only [List.length_append, byt_length, List.length_cons, List.length_nil]; omega) ?_
                    intro v10 w10 ho10 hr10
                    go_wp2
                    go_roundw
                    · refine ⟨p + n, acc ++ byt sg, by omega, by go_num, ?_, ?_, hf07.trans hr10⟩
                      · simpa [List.append_assoc] using ho10
                      · have h9 := signL_pl (f := decide (p = 0)) (l := decide ((byt s).length - p = 1)) hhead nb32 nb127 hvt.out hspf.out (by rintro ⟨_, e | e⟩ <;> simp at e <;> omega) (by rintro ⟨e, _⟩; rw [hb32h.out] at e; cases e)
                        have := HJ.out
                        rw [h9] at this
                        show _ = _
                        rw [decide_eq_false (by omega), ← this]
                        simp [List.append_assoc]
                    · simp [intOf]; omega
              · have nb3 : ¬ b = 32 := fun e => a3 (E32.out.2 e)
                by_cases a4 : z = 35
                · have hb35h : Hid (b = 35) := E35.out.1 a4
                  subst a4
                  by_cases hp0 : p = 0
                  · have hp0h : Hid (p = 0) := hp0
                    have hp0' : (p : Int) = 0 := by omega
                    clear hp0
                    go_wp2_with (first | (go_at_call 62; refine hvx.mono ?_; rintro _ w7 ⟨rfl, hf7⟩) | (go_at_call 64; refine (hsp _).mono ?_; rintro _ wq ⟨rfl, hwq⟩; subst wq) | (at_builtin; refine Hid.out ?_))
                    have ho7 := hw5.below hf7.1
                    have hf07 := hr5.trans (hf7.mono (by omega))
                    refine wpList_push rfl _ _ rfl w7 B _ _ [92] _ ho7 (by have := hf07.1.size; rw [hsw] at this; omega) rfl _ _ rfl rfl rfl (by have := hfin.out; simp only [List.length_append, byt_length, List.length_cons, List.length_nil]; omega) ?_
                    intro v8 w8 ho8 hr8
                    have hf08 := hf07.trans hr8
                    go_wp2_with (at_builtin; refine Hid.out ?_)
                    refine wpList_pushS rfl _ _ rfl B _ _ ho8 (by have := hf08.1.size; rw [hsw] at this; omega) rfl _ rfl (by have := hfin.out; simp only [List.length_append, byt_length, List.length_cons, List.length_nil]; omega) ?_
                    intro v10 w10 ho10 hr10
                    go_wp2
                    go_roundw
                    · refine ⟨p + n, acc ++ 92 :: byt sg, by omega, by go_num, ?_, ?_, hf08.trans hr10⟩
                      · simpa [List.append_assoc] using ho10
                      · have h9 := signL_esc (f := decide (p = 0)) (l := decide ((byt s).length - p = 1)) hhead nb32 nb127 hvt.out (.inr (.inr ⟨hb35h.out, by simp [hp0h.out]⟩))
                        have := HJ.out
                        rw [h9] at this
                        show _ = _
                        rw [decide_eq_false (by omega), ← this]
                        simp [List.append_assoc]
                    · simp [intOf]; omega
                  · have hp0' : ¬ (p : Int) = 0 := by omega
                    go_wp2_with (first | (go_at_call 62; refine hvx.mono ?_; rintro _ w7 ⟨rfl, hf7⟩) | (go_at_call 64; refine (hsp _).mono ?_; rintro _ wq ⟨rfl, hwq⟩; subst wq) | (at_builtin; refine Hid.out ?_))
                    have ho7 := hw5.below hf7.1
                    have hf07 := hr5.trans (hf7.mono (by omega))
                    refine wpList_pushS rfl _ _ rfl B _ _ ho7 (by have := hf07.1.size; rw [hsw] at this; omega) rfl _ rfl (by have := hfin.out; simp only [List.length_append, byt_length, List.length_cons, List.length_nil]; omega) ?_
                    intro v10 w10 ho10 hr10
                    go_wp2
                    go_roundw
                    · refine ⟨p + n, acc ++ byt sg, by omega, by go_num, ?_, ?_, hf07.trans hr10⟩
                      · simpa [List.append_assoc] using ho10
                      · have h9 := signL_pl (f := decide (p = 0)) (l := decide ((byt s).length - p = 1)) hhead nb32 nb127 hvt.out hspf.out (fun e => nb3 e.1) (by rintro ⟨_, e⟩; simp at e; omega)
                        have := HJ.out
                        rw [h9] at this
                        show _ = _
                        rw [decide_eq_false (by omega), ← this]
                        simp [List.append_assoc]
                    · simp [intOf]; omega
                · have nb5 : ¬ b = 35 := fun e => a4 (E35.out.2 e)
                  go_wp2_with (first | (go_at_call 62; refine hvx.mono ?_; rintro _ w7 ⟨rfl, hf7⟩) | (go_at_call 64; refine (hsp _).mono ?_; rintro _ wq ⟨rfl, hwq⟩; subst wq) | (at_builtin; refine Hid.out ?_))
                  have ho7 := hw5.below hf7.1
                  have hf07 := hr5.trans (hf7.mono (by omega))
                  refine wpList_pushS rfl _ _ rfl B _ _ ho7 (by have := hf07.1.size; rw [hsw] at this; omega) rfl _ rfl (by have := hfin.out; simp only [List.length_append, byt_length, List.length_cons, List.length_nil]; omega) ?_
                  intro v10 w10 ho10 hr10
                  go_wp2
                  go_roundw
                  · refine ⟨p + n, acc ++ byt sg, by omega, by go_num, ?_, ?_, hf07.trans hr10⟩
                    · simpa [List.append_assoc] using ho10
                    · have h9 := signL_pl (f := decide (p = 0)) (l := decide ((byt s).length - p = 1)) hhead nb32 nb127 hvt.out hspf.out (fun e => nb3 e.1) (fun e => nb5 e.1)
                      have := HJ.out
                      rw [h9] at this
                      show _ = _
                      rw [decide_eq_false (by omega), ← this]
                      simp [List.append_assoc]
                  · simp [intOf]; omega
    · have hlt' : ¬ (p : Int) ≤ (s.size : Int) - 1 := by omega
      have hacc : Hid (l ++ byt tt ++ [61] ++ acc = l ++ pairL dz ⟨tt, s⟩) := by
        show _ = _
        have := HI.out
        rw [List.drop_of_length_le (by omega), valL_nil, List.append_nil] at this
        rw [this]
        simp [pairL, List.append_assoc]
      clear hva hhx hib
      go_wp2
      go_ret
      rw [← hacc.out]
      exact ⟨_, rfl, hw5, ((Fr.refl B w).alloc hB _).trans hr5⟩
end Go.Proofs.YtfonmpahbjijeaaGreatDoor

/-
  name.Print at any name.
-/
namespace Go.Proofs.YtfonmpahbjijeaaGreatDoor
open Go.RowKit

set_option maxRecDepth 100000 in
set_option maxHeartbeats 4000000 in
theorem Print_x (w : World) (qv : Value) (us : List Value) (pts : List (List Av)) (hv : NmIn w qv us pts) (hf : ∀ l ∈ pts, Fits l) (g off cap : Nat) (ht : Tab w g off cap)
    (dz : List UInt8 → Nat) (hz : DzOk dz) (hd : ∀ l ∈ pts, ∀ a ∈ l, ∀ k, k < a.v.size → DecX w (a.v.extract k a.v.size) (dz ((byt a.v).drop k))) :
    Calls Tryz.prog 15 #[.agg #[qv]] w fun e w' => e = .returned (.tuple #[.string (str (printP dz pts).1), .int .i64 (printP dz pts).2]) ∧ Ext w w' := by
  have hsl := hv.sl
  obtain ⟨a, n, c, rfl, hn⟩ := hsl.shape
  have hb0 := heap_alloc_new w (.cells #[.slice a n c] 24)
  have hnp : Hid (n = pts.length) := by show _ = _; rw [← hv.len]; exact hn.out
  have hx0 := (Ext.refl w).alloc (.cells #[.slice a n c] 24)
  have hch := check_any _ _ us pts (hv.ext hx0) hf
  obtain ⟨hlen0, hnc, hnm⟩ := hsl.len
  clear hlen0 hsl
  obtain ⟨ck, hck⟩ : ∃ ck, ck = checkN pts := ⟨_, rfl⟩
  rw [← hck] at hch
  have hckh : Hid (ck = checkN pts) := hck
  clear hck
  by_cases h0 : ck = 0
  · have hgo : Hid (printP dz pts = match ptsGo dz [] true pts with | none => ([], 3) | some o => if 65536 < o.length then ([], 3) else (o, 0)) := by
      show _ = _
      unfold printP
      rw [if_neg (by rw [← hckh.out, h0]; simp)]
      cases ptsGo dz [] true pts <;> rfl
    subst h0
    go_enter Tryz.func15, Tryz.ntmps15
    go_wp2_with (go_at_call 32; refine hch.mono ?_; rintro _ w1 ⟨rfl, x1⟩; have hcb : w1.cell? ⟨w.heap.size, 0, none⟩ = some (.slice a n c) := boxed hb0 x1)
    have H8 : Hid (pts.length ≤ 64 ∧ ∀ l ∈ pts, l.length ≤ 8) := check_zero hckh.out.symm
    have hn64 : n ≤ 64 := by rw [hnp.out]; exact H8.out.1
    have hx1 : Ext w w1 := hx0.trans x1
    go_loopw [5, 18] (fun x i wr => ∃ (k : Nat) (acc : List UInt8), k ≤ n ∧ i = .int .i64 k ∧ Own wr w.heap.size x acc ∧ Hid (ptsGo dz acc (decide (k = 0)) (pts.drop k) = ptsGo dz [] true pts) ∧ acc.length ≤ 200000 + k ∧ Ext w wr) (fun _ i _ => n - (intOf i).toNat)
    case atStart => exact ⟨0, [], Nat.zero_le _, rfl, World.ownsRow_nil _ _ _ _, rfl, by simp, hx1⟩
    case round =>
      obtain ⟨k, acc, hk, rfl, ho, HI, hla, hx⟩ := hrel
      clear hx1 hcb
      by_cases hlt : k < n
      · have hlt' : (k : Int) < (n : Int) := by omega
        have hkp : k < pts.length := by rw [← hnp.out]; exact hlt
        obtain ⟨g3, o3, ua, un, uc, rfl, e0, hav0, hun⟩ := (hv.ext hx).at k hkp
        have hav : AvSl w (.slice ua un uc) pts[k] := by
          obtain ⟨g4, o4, ua4, un4, uc4, e1, e2, h4, _⟩ := hv.at k hkp
          cases e1
          have := hx.cell e2
          rw [e0] at this
          cases this
          exact h4
        clear hav0
        have hun8 : un ≤ 8 := by rw [hun.out]; exact H8.out.2 _ (List.getElem_mem hkp)
        have hdr := drop_cons6 pts k hkp
        have hnu : un ≤ uc := by obtain ⟨a', n', c', e, _, h⟩ := hav.shape; cases e; exact h
        rw [hdr] at HI
        by_cases hk0 : k = 0
        · have hk0' : ¬ (0 : Int) < (k : Int) := by omega
          have HP : Hid (avsGo dz acc true pts[k] = none → printP dz pts = ([], 3)) := by
            intro h
            have := HI.out
            rw [decide_eq_true hk0] at this
            simp only [ptsGo, if_true, h] at this
            rw [hgo.out, ← this]
          have HQ : Hid ((match avsGo dz acc true pts[k] with | none => none | some o => ptsGo dz o false (pts.drop (k + 1))) = ptsGo dz [] true pts) := by
            have := HI.out
            rw [decide_eq_true hk0] at this
            simp only [ptsGo, if_true] at this
            exact this
          have hk0h : Hid (k = 0) := hk0
          clear HI hdr hk0
          go_wp2
          go_loopw [5, 31] (fun x i wr => ∃ (j : Nat) (acc' : List UInt8), j ≤ un ∧ i = .int .i64 j ∧ Own wr w.heap.size x acc' ∧ Hid (avsGo dz acc' (decide (j = 0)) (pts[k].drop j) = avsGo dz acc true pts[k]) ∧ acc'.length ≤ 200001 + k ∧ Ext w wr) (fun _ i _ => un - (intOf i).toNat)
          case atStart => exact ⟨0, _, Nat.zero_le _, rfl, (ho.alloc _), rfl, (by omega), (hx.alloc _)⟩
          case round =>
            obtain ⟨j, acc2, hj, rfl, ho4, HI2, hl4, hx4⟩ := hrel
            obtain ⟨sa, sc, hse⟩ := own_shape ho4
            subst hse
            by_cases hlt2 : j < un
            · have hlt3 : j < un := hlt2
              have hlt2' : (j : Int) < (un : Int) := by omega
              have hjp : j < pts[k].length := by rw [← hun.out]; exact hlt2
              obtain ⟨g5, o5, rfl, e5, e6⟩ := (hav.ext hx4).at j hjp
              have hmem : pts[k][j] ∈ pts[k] := List.getElem_mem hjp
              have hkm : pts[k] ∈ pts := List.getElem_mem hkp
              have hfx := hf _ hkm _ hmem
              have hdx := hd _ hkm _ hmem
              have hst := drop_cons6 pts[k] j hjp
              obtain ⟨x, hx⟩ : ∃ x, x = pts[k][j] := ⟨_, rfl⟩
              rw [← hx] at e5 e6 hfx hdx hst
              obtain ⟨tx, vx⟩ := x
              simp only at e5 e6 hfx hdx
              clear hx hmem hkm
              obtain ⟨hfx1, hfx2⟩ := hfx
              have hpl : vx.size < 65536 → (pairL dz ⟨tx, vx⟩).length ≤ tx.size + 1 + 3 * vx.size := by
                intro _
                have h9 := valGo_len hz (byt vx).length (byt vx) true
                have e9 : (pairL dz ⟨tx, vx⟩).length = tx.size + 1 + (valGo dz (byt vx).length true (byt vx)).length := by simp [pairL, valL, byt_length]; omega
                rw [byt_length] at h9
                rw [e9, byt_length]
                omega
              have hap := fun W v acc (ho : Own W w.heap.size v acc) (hs : w.heap.size ≤ W.heap.size) (hxx : Ext w W) (q1 : tx.size ≤ 1000000000) (q2 : vx.size ≤ 1000000000) (q3 : acc.length ≤ 1000000000) => appendPair_x w W w.heap.size v acc ho hs (Nat.le_refl _) hxx g off cap ht ⟨tx, vx⟩ q1 q2 q3 dz hz hdx
              simp only at hap
              clear hdx e0
              rw [hst] at HI2
              by_cases hj0 : j = 0
              · have hj0' : ¬ (0 : Int) < (j : Int) := by omega
                have HN : Hid (65536 ≤ acc2.length + tx.size + vx.size → printP dz pts = ([], 3)) := by
                  intro hbig
                  have := HI2.out
                  rw [decide_eq_true hj0] at this
                  simp only [avsGo, if_true] at this
                  rw [if_pos hbig] at this
                  exact HP.out this.symm
                have HY : Hid (¬ 65536 ≤ acc2.length + tx.size + vx.size → avsGo dz (acc2 ++ pairL dz ⟨tx, vx⟩) (decide (j + 1 = 0)) (pts[k].drop (j + 1)) = avsGo dz acc true pts[k]) := by
                  intro hbig
                  have := HI2.out
                  rw [decide_eq_true hj0] at this
                  simp only [avsGo, if_true] at this
                  rw [if_neg hbig] at this
                  rw [decide_eq_false (by omega)]
                  exact this
                have hj0h : Hid (j = 0) := hj0
                clear hj0 HI2 hst
                by_cases hbig : 65536 ≤ (acc2).length + tx.size + vx.size
                · have hbig' : (65536 : Int) ≤ ((acc2).length : Int) + (tx.size : Int) + (vx.size : Int) := by omega
                  have hr : Hid (printP dz pts = ([], 3)) := HN.out hbig
                  clear hap
                  go_wp2
                  go_ret2
                  exact ⟨by rw [hr.out]; rfl, (hx4.alloc _)⟩
                · have hbig' : ¬ (65536 : Int) ≤ ((acc2).length : Int) + (tx.size : Int) + (vx.size : Int) := by omega
                  have hap2 := hap (wr.alloc (.cells #[.string tx, .string vx] 56)) _ _ (ho4.alloc _) (by have := hx4.size; simp only [World.size_alloc]; omega) (hx4.alloc _) (by omega) (by omega) (by omega)
                  clear hap
                  go_wp2_with (go_at_call 33; refine hap2.mono ?_; rintro _ w8 ⟨v8, rfl, ho8, hf8⟩)
                  go_roundw
                  · refine ⟨j + 1, _, hlt3, by go_num, ho8, HY.out hbig, ?_, Below.trans (hx4.alloc _) hf8.1⟩
                    rw [List.length_append]
                    have := hpl (by omega)
                    omega
                  · simp [intOf]; omega
              · have hj0' : (0 : Int) < (j : Int) := by omega
                have HN : Hid (65536 ≤ (acc2 ++ [43]).length + tx.size + vx.size → printP dz pts = ([], 3)) := by
                  intro hbig
                  have := HI2.out
                  rw [decide_eq_false hj0] at this
                  simp only [avsGo, Bool.false_eq_true, if_false] at this
                  rw [if_pos hbig] at this
                  exact HP.out this.symm
                have HY : Hid (¬ 65536 ≤ (acc2 ++ [43]).length + tx.size + vx.size → avsGo dz (acc2 ++ [43] ++ pairL dz ⟨tx, vx⟩) (decide (j + 1 = 0)) (pts[k].drop (j + 1)) = avsGo dz acc true pts[k]) := by
                  intro hbig
                  have := HI2.out
                  rw [decide_eq_false hj0] at this
                  simp only [avsGo, Bool.false_eq_true, if_false] at this
                  rw [if_neg hbig] at this
                  rw [decide_eq_false (by omega)]
                  exact this
                clear HI2 hst
                go_wp2_with (at_builtin; refine Hid.out ?_)
                refine wpList_pushH rfl _ _ rfl (wr.alloc (.cells #[.string tx, .string vx] 56)) w.heap.size _ _ [43] _ (ho4.alloc _) (by have := hx4.size; simp only [World.size_alloc]; omega) rfl _ _ (wr.heap.size + 1) (World.size_alloc _ _) rfl rfl rfl (by simp only [List.length_cons, List.length_nil]; omega) ?_
                intro v6 w6 ho6 hf6
                have hb6 : w6.heap[wr.heap.size]? = some (.cells #[.string tx, .string vx] 56 (0, 0)) := hf6.2 _ _ (heap_alloc_new wr _) (fun e => by cases e) (fun _ _ e => by cases e)
                have c0 := cell_of_row _ _ 0 _ _ _ hb6
                have c1 := cell_of_row _ _ 1 _ _ _ hb6
                simp only [List.getElem?_toArray, List.getElem?_cons_zero, List.getElem?_cons_succ] at c0 c1
                have hx6 : Ext w w6 := Below.trans (hx4.alloc _) hf6.1
                obtain ⟨sa6, sc6, hse6⟩ := own_shape ho6
                subst hse6
                have hl6 : (acc2 ++ [43]).length ≤ 200002 + k := by simp; omega
                clear hb6 ho4 hx4 hf6 e5 e6 hl4
                generalize hA : acc2 ++ [43] = acc3 at *
                clear hA
                by_cases hbig : 65536 ≤ (acc3).length + tx.size + vx.size
                · have hbig' : (65536 : Int) ≤ ((acc3).length : Int) + (tx.size : Int) + (vx.size : Int) := by omega
                  have hr : Hid (printP dz pts = ([], 3)) := HN.out hbig
                  clear hap
                  go_wp2
                  go_ret2
                  exact ⟨by rw [hr.out]; rfl, hx6⟩
                · have hbig' : ¬ (65536 : Int) ≤ ((acc3).length : Int) + (tx.size : Int) + (vx.size : Int) := by omega
                  have hap2 := hap w6 _ _ ho6 (by have := hx6.size; omega) hx6 (by omega) (by omega) (by omega)
                  clear hap
                  go_wp2_with (go_at_call 33; refine hap2.mono ?_; rintro _ w8 ⟨v8, rfl, ho8, hf8⟩)
                  go_roundw
                  · refine ⟨j + 1, _, hlt3, by go_num, ho8, HY.out hbig, ?_, Below.trans hx6 hf8.1⟩
                    rw [List.length_append]
                    have := hpl (by omega)
                    omega
                  · simp [intOf]; omega
            · have hlt2' : ¬ (j : Int) < (un : Int) := by omega
              have HX : Hid (avsGo dz acc true pts[k] = some acc2) := by
                show _ = _
                rw [← HI2.out, List.drop_of_length_le (by rw [← hun.out]; omega)]
                rfl
              clear HI2
              go_wp2
              go_roundw
              · refine ⟨k + 1, acc2, hlt, by go_num, ho4, ?_, by omega, hx4⟩
                have := HQ.out
                rw [HX.out] at this
                show _ = _
                rw [decide_eq_false (by omega)]
                exact this
              · simp [intOf]; omega
        · have hk0' : (0 : Int) < (k : Int) := by omega
          have HP : Hid (avsGo dz (acc ++ [44]) true pts[k] = none → printP dz pts = ([], 3)) := by
            intro h
            have := HI.out
            rw [decide_eq_false hk0] at this
            simp only [ptsGo, Bool.false_eq_true, if_false, h] at this
            rw [hgo.out, ← this]
          have HQ : Hid ((match avsGo dz (acc ++ [44]) true pts[k] with | none => none | some o => ptsGo dz o false (pts.drop (k + 1))) = ptsGo dz [] true pts) := by
            have := HI.out
            rw [decide_eq_false hk0] at this
            simp only [ptsGo, Bool.false_eq_true, if_false] at this
            exact this
          clear HI hdr
          go_wp2_with (at_builtin; refine Hid.out ?_)
          refine wpList_pushH rfl _ _ rfl (wr.alloc (.cells #[.slice ua un uc] 45)) w.heap.size _ _ [44] _ (ho.alloc _) (by have := hx.size; simp only [World.size_alloc]; omega) rfl _ _ (wr.heap.size + 1) (World.size_alloc _ _) rfl rfl rfl (by simp only [List.length_cons, List.length_nil]; omega) ?_
          intro v2 w2 ho2 hf2
          have hb2 : w2.heap[wr.heap.size]? = some (.cells #[.slice ua un uc] 45 (0, 0)) := hf2.2 _ _ (heap_alloc_new wr _) (fun e => by cases e) (fun _ _ e => by cases e)
          have c2 := cell_of_row _ _ 0 _ _ _ hb2
          simp only [List.getElem?_toArray, List.getElem?_cons_zero] at c2
          have hx2 : Ext w w2 := Below.trans (hx.alloc _) hf2.1
          have hl2 : (acc ++ [44]).length ≤ 200001 + k := by simp; omega
          clear hb2 ho hx hf2 hla
          go_wp2
          go_loopw [5, 31] (fun x i wr => ∃ (j : Nat) (acc' : List UInt8), j ≤ un ∧ i = .int .i64 j ∧ Own wr w.heap.size x acc' ∧ Hid (avsGo dz acc' (decide (j = 0)) (pts[k].drop j) = avsGo dz (acc ++ [44]) true pts[k]) ∧ acc'.length ≤ 200001 + k ∧ Ext w wr) (fun _ i _ => un - (intOf i).toNat)
          case atStart => exact ⟨0, _, Nat.zero_le _, rfl, ho2, rfl, hl2, hx2⟩
          case round =>
            obtain ⟨j, acc2, hj, rfl, ho4, HI2, hl4, hx4⟩ := hrel
            obtain ⟨sa, sc, hse⟩ := own_shape ho4
            subst hse
            by_cases hlt2 : j < un
            · have hlt3 : j < un := hlt2
              have hlt2' : (j : Int) < (un : Int) := by omega
              have hjp : j < pts[k].length := by rw [← hun.out]; exact hlt2
              obtain ⟨g5, o5, rfl, e5, e6⟩ := (hav.ext hx4).at j hjp
              have hmem : pts[k][j] ∈ pts[k] := List.getElem_mem hjp
              have hkm : pts[k] ∈ pts := List.getElem_mem hkp
              have hfx := hf _ hkm _ hmem
              have hdx := hd _ hkm _ hmem
              have hst := drop_cons6 pts[k] j hjp
              obtain ⟨x, hx⟩ : ∃ x, x = pts[k][j] := ⟨_, rfl⟩
              rw [← hx] at e5 e6 hfx hdx hst
              obtain ⟨tx, vx⟩ := x
              simp only at e5 e6 hfx hdx
              clear hx hmem hkm
              obtain ⟨hfx1, hfx2⟩ := hfx
              have hpl : vx.size < 65536 → (pairL dz ⟨tx, vx⟩).length ≤ tx.size + 1 + 3 * vx.size := by
                intro _
                have h9 := valGo_len hz (byt vx).length (byt vx) true
                have e9 : (pairL dz ⟨tx, vx⟩).length = tx.size + 1 + (valGo dz (byt vx).length true (byt vx)).length := by simp [pairL, valL, byt_length]; omega
                rw [byt_length] at h9
                rw [e9, byt_length]
                omega
              have hap := fun W v acc (ho : Own W w.heap.size v acc) (hs : w.heap.size ≤ W.heap.size) (hxx : Ext w W) (q1 : tx.size ≤ 1000000000) (q2 : vx.size ≤ 1000000000) (q3 : acc.length ≤ 1000000000) => appendPair_x w W w.heap.size v acc ho hs (Nat.le_refl _) hxx g off cap ht ⟨tx, vx⟩ q1 q2 q3 dz hz hdx
              simp only at hap
              clear hdx e0
              rw [hst] at HI2
              by_cases hj0 : j = 0
              · have hj0' : ¬ (0 : Int) < (j : Int) := by omega
                have HN : Hid (65536 ≤ acc2.length + tx.size + vx.size → printP dz pts = ([], 3)) := by
                  intro hbig
                  have := HI2.out
                  rw [decide_eq_true hj0] at this
                  simp only [avsGo, if_true] at this
                  rw [if_pos hbig] at this
                  exact HP.out this.symm
                have HY : Hid (¬ 65536 ≤ acc2.length + tx.size + vx.size → avsGo dz (acc2 ++ pairL dz ⟨tx, vx⟩) (decide (j + 1 = 0)) (pts[k].drop (j + 1)) = avsGo dz (acc ++ [44]) true pts[k]) := by
                  intro hbig
                  have := HI2.out
                  rw [decide_eq_true hj0] at this
                  simp only [avsGo, if_true] at this
                  rw [if_neg hbig] at this
                  rw [decide_eq_false (by omega)]
                  exact this
                have hj0h : Hid (j = 0) := hj0
                clear hj0 HI2 hst
                by_cases hbig : 65536 ≤ (acc2).length + tx.size + vx.size
                · have hbig' : (65536 : Int) ≤ ((acc2).length : Int) + (tx.size : Int) + (vx.size : Int) := by omega
                  have hr : Hid (printP dz pts = ([], 3)) := HN.out hbig
                  clear hap
                  go_wp2
                  go_ret2
                  exact ⟨by rw [hr.out]; rfl, (hx4.alloc _)⟩
                · have hbig' : ¬ (65536 : Int) ≤ ((acc2).length : Int) + (tx.size : Int) + (vx.size : Int) := by omega
                  have hap2 := hap (wr.alloc (.cells #[.string tx, .string vx] 56)) _ _ (ho4.alloc _) (by have := hx4.size; simp only [World.size_alloc]; omega) (hx4.alloc _) (by omega) (by omega) (by omega)
                  clear hap
                  go_wp2_with (go_at_call 33; refine hap2.mono ?_; rintro _ w8 ⟨v8, rfl, ho8, hf8⟩)
                  go_roundw
                  · refine ⟨j + 1, _, hlt3, by go_num, ho8, HY.out hbig, ?_, Below.trans (hx4.alloc _) hf8.1⟩
                    rw [List.length_append]
                    have := hpl (by omega)
                    omega
                  · simp [intOf]; omega
              · have hj0' : (0 : Int) < (j : Int) := by omega
                have HN : Hid (65536 ≤ (acc2 ++ [43]).length + tx.size + vx.size → printP dz pts = ([], 3)) := by
                  intro hbig
                  have := HI2.out
                  rw [decide_eq_false hj0] at this
                  simp only [avsGo, Bool.false_eq_true, if_false] at this
                  rw [if_pos hbig] at this
                  exact HP.out this.symm
                have HY : Hid (¬ 65536 ≤ (acc2 ++ [43]).length + tx.size + vx.size → avsGo dz (acc2 ++ [43] ++ pairL dz ⟨tx, vx⟩) (decide (j + 1 = 0)) (pts[k].drop (j + 1)) = avsGo dz (acc ++ [44]) true pts[k]) := by
                  intro hbig
                  have := HI2.out
                  rw [decide_eq_false hj0] at this
                  simp only [avsGo, Bool.false_eq_true, if_false] at this
                  rw [if_neg hbig] at this
                  rw [decide_eq_false (by omega)]
                  exact this
                clear HI2 hst
                go_wp2_with (at_builtin; refine Hid.out ?_)
                refine wpList_pushH rfl _ _ rfl (wr.alloc (.cells #[.string tx, .string vx] 56)) w.heap.size _ _ [43] _ (ho4.alloc _) (by have := hx4.size; simp only [World.size_alloc]; omega) rfl _ _ (wr.heap.size + 1) (World.size_alloc _ _) rfl rfl rfl (by simp only [List.length_cons, List.length_nil]; omega) ?_
                intro v6 w6 ho6 hf6
                have hb6 : w6.heap[wr.heap.size]? = some (.cells #[.string tx, .string vx] 56 (0, 0)) := hf6.2 _ _ (heap_alloc_new wr _) (fun e => by cases e) (fun _ _ e => by cases e)
                have c0 := cell_of_row _ _ 0 _ _ _ hb6
                have c1 := cell_of_row _ _ 1 _ _ _ hb6
                simp only [List.getElem?_toArray, List.getElem?_cons_zero, List.getElem?_cons_succ] at c0 c1
                have hx6 : Ext w w6 := Below.trans (hx4.alloc _) hf6.1
                obtain ⟨sa6, sc6, hse6⟩ := own_shape ho6
                subst hse6
                have hl6 : (acc2 ++ [43]).length ≤ 200002 + k := by simp; omega
                clear hb6 ho4 hx4 hf6 e5 e6 hl4
                generalize hA : acc2 ++ [43] = acc3 at *
                clear hA
                by_cases hbig : 65536 ≤ (acc3).length + tx.size + vx.size
                · have hbig' : (65536 : Int) ≤ ((acc3).length : Int) + (tx.size : Int) + (vx.size : Int) := by omega
                  have hr : Hid (printP dz pts = ([], 3)) := HN.out hbig
                  clear hap
                  go_wp2
                  go_ret2
                  exact ⟨by rw [hr.out]; rfl, hx6⟩
                · have hbig' : ¬ (65536 : Int) ≤ ((acc3).length : Int) + (tx.size : Int) + (vx.size : Int) := by omega
                  have hap2 := hap w6 _ _ ho6 (by have := hx6.size; omega) hx6 (by omega) (by omega) (by omega)
                  clear hap
                  go_wp2_with (go_at_call 33; refine hap2.mono ?_; rintro _ w8 ⟨v8, rfl, ho8, hf8⟩)
                  go_roundw
                  · refine ⟨j + 1, _, hlt3, by go_num, ho8, HY.out hbig, ?_, Below.trans hx6 hf8.1⟩
                    rw [List.length_append]
                    have := hpl (by omega)
                    omega
                  · simp [intOf]; omega
            · have hlt2' : ¬ (j : Int) < (un : Int) := by omega
              have HX : Hid (avsGo dz (acc ++ [44]) true pts[k] = some acc2) := by
                show _ = _
                rw [← HI2.out, List.drop_of_length_le (by rw [← hun.out]; omega)]
                rfl
              clear HI2
              go_wp2
              go_roundw
              · refine ⟨k + 1, acc2, hlt, by go_num, ho4, ?_, by omega, hx4⟩
                have := HQ.out
                rw [HX.out] at this
                show _ = _
                rw [decide_eq_false (by omega)]
                exact this
              · simp [intOf]; omega
      · have hlt' : ¬ (k : Int) < (n : Int) := by omega
        have HX : Hid (ptsGo dz [] true pts = some acc) := by
          show _ = _
          rw [← HI.out, List.drop_of_length_le (by rw [← hnp.out]; omega)]
          rfl
        have hcv := ho.conv
        obtain ⟨sa, sc, hse⟩ := own_shape ho
        subst hse
        clear HI hv
        by_cases hbig : 65536 < acc.length
        · have hbig' : (65536 : Int) < (acc.length : Int) := by omega
          have hr : Hid (printP dz pts = ([], 3)) := by show _ = _; rw [hgo.out, HX.out]; simp only []; rw [if_pos hbig]
          go_wp2
          go_ret2
          exact ⟨by rw [hr.out]; rfl, hx⟩
        · have hbig' : ¬ (65536 : Int) < (acc.length : Int) := by omega
          have hr : Hid (printP dz pts = (acc, 0)) := by show _ = _; rw [hgo.out, HX.out]; simp only []; rw [if_neg hbig]
          go_wp2
          go_ret2
          exact ⟨by rw [hr.out]; rfl, hx⟩
  · have hr : Hid (printP dz pts = ([], ck)) := by
      show _ = _
      unfold printP
      rw [if_pos (by rw [← hckh.out]; exact h0), ← hckh.out]
    clear hv
    go_enter Tryz.func15, Tryz.ntmps15
    go_wp2_with (go_at_call 32; refine hch.mono ?_; rintro _ w1 ⟨rfl, x1⟩)
    go_ret2
    exact ⟨by rw [hr.out]; rfl, hx0.trans x1⟩
end Go.Proofs.YtfonmpahbjijeaaGreatDoor
