/-
  name.appendPair.
-/
import Derived.Test.YtfiijlmpfpmgiaaGreatDoorNplainToHex
import Derived.Test.YtfiijlmpfpmgiaaGreatDoorNmnToOrd
namespace Go.Proofs.YtfiijlmpfpmgiaaGreatDoor
open Go.RowKit

/-- utf8.DecodeRuneInString tells that the first character has n bytes -/
def DecAt (t : ByteArray) (n : Nat) : Prop := ∀ w, Calls Tryz.prog 56 #[.string t] w fun e w' => ∃ r, e = .returned (.tuple #[.int .i32 r, .int .i64 n]) ∧ w' = w
theorem head_at6 (t : ByteArray) (h : 0 < t.size) : (byt t).headD 0 = t[0]'h := by
  unfold byt
  have h2 : 0 < t.data.toList.length := by simpa using h
  have e : t[0]'h = t.data.toList[0]'h2 := by simp [ByteArray.getElem_eq_getElem_data]
  rw [e]
  generalize t.data.toList = L at h2 ⊢
  cases L with
  | nil => simp at h2
  | cons a r => simp
set_option maxRecDepth 100000 in
theorem dec_ascii (t : ByteArray) (b : UInt8) (r : List UInt8) (ht : byt t = b :: r) (hb : b < 128) : DecAt t 1 := by
  intro w
  have hsz : 0 < t.size := by rw [← byt_length, ht]; simp
  have hsz' : (0 : Int) < (t.size : Int) := by omega
  have hne : t.toList.isEmpty = false := by
    rw [ByteArray.toList_eq]
    cases hl : t.data.toList with
    | nil => exfalso; have : byt t = [] := hl; rw [this] at ht; cases ht
    | cons a l => rfl
  have h0 : t[0]'hsz = b := by rw [← head_at6 t hsz, ht]; rfl
  have hb' : ((t[0]'hsz).toNat : Int) < 128 := by rw [h0]; have : b.toNat < 128 := hb; omega
  have hb2 : (t[0]'hsz).toNat < 128 := by omega
  clear h0 ht
  go_enter Tryz.func56, Tryz.ntmps56
  go_wp2
  go_ret2
  exact ⟨_, rfl, rfl⟩
theorem signL_hex {f l : Bool} {C : List UInt8} {b : UInt8} (hC : C.headD 0 = b) (h : b < 32 ∨ b = 127 ∨ validL C = false) : signL f l C = 92 :: hexL C := by
  unfold signL
  rw [hC, if_pos]
  rcases h with h | h | h
  · simp [h]
  · simp [h]
  · simp [h]
theorem signL_esc {f l : Bool} {C : List UInt8} {b : UInt8} (hC : C.headD 0 = b) (h0 : ¬ b < 32) (h1 : ¬ b = 127) (h2 : validL C = true) (h : specB b = true ∨ (b = 32 ∧ (f = true ∨ l = true)) ∨ (b = 35 ∧ f = true)) : signL f l C = 92 :: C := by
  unfold signL
  rw [hC, if_neg (by simp [h0, h1, h2]), if_pos]
  rcases h with h | ⟨h, h' | h'⟩ | ⟨h, h'⟩
  · simp [h]
  · simp [h, h']
  · simp [h, h']
  · simp [h, h']
theorem signL_pl {f l : Bool} {C : List UInt8} {b : UInt8} (hC : C.headD 0 = b) (h0 : ¬ b < 32) (h1 : ¬ b = 127) (h2 : validL C = true) (h3 : specB b = false) (h4 : ¬ (b = 32 ∧ (f = true ∨ l = true))) (h5 : ¬ (b = 35 ∧ f = true)) : signL f l C = C := by
  unfold signL
  rw [hC, if_neg (by simp [h0, h1, h2]), if_neg]
  simp only [Bool.or_eq_true, Bool.and_eq_true, beq_iff_eq, h3, Bool.false_eq_true, false_or]
  rintro (h | h)
  · exact h4 h
  · exact h5 h
theorem ib_mem (b : UInt8) : ∀ l : List UInt8, (0 ≤ Lib.indexByte l b) ↔ (l.contains b = true)
  | [] => by simp [Lib.indexByte]
  | x :: l => by
    have ih := ib_mem b l
    have hg := Lib.indexByte_ge l b
    unfold Lib.indexByte
    rw [List.contains_cons]
    by_cases h : x = b
    · subst h; simp
    · have h' : ¬ b = x := fun e => h e.symm
      rw [if_neg (by simpa using h)]
      split
      · rename_i e
        have e' : Lib.indexByte l b = -1 := by simpa using e
        rw [e'] at ih
        simp only [Bool.or_eq_true, beq_iff_eq, h', false_or]
        exact ih
      · rename_i e
        simp only [Bool.or_eq_true, beq_iff_eq, h', false_or]
        rw [← ih]
        simp at e
        omega
set_option maxRecDepth 100000 in
set_option maxHeartbeats 4000000 in
theorem appendPair_any (w0 w : World) (B : Nat) (v : Value) (l : List UInt8) (hown : Own w B v l) (hB : B ≤ w.heap.size) (hB0 : w0.heap.size ≤ B) (hx0 : Ext w0 w) (g off cap : Nat) (ht : Tab w0 g off cap) (a : Av) (h1 : a.t.size ≤ 1000000000) (h2 : a.v.size ≤ 1000000000) (h3 : l.length ≤ 1000000000)
    (dz : List UInt8 → Nat) (hz : DzOk dz) (hd : ∀ k, k < a.v.size → DecAt (a.v.extract k a.v.size) (dz ((byt a.v).drop k))) :
    Calls Tryz.prog 39 #[v, .agg #[.string a.t, .string a.v]] w fun e w' => ∃ v', e = .returned v' ∧ Own w' B v' (l ++ pairL dz a) ∧ Fr B w w' := by
  obtain ⟨tt, s⟩ := a
  simp only at h1 h2 hd ⊢
  have hva := fun w1 (x : Ext w0 w1) (t : ByteArray) (h : t.size ≤ 1000000000) => Valid_any w1 g off cap (ht.ext x) t (by omega)
  have hhx := fun w1 (t : ByteArray) (h : t.size ≤ 1000000000) => Hex_any w1 t (by omega)
  have hib := nIndexByte
  clear ht
  have hbx := heap_alloc_new w (.cells #[.string tt, .string s] 48)
  have hall := valGo_len hz (byt s).length (byt s) true
  go_enter Tryz.func39, Tryz.ntmps39
  go_wp2_with (at_builtin; refine Hid.out ?_)
  refine wpList_pushS rfl _ _ rfl B _ l (hown.alloc _) (by simp; omega) rfl _ rfl (by omega) ?_
  intro v3 w3 ho3 hr3
  have hs3 := hr3.1.size
  go_wp2_with (at_builtin; refine Hid.out ?_)
  refine wpList_push rfl _ _ rfl w3 B _ _ [61] _ ho3 (by simp at hs3; omega) rfl _ _ rfl rfl rfl (by rw [List.length_append, byt_length]; simp; omega) ?_
  intro v4 w4 ho4 hr4
  have hr04 : Fr B (w.alloc (.cells #[.string tt, .string s] 48)) w4 := hr3.trans hr4
  have hb4 : w4.heap[w.heap.size]? = some (.cells #[.string tt, .string s] 48 (0, 0)) := hr04.2 _ _ hbx (fun e => by cases e) (fun _ _ e => by cases e)
  have d0 := cell_of_row _ _ 0 _ _ _ hb4
  have d1 := cell_of_row _ _ 1 _ _ _ hb4
  simp only [List.getElem?_toArray, List.getElem?_cons_zero, List.getElem?_cons_succ] at d0 d1
  clear ho3 hr3 hs3 hr4
  go_wp2
  have hbyl : (byt s).length = s.size := byt_length s
  have hsw : (w.alloc (.cells #[.string tt, .string s] 48)).heap.size = w.heap.size + 1 := World.size_alloc _ _
  go_loopw [0, 6] (fun x i wr => ∃ (p : Nat) (acc : List UInt8), p ≤ s.size ∧ i = .int .i64 p ∧ Own wr B x (l ++ byt tt ++ [61] ++ acc) ∧ Hid (acc ++ valL dz (decide (p = 0)) ((byt s).drop p) = valL dz true (byt s)) ∧ Fr B (w.alloc (.cells #[.string tt, .string s] 48)) wr) (fun _ i _ => s.size - (intOf i).toNat)
  case atStart => exact ⟨0, [], Nat.zero_le _, rfl, by rw [List.append_nil]; exact ho4, by show _ = _; simp, hr04⟩
  case round =>
    obtain ⟨p, acc, hp, rfl, hw5, HI, hr5⟩ := hrel
    clear ho4 hr04 hb4 d0 d1
    have hb5 : wr.heap[w.heap.size]? = some (.cells #[.string tt, .string s] 48 (0, 0)) := hr5.2 _ _ hbx (fun e => by cases e) (fun _ _ e => by cases e)
    have d0 := cell_of_row _ _ 0 _ _ _ hb5
    have d1 := cell_of_row _ _ 1 _ _ _ hb5
    simp only [List.getElem?_toArray, List.getElem?_cons_zero, List.getElem?_cons_succ] at d0 d1
    have hs5 := hr5.1.size
    rw [hsw] at hs5
    by_cases hlt : p < s.size
    · have hlt' : (p : Int) ≤ (s.size : Int) - 1 := by omega
      have hne : (byt s).drop p ≠ [] := by intro e; have := congrArg List.length e; rw [List.length_drop, hbyl] at this; simp at this; omega
      have hzz := hz _ hne
      rw [List.length_drop, hbyl] at hzz
      have hdp := hd p hlt
      have hst := valL_step hz (decide (p = 0)) _ hne
      generalize hn : dz ((byt s).drop p) = n at *
      clear hd hn
      go_upto_region 9 with (go_at_call 56; refine (hdp _).mono ?_; rintro _ w6 ⟨r6, rfl, rfl⟩)
      have hs1 : 0 < (s.extract p (p + n)).size := by rw [ByteArray.size_extract]; omega
      have hsg2 : byt (s.extract p (p + n)) = ((byt s).drop p).take n := by rw [byt_extract, Nat.add_sub_cancel_left]
      have hhead0 : (byt (s.extract p (p + n))).headD 0 = (s.extract p (p + n))[0]'hs1 := head_at6 _ hs1
      have hsgz : (s.extract p (p + n)).size = n := by rw [ByteArray.size_extract]; omega
      generalize hb : (s.extract p (p + n))[0]'hs1 = b at *
      clear hs1 hb
      generalize s.extract p (p + n) = sg at *
      have hhead : (byt sg).headD 0 = b := hhead0
      have hsgs : sg.size ≤ 1000000000 := by omega
      have hpz : (byt s).length - p = ((byt s).drop p).length := by rw [List.length_drop]
      have HJ : Hid (acc ++ (signL (decide (p = 0)) (decide ((byt s).length - p = 1)) (byt sg) ++ valL dz false ((byt s).drop (p + n))) = valL dz true (byt s)) := by
        show _ = _
        rw [← HI.out, hst, hsg2, hpz, List.drop_drop]
      have hfin : Hid (acc.length ≤ 3000000000) := by
        show _ ≤ _
        have e1 := congrArg List.length HI.out
        rw [List.length_append] at e1
        have e2 : (valL dz true (byt s)).length ≤ 3 * (byt s).length := hall
        omega
      have hzr : (b.toNat : Int) < 256 := by have := b.toNat_lt; omega
      have hz0 : (0 : Int) ≤ (b.toNat : Int) := by omega
      have hz32 : Hid ((b.toNat : Int) < 32 ↔ b < 32) := by show _ ↔ _; rw [UInt8.lt_iff_toNat_lt]; show _ ↔ b.toNat < 32; omega
      have hzE : Hid (∀ k : Nat, k < 256 → ((b.toNat : Int) = k ↔ b = UInt8.ofNat k)) := by
        intro k hk
        constructor
        · intro e
          have e2 : b.toNat = k := by omega
          rw [← e2, UInt8.ofNat_toNat]
        · intro e
          rw [e, UInt8.toNat_ofNat', Nat.mod_eq_of_lt hk]
      have hsp0 := fun w => hib w ⟨#[34, 43, 44, 59, 60, 62, 92]⟩ (b.toNat : Int)
      have hbb : ((b.toNat : Int)).toNat.toUInt8 = b := by rw [Int.toNat_natCast]; exact UInt8.ofNat_toNat
      rw [hbb] at hsp0
      clear hbb hib
      have hqs0 : (0 ≤ Lib.indexByte [34, 43, 44, 59, 60, 62, 92] b) ↔ (specB b = true) := ib_mem b _
      have hsp : ∀ w, Calls Tryz.prog 59 #[.string ⟨#[34, 43, 44, 59, 60, 62, 92]⟩, .int .u8 (b.toNat : Int)] w fun e w' => e = .returned (.int .i64 (Lib.indexByte [34, 43, 44, 59, 60, 62, 92] b)) ∧ w' = w := hsp0
      clear hsp0
      generalize Lib.indexByte [34, 43, 44, 59, 60, 62, 92] b = q at *
      have hqs : Hid (0 ≤ q ↔ specB b = true) := hqs0
      clear hqs0
      generalize (b.toNat : Int) = z at *
      have hvx := hva w6 (Below.trans hx0 (Below.mono ((Fr.refl B w).alloc hB (.cells #[.string tt, .string s] 48)).1 hB0 |>.trans (Below.mono hr5.1 hB0))) sg hsgs
      obtain ⟨vb, hvb⟩ : ∃ vb, vb = validL (byt sg) := ⟨_, rfl⟩
      rw [← hvb] at hvx
      have hvbh : Hid (vb = validL (byt sg)) := hvb
      clear hvb hva hdp hst hsg2 hhead0 hne HI hpz hall hown hz hbx
      have e127 := (hzE.out 127 (by decide))
      have e32 := (hzE.out 32 (by decide))
      have e35 := (hzE.out 35 (by decide))
      have E127 : Hid (z = 127 ↔ b = 127) := e127
      have E32 : Hid (z = 32 ↔ b = 32) := e32
      have E35 : Hid (z = 35 ↔ b = 35) := e35
      clear e127 e32 e35 hzE
      have hpn : (p : Int) + (n : Int) ≤ (s.size : Int) := by omega
      by_cases a1 : z < 32
      · go_wp2_with (first | (go_at_call 57; refine hvx.mono ?_; rintro _ w7 ⟨rfl, hf7⟩) | (at_builtin; refine Hid.out ?_))
        have ho7 := hw5
        have hf07 := hr5
        refine wpList_push rfl _ _ rfl w6 B _ _ [92] _ ho7 (by have := hf07.1.size; rw [hsw] at this; omega) rfl _ _ rfl rfl rfl (by have := hfin.out; simp only [List.length_append, byt_length, List.length_cons, List.length_nil]; omega) ?_
        intro v8 w8 ho8 hr8
        have hf08 := hf07.trans hr8
        go_wp2_with (first | (go_at_call 58; refine (hhx w8 sg hsgs).mono ?_; rintro _ w9 ⟨rfl, hf9⟩) | (at_builtin; refine Hid.out ?_))
        have hf09 := hf08.trans (hf9.mono (by have := hf08.1.size; rw [hsw] at this; omega))
        refine wpList_pushS rfl _ _ rfl B _ _ (ho8.below hf9.1) (by have := hf09.1.size; rw [hsw] at this; omega) rfl _ rfl (by have := hfin.out; simp only [List.length_append, byt_length]; rw [← byt_length (str _), byt_str, hexL_length, byt_length]; simp only [List.length_cons, List.length_nil]; omega) ?_
        intro v10 w10 ho10 hr10
        go_wp2
        go_roundw
        · refine ⟨p + n, acc ++ 92 :: hexL (byt sg), by omega, by go_num, ?_, ?_, hf09.trans hr10⟩
          · rw [byt_str] at ho10; simpa [List.append_assoc] using ho10
          · have h9 := signL_hex (f := decide (p = 0)) (l := decide ((byt s).length - p = 1)) hhead (.inl (hz32.out.1 a1))
            have := HJ.out
            rw [h9] at this
            show _ = _
            rw [decide_eq_false (by omega), ← this]
            simp [List.append_assoc]
        · simp [intOf]; omega
      · have nb32 : ¬ b < 32 := fun e => a1 (hz32.out.2 e)
        by_cases a2 : z = 127
        · have hb127 := E127.out.1 a2
          have hb127h : Hid (b = 127) := hb127
          clear hb127
          subst a2
          go_wp2_with (first | (go_at_call 57; refine hvx.mono ?_; rintro _ w7 ⟨rfl, hf7⟩) | (at_builtin; refine Hid.out ?_))
          have ho7 := hw5
          have hf07 := hr5
          refine wpList_push rfl _ _ rfl w6 B _ _ [92] _ ho7 (by have := hf07.1.size; rw [hsw] at this; omega) rfl _ _ rfl rfl rfl (by have := hfin.out; simp only [List.length_append, byt_length, List.length_cons, List.length_nil]; omega) ?_
          intro v8 w8 ho8 hr8
          have hf08 := hf07.trans hr8
          go_wp2_with (first | (go_at_call 58; refine (hhx w8 sg hsgs).mono ?_; rintro _ w9 ⟨rfl, hf9⟩) | (at_builtin; refine Hid.out ?_))
          have hf09 := hf08.trans (hf9.mono (by have := hf08.1.size; rw [hsw] at this; omega))
          refine wpList_pushS rfl _ _ rfl B _ _ (ho8.below hf9.1) (by have := hf09.1.size; rw [hsw] at this; omega) rfl _ rfl (by have := hfin.out; simp only [List.length_append, byt_length]; rw [← byt_length (str _), byt_str, hexL_length, byt_length]; simp only [List.length_cons, List.length_nil]; omega) ?_
          intro v10 w10 ho10 hr10
          go_wp2
          go_roundw
          · refine ⟨p + n, acc ++ 92 :: hexL (byt sg), by omega, by go_num, ?_, ?_, hf09.trans hr10⟩
            · rw [byt_str] at ho10; simpa [List.append_assoc] using ho10
            · have h9 := signL_hex (f := decide (p = 0)) (l := decide ((byt s).length - p = 1)) hhead (.inr (.inl hb127h.out))
              have := HJ.out
              rw [h9] at this
              show _ = _
              rw [decide_eq_false (by omega), ← this]
              simp [List.append_assoc]
          · simp [intOf]; omega
        · have nb127 : ¬ b = 127 := fun e => a2 (E127.out.2 e)
          cases vb with
          | false =>
            go_wp2_with (first | (go_at_call 57; refine hvx.mono ?_; rintro _ w7 ⟨rfl, hf7⟩) | (at_builtin; refine Hid.out ?_))
            have ho7 := hw5.below hf7.1
            have hf07 := hr5.trans (hf7.mono (by omega))
            refine wpList_push rfl _ _ rfl w7 B _ _ [92] _ ho7 (by have := hf07.1.size; rw [hsw] at this; omega) rfl _ _ rfl rfl rfl (by have := hfin.out; simp only [List.length_append, byt_length, List.length_cons, List.length_nil]; omega) ?_
            intro v8 w8 ho8 hr8
            have hf08 := hf07.trans hr8
            go_wp2_with (first | (go_at_call 58; refine (hhx w8 sg hsgs).mono ?_; rintro _ w9 ⟨rfl, hf9⟩) | (at_builtin; refine Hid.out ?_))
            have hf09 := hf08.trans (hf9.mono (by have := hf08.1.size; rw [hsw] at this; omega))
            refine wpList_pushS rfl _ _ rfl B _ _ (ho8.below hf9.1) (by have := hf09.1.size; rw [hsw] at this; omega) rfl _ rfl (by have := hfin.out; simp only [List.length_append, byt_length]; rw [← byt_length (str _), byt_str, hexL_length, byt_length]; simp only [List.length_cons, List.length_nil]; omega) ?_
            intro v10 w10 ho10 hr10
            go_wp2
            go_roundw
            · refine ⟨p + n, acc ++ 92 :: hexL (byt sg), by omega, by go_num, ?_, ?_, hf09.trans hr10⟩
              · rw [byt_str] at ho10; simpa [List.append_assoc] using ho10
              · have h9 := signL_hex (f := decide (p = 0)) (l := decide ((byt s).length - p = 1)) hhead (.inr (.inr hvbh.out.symm))
                have := HJ.out
                rw [h9] at this
                show _ = _
                rw [decide_eq_false (by omega), ← this]
                simp [List.append_assoc]
            · simp [intOf]; omega
          | true =>
            have hvt : Hid (validL (byt sg) = true) := hvbh.out.symm
            by_cases hq : 0 ≤ q
            · go_wp2_with (first | (go_at_call 57; refine hvx.mono ?_; rintro _ w7 ⟨rfl, hf7⟩) | (go_at_call 59; refine (hsp _).mono ?_; rintro _ wq ⟨rfl, hwq⟩; subst wq) | (at_builtin; refine Hid.out ?_))
              have ho7 := hw5.below hf7.1
              have hf07 := hr5.trans (hf7.mono (by omega))
              refine wpList_push rfl _ _ rfl w7 B _ _ [92] _ ho7 (by have := hf07.1.size; rw [hsw] at this; omega) rfl _ _ rfl rfl rfl (by have := hfin.out; simp only [List.length_append, byt_length, List.length_cons, List.length_nil]; omega) ?_
              intro v8 w8 ho8 hr8
              have hf08 := hf07.trans hr8
              go_wp2_with (at_builtin; refine Hid.out ?_)
              refine wpList_pushS rfl _ _ rfl B _ _ ho8 (by have := hf08.1.size; rw [hsw] at this; omega) rfl _ rfl (by have := hfin.out; simp only [List.length_append, byt_length, List.length_cons, List.length_nil]; omega) ?_
              intro v10 w10 ho10 hr10
              go_wp2
              go_roundw
              · refine ⟨p + n, acc ++ 92 :: byt sg, by omega, by go_num, ?_, ?_, hf08.trans hr10⟩
                · simpa [List.append_assoc] using ho10
                · have h9 := signL_esc (f := decide (p = 0)) (l := decide ((byt s).length - p = 1)) hhead nb32 nb127 hvt.out (.inl (hqs.out.1 hq))
                  have := HJ.out
                  rw [h9] at this
                  show _ = _
                  rw [decide_eq_false (by omega), ← this]
                  simp [List.append_assoc]
              · simp [intOf]; omega
            · have hspf : Hid (specB b = false) := bool_eq_false (fun e => hq (hqs.out.2 e))
              by_cases a3 : z = 32
              · have hb32h : Hid (b = 32) := E32.out.1 a3
                subst a3
                by_cases hp0 : p = 0
                · have hp0h : Hid (p = 0) := hp0
                  have hp0' : (p : Int) = 0 := by omega
                  clear hp0
                  go_wp2_with (first | (go_at_call 57; refine hvx.mono ?_; rintro _ w7 ⟨rfl, hf7⟩) | (go_at_call 59; refine (hsp _).mono ?_; rintro _ wq ⟨rfl, hwq⟩; subst wq) | (at_builtin; refine Hid.out ?_))
                  have ho7 := hw5.below hf7.1
                  have hf07 := hr5.trans (hf7.mono (by omega))
                  refine wpList_push rfl _ _ rfl w7 B _ _ [92] _ ho7 (by have := hf07.1.size; rw [hsw] at this; omega) rfl _ _ rfl rfl rfl (by have := hfin.out; simp only [List.length_append, byt_length, List.length_cons, List.length_nil]; omega) ?_
                  intro v8 w8 ho8 hr8
                  have hf08 := hf07.trans hr8
                  go_wp2_with (at_builtin; refine Hid.out ?_)
                  refine wpList_pushS rfl _ _ rfl B _ _ ho8 (by have := hf08.1.size; rw [hsw] at this; omega) rfl _ rfl (by have := hfin.out; simp only [List.length_append, byt_length, List.length_cons, List.length_nil]; omega) ?_
                  intro v10 w10 ho10 hr10
                  go_wp2
                  go_roundw
                  · refine ⟨p + n, acc ++ 92 :: byt sg, by omega, by go_num, ?_, ?_, hf08.trans hr10⟩
                    · simpa [List.append_assoc] using ho10
                    · have h9 := signL_esc (f := decide (p = 0)) (l := decide ((byt s).length - p = 1)) hhead nb32 nb127 hvt.out (.inr (.inl ⟨hb32h.out, .inl (by simp [hp0h.out])⟩))
                      have := HJ.out
                      rw [h9] at this
                      show _ = _
                      rw [decide_eq_false (by omega), ← this]
                      simp [List.append_assoc]
                  · simp [intOf]; omega
                · have hp0' : ¬ (p : Int) = 0 := by omega
                  by_cases hpl : p + 1 = s.size
                  · have hpl' : (p : Int) = (s.size : Int) - 1 := by omega
                    have hplh : Hid (p + 1 = s.size) := hpl
                    clear hpl
                    go_wp2_with (first | (go_at_call 57; refine hvx.mono ?_; rintro _ w7 ⟨rfl, hf7⟩) | (go_at_call 59; refine (hsp _).mono ?_; rintro _ wq ⟨rfl, hwq⟩; subst wq) | (at_builtin; refine Hid.out ?_))
                    have ho7 := hw5.below hf7.1
                    have hf07 := hr5.trans (hf7.mono (by omega))
                    refine wpList_push rfl _ _ rfl w7 B _ _ [92] _ ho7 (by have := hf07.1.size; rw [hsw] at this; omega) rfl _ _ rfl rfl rfl (by have := hfin.out; simp only [List.length_append, byt_length, List.length_cons, List.length_nil]; omega) ?_
                    intro v8 w8 ho8 hr8
                    have hf08 := hf07.trans hr8
                    go_wp2_with (at_builtin; refine Hid.out ?_)
                    refine wpList_pushS rfl _ _ rfl B _ _ ho8 (by have := hf08.1.size; rw [hsw] at this; omega) rfl _ rfl (by have := hfin.out; simp only [List.length_append, byt_length, List.length_cons, List.length_nil]; omega) ?_
                    intro v10 w10 ho10 hr10
                    go_wp2
                    go_roundw
                    · refine ⟨p + n, acc ++ 92 :: byt sg, by omega, by go_num, ?_, ?_, hf08.trans hr10⟩
                      · simpa [List.append_assoc] using ho10
                      · have h9 := signL_esc (f := decide (p = 0)) (l := decide ((byt s).length - p = 1)) hhead nb32 nb127 hvt.out (.inr (.inl ⟨hb32h.out, .inr (by have := hplh.out; simp; omega)⟩))
                        have := HJ.out
                        rw [h9] at this
                        show _ = _
                        rw [decide_eq_false (by omega), ← this]
                        simp [List.append_assoc]
                    · simp [intOf]; omega
                  · have hpl' : ¬ (p : Int) = (s.size : Int) - 1 := by omega
                    have hpl2 : ((p : Int) == (s.size : Int) - 1) = false := by simpa using hpl'
                    have hpl3 : ¬ (p : Int) + 1 = (s.size : Int) := by omega
                    have hpl4 : decide ((p : Int) = (s.size : Int) - 1) = false := by simpa using hpl'
                    go_wp2_with (first | (go_at_call 57; refine hvx.mono ?_; rintro _ w7 ⟨rfl, hf7⟩) | (go_at_call 59; refine (hsp _).mono ?_; rintro _ wq ⟨rfl, hwq⟩; subst wq) | (at_builtin; refine Hid.out ?_))
                    have ho7 := hw5.below hf7.1
                    have hf07 := hr5.trans (hf7.mono (by omega))
                    refine wpList_pushS rfl _ _ rfl B _ _ ho7 (by have := hf07.1.size; rw [hsw] at this; omega) rfl _ rfl (by have := hfin.out; simp only [List.length_append, byt_length, List.length_cons, List.length_nil]; omega) ?_
                    intro v10 w10 ho10 hr10
                    go_wp2
                    go_roundw
                    · refine ⟨p + n, acc ++ byt sg, by omega, by go_num, ?_, ?_, hf07.trans hr10⟩
                      · simpa [List.append_assoc] using ho10
                      · have h9 := signL_pl (f := decide (p = 0)) (l := decide ((byt s).length - p = 1)) hhead nb32 nb127 hvt.out hspf.out (by rintro ⟨_, e | e⟩ <;> simp at e <;> omega) (by rintro ⟨e, _⟩; rw [hb32h.out] at e; cases e)
                        have := HJ.out
                        rw [h9] at this
                        show _ = _
                        rw [decide_eq_false (by omega), ← this]
                        simp [List.append_assoc]
                    · simp [intOf]; omega
              · have nb3 : ¬ b = 32 := fun e => a3 (E32.out.2 e)
                by_cases a4 : z = 35
                · have hb35h : Hid (b = 35) := E35.out.1 a4
                  subst a4
                  by_cases hp0 : p = 0
                  · have hp0h : Hid (p = 0) := hp0
                    have hp0' : (p : Int) = 0 := by omega
                    clear hp0
                    go_wp2_with (first | (go_at_call 57; refine hvx.mono ?_; rintro _ w7 ⟨rfl, hf7⟩) | (go_at_call 59; refine (hsp _).mono ?_; rintro _ wq ⟨rfl, hwq⟩; subst wq) | (at_builtin; refine Hid.out ?_))
                    have ho7 := hw5.below hf7.1
                    have hf07 := hr5.trans (hf7.mono (by omega))
                    refine wpList_push rfl _ _ rfl w7 B _ _ [92] _ ho7 (by have := hf07.1.size; rw [hsw] at this; omega) rfl _ _ rfl rfl rfl (by have := hfin.out; simp only [List.length_append, byt_length, List.length_cons, List.length_nil]; omega) ?_
                    intro v8 w8 ho8 hr8
                    have hf08 := hf07.trans hr8
                    go_wp2_with (at_builtin; refine Hid.out ?_)
                    refine wpList_pushS rfl _ _ rfl B _ _ ho8 (by have := hf08.1.size; rw [hsw] at this; omega) rfl _ rfl (by have := hfin.out; simp only [List.length_append, byt_length, List.length_cons, List.length_nil]; omega) ?_
                    intro v10 w10 ho10 hr10
                    go_wp2
                    go_roundw
                    · refine ⟨p + n, acc ++ 92 :: byt sg, by omega, by go_num, ?_, ?_, hf08.trans hr10⟩
                      · simpa [List.append_assoc] using ho10
                      · have h9 := signL_esc (f := decide (p = 0)) (l := decide ((byt s).length - p = 1)) hhead nb32 nb127 hvt.out (.inr (.inr ⟨hb35h.out, by simp [hp0h.out]⟩))
                        have := HJ.out
                        rw [h9] at this
                        show _ = _
                        rw [decide_eq_false (by omega), ← this]
                        simp [List.append_assoc]
                    · simp [intOf]; omega
                  · have hp0' : ¬ (p : Int) = 0 := by omega
                    go_wp2_with (first | (go_at_call 57; refine hvx.mono ?_; rintro _ w7 ⟨rfl, hf7⟩) | (go_at_call 59; refine (hsp _).mono ?_; rintro _ wq ⟨rfl, hwq⟩; subst wq) | (at_builtin; refine Hid.out ?_))
                    have ho7 := hw5.below hf7.1
                    have hf07 := hr5.trans (hf7.mono (by omega))
                    refine wpList_pushS rfl _ _ rfl B _ _ ho7 (by have := hf07.1.size; rw [hsw] at this; omega) rfl _ rfl (by have := hfin.out; simp only [List.length_append, byt_length, List.length_cons, List.length_nil]; omega) ?_
                    intro v10 w10 ho10 hr10
                    go_wp2
                    go_roundw
                    · refine ⟨p + n, acc ++ byt sg, by omega, by go_num, ?_, ?_, hf07.trans hr10⟩
                      · simpa [List.append_assoc] using ho10
                      · have h9 := signL_pl (f := decide (p = 0)) (l := decide ((byt s).length - p = 1)) hhead nb32 nb127 hvt.out hspf.out (fun e => nb3 e.1) (by rintro ⟨_, e⟩; simp at e; omega)
                        have := HJ.out
                        rw [h9] at this
                        show _ = _
                        rw [decide_eq_false (by omega), ← this]
                        simp [List.append_assoc]
                    · simp [intOf]; omega
                · have nb5 : ¬ b = 35 := fun e => a4 (E35.out.2 e)
                  go_wp2_with (first | (go_at_call 57; refine hvx.mono ?_; rintro _ w7 ⟨rfl, hf7⟩) | (go_at_call 59; refine (hsp _).mono ?_; rintro _ wq ⟨rfl, hwq⟩; subst wq) | (at_builtin; refine Hid.out ?_))
                  have ho7 := hw5.below hf7.1
                  have hf07 := hr5.trans (hf7.mono (by omega))
                  refine wpList_pushS rfl _ _ rfl B _ _ ho7 (by have := hf07.1.size; rw [hsw] at this; omega) rfl _ rfl (by have := hfin.out; simp only [List.length_append, byt_length, List.length_cons, List.length_nil]; omega) ?_
                  intro v10 w10 ho10 hr10
                  go_wp2
                  go_roundw
                  · refine ⟨p + n, acc ++ byt sg, by omega, by go_num, ?_, ?_, hf07.trans hr10⟩
                    · simpa [List.append_assoc] using ho10
                    · have h9 := signL_pl (f := decide (p = 0)) (l := decide ((byt s).length - p = 1)) hhead nb32 nb127 hvt.out hspf.out (fun e => nb3 e.1) (fun e => nb5 e.1)
                      have := HJ.out
                      rw [h9] at this
                      show _ = _
                      rw [decide_eq_false (by omega), ← this]
                      simp [List.append_assoc]
                  · simp [intOf]; omega
    · have hlt' : ¬ (p : Int) ≤ (s.size : Int) - 1 := by omega
      have hacc : Hid (l ++ byt tt ++ [61] ++ acc = l ++ pairL dz ⟨tt, s⟩) := by
        show _ = _
        have := HI.out
        rw [List.drop_of_length_le (by omega), valL_nil, List.append_nil] at this
        rw [this]
        simp [pairL, List.append_assoc]
      clear hva hhx hib
      go_wp2
      go_ret
      rw [← hacc.out]
      exact ⟨_, rfl, hw5, ((Fr.refl B w).alloc hB _).trans hr5⟩
end Go.Proofs.YtfiijlmpfpmgiaaGreatDoor
