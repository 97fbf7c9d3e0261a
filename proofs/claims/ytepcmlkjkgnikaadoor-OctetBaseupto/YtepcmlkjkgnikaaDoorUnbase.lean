/-
  The contract of Unbase64.
-/
import Derived.Test.YtepcmlkjkgnikaaDoorBase
namespace Go.Proofs.YtepcmlkjkgnikaaDoor
open Go.RowKit

/-- 'append(v, three[:n]...)', three an array that has just been laid -/
theorem wpList_pushA {ops : Array Oper} {rest : List Oper} {o : Oper} {a : Act} {Q : Exit → Act → World → Prop} (hgd : o.guard = none) (s x : Operand)
    (ho : o.op = .call { callee := .builtin .append, args := #[s, x], argTypes := #[30, 30] })
    (w0 : World) (B : Nat) (v : Value) (l m : List UInt8) (cs : Array Value) (t : TypeId) (hown : Own w0 B v l) (hB : B ≤ w0.heap.size) (hs : a.eval s = v) (n c : Nat)
    (hx : a.eval x = .slice (some ⟨w0.heap.size, 0, none⟩) n c) (hn : n = m.length) (hcs : m.map B8 = cs.toList.take n) (hlen : l.length + m.length ≤ 140737488355328)
    (h : ∀ v' w', Own w' B v' (l ++ m) → Fr B w0 w' → wpList Tryd.prog ops Q rest (a.put o.dst v') w') :
    wpList Tryd.prog ops Q (o :: rest) a (w0.alloc (.cells cs t)) := by
  obtain ⟨i0, hi0, hz0, hz1, hz2⟩ := info_parts info8
  subst hn
  refine wpList_append_own _ hgd s x 30 ho B 5 i0 (.int .u8 0) 1 1 Tryd.underlying30 hi0 hz0 hz1 hz2 rfl (by decide) v l.length (l.map B8) hs (hown.alloc _) ⟨w0.heap.size, 0, none⟩ m.length c (m.map B8) hx (by simp) ?_ ?_ ?_ ?_ ?_ ?_
  · have := World.news_of_block (w := w0.alloc (.cells cs t)) (B := w0.heap.size) (cs := cs) (t := t) (fr := (0, 0)) (heap_alloc_new w0 _)
    intro j u hj
    rw [hcs, List.getElem?_take] at hj
    split at hj
    · exact this j u hj
    · cases hj
  · intro u hu
    obtain ⟨b, _, rfl⟩ := List.mem_map.1 hu
    rfl
  · unfold maxLen; omega
  · omega
  · simp; omega
  · intro v' w' h1 h2 _
    exact h v' w' (own_of h1 (by simp) (by simp)) ((hown.alloc _).grown (by simp; omega) ((Fr.refl B w0).alloc hB _) h2)

theorem bitN_bd (l : List UInt8) : ∀ m, bitN l m ≤ 63 * (m + m / 32) := by
  induction l with
  | nil => intro m; exact Nat.zero_le _
  | cons a l ih =>
    intro m
    have h1 := ih (m / 64)
    have h2 := valV_lt a.toNat
    have h3 : valV a.toNat * m ≤ 63 * m := Nat.mul_le_mul_right m (by omega)
    rw [bitN]
    omega
theorem atEnd_234 (l : List UInt8) : atEnd l = 2 ∨ atEnd l = 3 ∨ atEnd l = 4 := by
  unfold atEnd; split
  · exact .inl rfl
  · split
    · exact .inr (.inl rfl)
    · exact .inr (.inr rfl)
theorem unb_step (m q : Nat) (l : List UInt8) (hl : l ≠ []) (hq : grpN (l.take 4) (l.length == 4) = q) : unb64L (m + 1) l = if bitB (l.take q) then (unb64L m (l.drop 4)).map ((by3 (bitV (l.take q))).take (q - 1) ++ ·) else none := by
  subst hq
  rw [unb64L, if_neg (by cases l <;> simp_all)]

set_option maxRecDepth 100000 in
set_option maxHeartbeats 2000000 in
theorem Unbase64_any (w : World) (s : ByteArray) (hs : s.size ≤ 140737488355328) :
    Calls Tryd.prog 21 #[.string s] w fun e w' => e = .returned (.tuple #[.string (str (unbV (byt s))), .int .i64 (unbE (byt s))]) ∧ Fr w.heap.size w w' := by
  by_cases hpar : s.size % 4 = 0
  · have hq : ((s.size : Int) % 4 != 0) = false := by simp; omega
    go_enter Tryd.func21, Tryd.ntmps21
    go_wp2_with (first
      | (at_make; refine wpList_make8 rfl _ _ rfl _ (s.size / 4 * 3) rfl rfl ?c1 ?c2 ?_))
    case c1 => omega
    case c2 => omega
    intro v1 w1 hown1 hfr1
    go_wp2
    go_loopg [0, 4] s.size (fun n t v wr => ∃ (t' : ByteArray) (p : List UInt8), t = .string t' ∧ t'.size ≤ n ∧ t'.size % 4 = 0 ∧ p.length + t'.size ≤ s.size ∧ Own wr w.heap.size v p ∧ unb64L s.size (byt s) = (unb64L n (byt t')).map (p ++ ·) ∧ Fr w.heap.size w wr)
    case atStart => exact ⟨s, [], rfl, Nat.le_refl _, hpar, by simp, hown1, by simp, hfr1⟩
    case round =>
      obtain ⟨t, p, rfl, hn, ht4, hpl, hown, hsp, hfr⟩ := hrel
      have HS : Hid _ := hsp
      have HP : Hid _ := hpl
      clear hsp hown1 hfr1 hpl
      by_cases h0 : 0 < t.size
      · obtain ⟨m, rfl⟩ : ∃ m, gk = m + 1 := ⟨gk - 1, by omega⟩
        have h4 : (4 : Int) ≤ (t.size : Int) := by omega
        by_cases h1 : t.size = 4
        · have g1 : ((t.size : Int) == 4) = true := by rw [h1]; rfl
          have HL : Hid _ := h1
          clear h1
          rcases atEnd_234 (byt t) with ha | ha | ha
          · have HG : Hid _ := unb_step m 2 (byt t) (by intro h; have := byt_length t; rw [h] at this; simp at this; omega) (by rw [byt_length, HL.out]; simp only [grpN]; rw [if_pos (by rfl), List.take_of_length_le (by rw [byt_length, HL.out]; omega), ha])
            have HQ : Hid (byt (t.extract 0 2) = (byt t).take 2) := by show byt _ = _; rw [byt_extract, List.drop_zero]
            have q0 : (t.extract 0 2).size = 2 := by rw [← byt_length, HQ.out, List.length_take, byt_length]; omega
            have q1 : 2 ≤ (t.extract 0 2).size := by omega
            have q2 : (t.extract 0 2).size ≤ 4 := by omega
            clear q0
            cases hok : bitB (byt (t.extract 0 2)) with
            | false =>
              have hv : Hid (unbV (byt s) = [] ∧ unbE (byt s) = 13) := by
                have e : unb64L s.size (byt s) = none := by
                  rw [HQ.out] at hok
                  rw [HS.out, HG.out, hok]; rfl
                show unbV (byt s) = [] ∧ unbE (byt s) = 13
                unfold unbV unbE unb64; rw [byt_length, if_pos hpar, e]; exact ⟨rfl, rfl⟩
              go_wp2_with (first
                            | (go_at_call 36; refine (signsAtEnd_any _ HL.out _).mono ?_; rintro e w9 ⟨rfl, rfl⟩)
                            | (go_at_call 37; refine (bits64_any _ q1 q2 _).mono ?_; rintro e w9 ⟨rfl, rfl⟩))
              go_ret2
              exact ⟨ret_se (by rw [hv.out.1]; rfl) hv.out.2.symm, hfr⟩
            | true =>
              have HV : Hid (unb64L s.size (byt s) = (unb64L m ((byt t).drop 4)).map ((p ++ (by3 (bitV (byt (t.extract 0 2)))).take (2 - 1)) ++ ·)) := by
                show unb64L s.size (byt s) = _
                have hok2 := hok
                rw [HQ.out] at hok2
                rw [HS.out, HG.out, hok2, HQ.out, if_pos rfl]
                cases unb64L m ((byt t).drop 4) <;> simp
              go_wp2_with (first
                            | (go_at_call 36; refine (signsAtEnd_any _ HL.out _).mono ?_; rintro e w9 ⟨rfl, rfl⟩)
                            | (go_at_call 37; refine (bits64_any _ q1 q2 _).mono ?_; rintro e w9 ⟨rfl, rfl⟩)
                            | (at_builtin; refine wpList_pushA rfl _ _ rfl _ w.heap.size _ p ((by3 (bitV (byt (t.extract 0 2)))).take (2 - 1)) _ _ hown hfr.size rfl (2 - 1) 3 rfl rfl ?hcs ?hlen ?_))
              case hcs => simp [by3, B8]
              case hlen => have := HP.out; simp [by3]; omega
              intro v3 w3 ho3 hr3
              go_wp2
              go_roundg m
              case measure => omega
              case rel =>
                have hsz : (t.extract 4 t.size).size = t.size - 4 := by rw [size_from]
                refine ⟨_, _, rfl, by omega, by omega, ?_, ho3, ?_, hfr.trans hr3⟩
                · have := HP.out; rw [hsz]; simp [by3]; omega
                · rw [byt_from]; exact HV.out
          · have HG : Hid _ := unb_step m 3 (byt t) (by intro h; have := byt_length t; rw [h] at this; simp at this; omega) (by rw [byt_length, HL.out]; simp only [grpN]; rw [if_pos (by rfl), List.take_of_length_le (by rw [byt_length, HL.out]; omega), ha])
            have HQ : Hid (byt (t.extract 0 3) = (byt t).take 3) := by show byt _ = _; rw [byt_extract, List.drop_zero]
            have q0 : (t.extract 0 3).size = 3 := by rw [← byt_length, HQ.out, List.length_take, byt_length]; omega
            have q1 : 2 ≤ (t.extract 0 3).size := by omega
            have q2 : (t.extract 0 3).size ≤ 4 := by omega
            clear q0
            cases hok : bitB (byt (t.extract 0 3)) with
            | false =>
              have hv : Hid (unbV (byt s) = [] ∧ unbE (byt s) = 13) := by
                have e : unb64L s.size (byt s) = none := by
                  rw [HQ.out] at hok
                  rw [HS.out, HG.out, hok]; rfl
                show unbV (byt s) = [] ∧ unbE (byt s) = 13
                unfold unbV unbE unb64; rw [byt_length, if_pos hpar, e]; exact ⟨rfl, rfl⟩
              go_wp2_with (first
                            | (go_at_call 36; refine (signsAtEnd_any _ HL.out _).mono ?_; rintro e w9 ⟨rfl, rfl⟩)
                            | (go_at_call 37; refine (bits64_any _ q1 q2 _).mono ?_; rintro e w9 ⟨rfl, rfl⟩))
              go_ret2
              exact ⟨ret_se (by rw [hv.out.1]; rfl) hv.out.2.symm, hfr⟩
            | true =>
              have HV : Hid (unb64L s.size (byt s) = (unb64L m ((byt t).drop 4)).map ((p ++ (by3 (bitV (byt (t.extract 0 3)))).take (3 - 1)) ++ ·)) := by
                show unb64L s.size (byt s) = _
                have hok2 := hok
                rw [HQ.out] at hok2
                rw [HS.out, HG.out, hok2, HQ.out, if_pos rfl]
                cases unb64L m ((byt t).drop 4) <;> simp
              go_wp2_with (first
                            | (go_at_call 36; refine (signsAtEnd_any _ HL.out _).mono ?_; rintro e w9 ⟨rfl, rfl⟩)
                            | (go_at_call 37; refine (bits64_any _ q1 q2 _).mono ?_; rintro e w9 ⟨rfl, rfl⟩)
                            | (at_builtin; refine wpList_pushA rfl _ _ rfl _ w.heap.size _ p ((by3 (bitV (byt (t.extract 0 3)))).take (3 - 1)) _ _ hown hfr.size rfl (3 - 1) 3 rfl rfl ?hcs ?hlen ?_))
              case hcs => simp [by3, B8]
              case hlen => have := HP.out; simp [by3]; omega
              intro v3 w3 ho3 hr3
              go_wp2
              go_roundg m
              case measure => omega
              case rel =>
                have hsz : (t.extract 4 t.size).size = t.size - 4 := by rw [size_from]
                refine ⟨_, _, rfl, by omega, by omega, ?_, ho3, ?_, hfr.trans hr3⟩
                · have := HP.out; rw [hsz]; simp [by3]; omega
                · rw [byt_from]; exact HV.out
          · have HG : Hid _ := unb_step m 4 (byt t) (by intro h; have := byt_length t; rw [h] at this; simp at this; omega) (by rw [byt_length, HL.out]; simp only [grpN]; rw [if_pos (by rfl), List.take_of_length_le (by rw [byt_length, HL.out]; omega), ha])
            have HQ : Hid (byt (t.extract 0 4) = (byt t).take 4) := by show byt _ = _; rw [byt_extract, List.drop_zero]
            have q0 : (t.extract 0 4).size = 4 := by rw [← byt_length, HQ.out, List.length_take, byt_length]; omega
            have q1 : 2 ≤ (t.extract 0 4).size := by omega
            have q2 : (t.extract 0 4).size ≤ 4 := by omega
            clear q0
            cases hok : bitB (byt (t.extract 0 4)) with
            | false =>
              have hv : Hid (unbV (byt s) = [] ∧ unbE (byt s) = 13) := by
                have e : unb64L s.size (byt s) = none := by
                  rw [HQ.out] at hok
                  rw [HS.out, HG.out, hok]; rfl
                show unbV (byt s) = [] ∧ unbE (byt s) = 13
                unfold unbV unbE unb64; rw [byt_length, if_pos hpar, e]; exact ⟨rfl, rfl⟩
              go_wp2_with (first
                            | (go_at_call 36; refine (signsAtEnd_any _ HL.out _).mono ?_; rintro e w9 ⟨rfl, rfl⟩)
                            | (go_at_call 37; refine (bits64_any _ q1 q2 _).mono ?_; rintro e w9 ⟨rfl, rfl⟩))
              go_ret2
              exact ⟨ret_se (by rw [hv.out.1]; rfl) hv.out.2.symm, hfr⟩
            | true =>
              have HV : Hid (unb64L s.size (byt s) = (unb64L m ((byt t).drop 4)).map ((p ++ (by3 (bitV (byt (t.extract 0 4)))).take (4 - 1)) ++ ·)) := by
                show unb64L s.size (byt s) = _
                have hok2 := hok
                rw [HQ.out] at hok2
                rw [HS.out, HG.out, hok2, HQ.out, if_pos rfl]
                cases unb64L m ((byt t).drop 4) <;> simp
              go_wp2_with (first
                            | (go_at_call 36; refine (signsAtEnd_any _ HL.out _).mono ?_; rintro e w9 ⟨rfl, rfl⟩)
                            | (go_at_call 37; refine (bits64_any _ q1 q2 _).mono ?_; rintro e w9 ⟨rfl, rfl⟩)
                            | (at_builtin; refine wpList_pushA rfl _ _ rfl _ w.heap.size _ p ((by3 (bitV (byt (t.extract 0 4)))).take (4 - 1)) _ _ hown hfr.size rfl (4 - 1) 3 rfl rfl ?hcs ?hlen ?_))
              case hcs => simp [by3, B8]
              case hlen => have := HP.out; simp [by3]; omega
              intro v3 w3 ho3 hr3
              go_wp2
              go_roundg m
              case measure => omega
              case rel =>
                have hsz : (t.extract 4 t.size).size = t.size - 4 := by rw [size_from]
                refine ⟨_, _, rfl, by omega, by omega, ?_, ho3, ?_, hfr.trans hr3⟩
                · have := HP.out; rw [hsz]; simp [by3]; omega
                · rw [byt_from]; exact HV.out
        · have g1 : ((t.size : Int) == 4) = false := by simp; omega
          have HG : Hid _ := unb_step m 4 (byt t) (by intro h; have := byt_length t; rw [h] at this; simp at this; omega) (by rw [byt_length, beq_eq_false_iff_ne.2 h1]; rfl)
          have HQ : Hid (byt (t.extract 0 4) = (byt t).take 4) := by show byt _ = _; rw [byt_extract, List.drop_zero]
          have q0 : (t.extract 0 4).size = 4 := by rw [← byt_length, HQ.out, List.length_take, byt_length]; omega
          have q1 : 2 ≤ (t.extract 0 4).size := by omega
          have q2 : (t.extract 0 4).size ≤ 4 := by omega
          clear q0
          cases hok : bitB (byt (t.extract 0 4)) with
          | false =>
            have hv : Hid (unbV (byt s) = [] ∧ unbE (byt s) = 13) := by
              have e : unb64L s.size (byt s) = none := by
                rw [HQ.out] at hok
                rw [HS.out, HG.out, hok]; rfl
              show unbV (byt s) = [] ∧ unbE (byt s) = 13
              unfold unbV unbE unb64; rw [byt_length, if_pos hpar, e]; exact ⟨rfl, rfl⟩
            go_wp2_with (first
                          | (go_at_call 37; refine (bits64_any _ q1 q2 _).mono ?_; rintro e w9 ⟨rfl, rfl⟩))
            go_ret2
            exact ⟨ret_se (by rw [hv.out.1]; rfl) hv.out.2.symm, hfr⟩
          | true =>
            have HV : Hid (unb64L s.size (byt s) = (unb64L m ((byt t).drop 4)).map ((p ++ (by3 (bitV (byt (t.extract 0 4)))).take (4 - 1)) ++ ·)) := by
              show unb64L s.size (byt s) = _
              have hok2 := hok
              rw [HQ.out] at hok2
              rw [HS.out, HG.out, hok2, HQ.out, if_pos rfl]
              cases unb64L m ((byt t).drop 4) <;> simp
            go_wp2_with (first
                          | (go_at_call 37; refine (bits64_any _ q1 q2 _).mono ?_; rintro e w9 ⟨rfl, rfl⟩)
                          | (at_builtin; refine wpList_pushA rfl _ _ rfl _ w.heap.size _ p ((by3 (bitV (byt (t.extract 0 4)))).take (4 - 1)) _ _ hown hfr.size rfl (4 - 1) 3 rfl rfl ?hcs ?hlen ?_))
            case hcs => simp [by3, B8]
            case hlen => have := HP.out; simp [by3]; omega
            intro v3 w3 ho3 hr3
            go_wp2
            go_roundg m
            case measure => omega
            case rel =>
              have hsz : (t.extract 4 t.size).size = t.size - 4 := by rw [size_from]
              refine ⟨_, _, rfl, by omega, by omega, ?_, ho3, ?_, hfr.trans hr3⟩
              · have := HP.out; rw [hsz]; simp [by3]; omega
              · rw [byt_from]; exact HV.out
      · have HV : Hid (unb64L s.size (byt s) = some p) := by
          have e : byt t = [] := List.eq_nil_of_length_eq_zero (by rw [byt_length]; omega)
          show unb64L s.size (byt s) = some p
          rw [HS.out, e]
          cases gk <;> simp [unb64L]
        have hv : Hid (unbV (byt s) = p ∧ unbE (byt s) = 0) := by
          show unbV (byt s) = p ∧ unbE (byt s) = 0
          unfold unbV unbE unb64; rw [byt_length, if_pos hpar, HV.out]; exact ⟨rfl, rfl⟩
        have hcv := hown.conv
        go_wp2
        go_ret2
        exact ⟨ret_se (by rw [hv.out.1]) hv.out.2.symm, hfr⟩
  · have hq : ((s.size : Int) % 4 != 0) = true := by simp; omega
    have hv : Hid (unbV (byt s) = [] ∧ unbE (byt s) = 13) := by
      have : unb64 (byt s) = none := by unfold unb64; rw [byt_length, if_neg hpar]
      show unbV (byt s) = [] ∧ unbE (byt s) = 13
      unfold unbV unbE; rw [this]; exact ⟨rfl, rfl⟩
    go_enter Tryd.func21, Tryd.ntmps21
    go_wp2
    go_ret2
    exact ⟨ret_se (by rw [hv.out.1]; rfl) hv.out.2.symm, Fr.refl _ _⟩
end Go.Proofs.YtepcmlkjkgnikaaDoor
