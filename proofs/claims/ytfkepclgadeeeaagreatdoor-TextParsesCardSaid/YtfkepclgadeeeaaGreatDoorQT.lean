/-
  Plain: a value as the document reads it, piece by piece, is what the program reads.
-/
import Derived.Test.YtfkepclgadeeeaaGreatDoorQQ
import Derived.Test.YtfkepclgadeeeaaGreatDoorQS
import Derived.Test.YtfkepclgadeeeaaGreatDoorQR
namespace Go.Proofs.YtfkepclgadeeeaaGreatDoor

/-- does a value end there? -/
def stopsL (star : Bool) (l : List UInt8) : Bool := match l with
  | [] => true
  | c :: _ => c == 41 || (star && c == 42)
def dvGo (s : ByteArray) (star : Bool) : Nat → Nat → List UInt8 → Tr (List UInt8)
  | 0, p, b => .ok b p
  | f + 1, p, b => if stopsL star ((byt s).drop p) then .ok b p else if pcE ((byt s).drop p) = 0 then dvGo s star f (p + pcN ((byt s).drop p)) (b ++ pcS ((byt s).drop p)) else .bad (pcE ((byt s).drop p)) p
def dvR (s : ByteArray) (star : Bool) (p : Nat) : Tr ByteArray := (dvGo s star (s.size + 1) p []).bind fun b q => if b.length ≤ 65536 then .ok (str b) q else .bad 3 p
theorem escd_take (t : List UInt8) : escdB (t.take 2) = escdB t ∧ escdV (t.take 2) = escdV t := by
  match t with
  | [] => exact ⟨rfl, rfl⟩
  | [_] => exact ⟨rfl, rfl⟩
  | _ :: _ :: _ => exact ⟨rfl, rfl⟩
theorem adig_k (inP : Bool) (c : Nat) (h : adigB c = true) : c < 128 ∧ extK inP c = 2 := by
  unfold adigB adig sdig at h
  refine ⟨adigB_ascii c (by unfold adigB adig sdig; exact h), ?_⟩
  have hc : (65 ≤ c ∧ c ≤ 70) ∨ (48 ≤ c ∧ c ≤ 57) ∨ (97 ≤ c ∧ c ≤ 102) := by
    by_cases h1 : 65 ≤ c ∧ c ≤ 70
    · exact .inl h1
    · rw [if_neg h1] at h
      by_cases h2 : 48 ≤ c ∧ c ≤ 57
      · exact .inr (.inl h2)
      · rw [if_neg h2] at h
        by_cases h3 : 97 ≤ c ∧ c ≤ 102
        · exact .inr (.inr h3)
        · rw [if_neg h3] at h; cases h
  unfold extK
  rw [if_neg (by omega), if_neg (by omega)]
theorem unesc_one (a : UInt8) (t : List UInt8) (he : pcE (a :: t) = 0) : unescL ((a :: t).take (pcN (a :: t))) = .ok (pcS (a :: t)) := by
  by_cases h92 : a.toNat = 92
  · rw [pcE_cons, if_pos h92] at he
    have hb : escdB t = true := by
      cases e : escdB t
      · rw [e] at he; cases he
      · rfl
    rw [pcN_cons, if_pos h92, pcS_cons, if_pos h92]
    unfold unescL
    rw [show (a :: t).take 3 = a :: t.take 2 from rfl, List.length_cons, unesc_bs _ a _ h92, (escd_take t).1, if_pos hb, (escd_take t).2]
    rw [List.drop_eq_nil_of_le (by rw [List.length_take]; omega), unescGo_nil]
    rfl
  · rw [pcE_cons, if_neg h92] at he
    by_cases hr : resv a.toNat = true
    · rw [if_pos hr] at he; cases he
    · rw [if_neg hr] at he
      have hw : wid (a :: t) ≠ 0 := by
        intro e; rw [if_pos e] at he; cases he
      rw [pcN_cons, if_neg h92, pcS_cons, if_neg h92]
      exact unesc_wide hw (by simpa using hr)
theorem pcN_pos (a : UInt8) (t : List UInt8) (he : pcE (a :: t) = 0) : 0 < pcN (a :: t) ∧ pcN (a :: t) ≤ (a :: t).length := by
  by_cases h92 : a.toNat = 92
  · rw [pcE_cons, if_pos h92] at he
    rw [pcN_cons, if_pos h92]
    refine ⟨by omega, ?_⟩
    match t with
    | [] => simp [escdB] at he
    | [_] => simp [escdB] at he
    | _ :: _ :: _ => simp only [List.length_cons]; omega
  · rw [pcE_cons, if_neg h92] at he
    by_cases hr : resv a.toNat = true
    · rw [if_pos hr] at he; cases he
    · rw [if_neg hr] at he
      have hw : wid (a :: t) ≠ 0 := by
        intro e; rw [if_pos e] at he; cases he
      rw [pcN_cons, if_neg h92]
      exact ⟨by omega, wid_le _⟩
/-- one piece: the program goes on behind it, ends, or tells the same -/
theorem ext_piece {z : ByteArray} {inP : Bool} {pos f : Nat} {a : UInt8} {t : List UInt8} (h : (byt z).drop pos = a :: t) (hf : z.size - pos ≤ f) :
    (stopsL inP (a :: t) = true ∧ extGo z inP f pos = (pos, 0)) ∨ (stopsL inP (a :: t) = false ∧ pcE (a :: t) ≠ 0 ∧ extGo z inP f pos = (pos, pcE (a :: t))) ∨ (stopsL inP (a :: t) = false ∧ pcE (a :: t) = 0 ∧ ∃ f', z.size - (pos + pcN (a :: t)) ≤ f' ∧ extGo z inP f pos = extGo z inP f' (pos + pcN (a :: t))) := by
  have hlt := drop_lt_size h
  obtain ⟨f, rfl⟩ : ∃ f', f = f' + 1 := ⟨f - 1, by omega⟩
  have hE := extE_is h (Nat.le_of_lt hlt)
  by_cases hst : a = 41 ∨ (a = 42 ∧ inP = true)
  · refine .inl ⟨?_, ext_stop h ?_ ?_⟩
    · rcases hst with rfl | ⟨rfl, rfl⟩ <;> simp [stopsL]
    · rcases hst with rfl | ⟨rfl, -⟩ <;> decide
    · rcases hst with rfl | ⟨rfl, rfl⟩
      · cases inP <;> decide
      · decide
  · have hns : stopsL inP (a :: t) = false := by
      show (a == 41 || (inP && a == 42)) = false
      rw [not_or, not_and] at hst
      cases inP
      · simpa using hst.1
      · have h2 : a ≠ 42 := fun e => hst.2 e rfl
        simpa using ⟨hst.1, h2⟩
    by_cases h92 : a.toNat = 92
    · have ha : a = 92 := UInt8.toNat.inj h92
      subst ha
      have hdec := (dec_at z pos 92 t h).1 (by decide)
      have hE2 : extE z pos = if escdB t then 0 else 11 := by
        rw [hE]
        unfold unescL
        rw [show ((92 : UInt8) :: t).take 3 = 92 :: t.take 2 from rfl, List.length_cons, unesc_bs _ 92 _ (by decide), (escd_take t).1]
        cases hb : escdB t
        · rfl
        · rw [if_pos rfl, List.drop_eq_nil_of_le (by rw [List.length_take]; omega), unescGo_nil]; rfl
      have hpE : pcE (92 :: t) = if escdB t then 0 else 11 := by rw [pcE_cons, if_pos (by decide)]
      cases hb : escdB t with
      | false =>
        rw [hb] at hE2 hpE
        refine .inr (.inl ⟨hns, by rw [hpE]; decide, ?_⟩)
        rw [extGo, if_pos hlt, hdec, hpE]
        simp only
        rw [if_neg (by cases inP <;> decide), if_pos ⟨by cases inP <;> decide, by rw [hE2]; decide⟩, hE2]
      | true =>
        rw [hb] at hE2 hpE
        refine .inr (.inr ⟨hns, hpE, ?_⟩)
        match t, hb, h with
        | x :: y :: u, hb, h =>
          have hb2 : (adigB x.toNat && adigB y.toNat) = true := hb
          rw [Bool.and_eq_true] at hb2
          have h1 : (byt z).drop (pos + 1) = x :: y :: u := drop_add (x := [92]) h
          have h2 : (byt z).drop (pos + 1 + 1) = y :: u := drop_add (x := [x]) h1
          have hlt2 := drop_lt_size h2
          obtain ⟨f, rfl⟩ : ∃ f', f = f' + 2 := ⟨f - 2, by omega⟩
          obtain ⟨x1, x2⟩ := adig_k inP _ hb2.1
          obtain ⟨y1, y2⟩ := adig_k inP _ hb2.2
          refine ⟨f, ?_, ?_⟩
          · rw [pcN_cons, if_pos (by decide)]; omega
          · have hN : pcN (92 :: x :: y :: u) = 3 := by rw [pcN_cons, if_pos (by decide)]
            rw [hN, extGo, if_pos hlt, hdec]
            simp only
            rw [if_neg (by cases inP <;> decide), if_neg (by rw [hE2]; simp)]
            rw [show f + 2 = (f + 1) + 1 from rfl, ext_step h1 x1 x2, ext_step h2 y1 y2]
    · cases hr : resv a.toNat with
      | true =>
        have hw1 := wid_ascii a t (resv_ascii _ hr)
        have hpE : pcE (a :: t) = 12 := by rw [pcE_cons, if_neg h92, if_pos hr]
        have hE2 : extE z pos = 12 := by
          rw [hE]
          unfold unescL
          rw [show (a :: t).take 3 = a :: t.take 2 from rfl, List.length_cons, unesc_resv _ a _ h92 (by rw [wid_ascii a _ (resv_ascii _ hr)]; decide) hr]
          rfl
        have hk : extK inP a.toNat = 1 := by
          have ha : a.toNat = 0 ∨ a.toNat = 40 ∨ a.toNat = 41 ∨ a.toNat = 42 := by
            unfold resv at hr
            simp only [Bool.or_eq_true, beq_iff_eq] at hr
            omega
          have h41 : a.toNat ≠ 41 := fun e => hst (.inl (UInt8.toNat.inj e))
          unfold extK
          rw [if_neg, if_pos (by omega)]
          rintro (e | ⟨e, e2⟩)
          · exact h41 e
          · exact hst (.inr ⟨UInt8.toNat.inj e, e2⟩)
        refine .inr (.inl ⟨hns, by rw [hpE]; decide, ?_⟩)
        rw [extGo, if_pos hlt, (dec_at z pos a t h).1 (resv_ascii _ hr), hpE]
        simp only [hk]
        rw [if_neg (by decide), if_pos ⟨trivial, by rw [hE2]; decide⟩, hE2]
      | false =>
        by_cases hw : wid (a :: t) = 0
        · have ha : 128 ≤ a.toNat := by
            by_cases ha : 128 ≤ a.toNat
            · exact ha
            · have := wid_ascii a t (by omega); omega
          have hpE : pcE (a :: t) = 10 := by rw [pcE_cons, if_neg h92, hr, if_neg (by decide), if_pos hw]
          have hwx : wid (a :: t.take 2) = 0 := by
            by_cases e : wid (a :: t.take 2) = 0
            · exact e
            · have h3 := wid_app (a :: t.take 2) (t.drop 2) e
              rw [List.cons_append, List.take_append_drop] at h3
              omega
          have hE2 : extE z pos = 10 := by
            rw [hE]
            unfold unescL
            rw [show (a :: t).take 3 = a :: t.take 2 from rfl, List.length_cons, unesc_utf _ a _ h92 hwx]
            rfl
          obtain ⟨-, d2⟩ := dec_at z pos a t h
          obtain ⟨e1, e2, e3⟩ := d2 ha
          have hd := decode_wid z pos hlt
          rw [h, hw] at hd
          have hc := e2 (by rw [hd]; rfl)
          refine .inr (.inl ⟨hns, by rw [hpE]; decide, ?_⟩)
          rw [extGo, if_pos hlt, hc, hpE]
          rw [if_neg (by cases inP <;> decide), if_pos ⟨by cases inP <;> decide, by rw [hE2]; decide⟩, hE2]
        · have hpE : pcE (a :: t) = 0 := by rw [pcE_cons, if_neg h92, hr, if_neg (by decide), if_neg hw]
          refine .inr (.inr ⟨hns, hpE, f, ?_, ?_⟩)
          · rw [pcN_cons, if_neg h92]; omega
          · rw [ext_wide h hw hr, pcN_cons, if_neg h92]
theorem dv_ext (z : ByteArray) (inP : Bool) : ∀ (g pos f : Nat) (b : List UInt8), pos ≤ z.size → z.size - pos < g → z.size - pos ≤ f →
    ((extGo z inP f pos).2 = 0 ∧ pos ≤ (extGo z inP f pos).1 ∧ ∃ x, unescL (((byt z).drop pos).take ((extGo z inP f pos).1 - pos)) = .ok x ∧ dvGo z inP g pos b = .ok (b ++ x) (extGo z inP f pos).1) ∨ ((extGo z inP f pos).2 ≠ 0 ∧ dvGo z inP g pos b = .bad (extGo z inP f pos).2 (extGo z inP f pos).1)
  | 0, pos, f, b, _, hg, _ => by omega
  | g + 1, pos, f, b, hp, hg, hf => by
    cases hl : (byt z).drop pos with
    | nil =>
      have hz := at_end' hl hp
      subst hz
      rw [extGo_end z inP f z.size (by omega)]
      refine .inl ⟨rfl, Nat.le_refl _, [], by rw [List.take_nil]; rfl, ?_⟩
      rw [dvGo, hl, show stopsL inP [] = true from rfl, if_pos rfl, List.append_nil]
    | cons a t =>
      have hsz := drop_size hl hp
      rcases ext_piece (inP := inP) hl hf with ⟨h1, h2⟩ | ⟨h1, h2, h3⟩ | ⟨h1, h2, f', h3, h4⟩
      · rw [h2]
        refine .inl ⟨rfl, Nat.le_refl _, [], ?_, ?_⟩
        · rw [Nat.sub_self]; rfl
        · rw [dvGo, hl, h1, if_pos rfl, List.append_nil]
      · rw [h3]
        refine .inr ⟨h2, ?_⟩
        rw [dvGo, hl, h1, if_neg (by decide), if_neg h2]
      · obtain ⟨n1, n2⟩ := pcN_pos a t h2
        rw [h4]
        have hd : (byt z).drop (pos + pcN (a :: t)) = (a :: t).drop (pcN (a :: t)) := by rw [← List.drop_drop, hl]
        rcases dv_ext z inP g (pos + pcN (a :: t)) f' (b ++ pcS (a :: t)) (by omega) (by omega) h3 with ⟨i1, i2, x, i3, i4⟩ | ⟨i1, i2⟩
        · refine .inl ⟨i1, by omega, pcS (a :: t) ++ x, ?_, ?_⟩
          · rw [hd] at i3
            have e : (a :: t).take ((extGo z inP f' (pos + pcN (a :: t))).1 - pos) = (a :: t).take (pcN (a :: t)) ++ ((a :: t).drop (pcN (a :: t))).take ((extGo z inP f' (pos + pcN (a :: t))).1 - (pos + pcN (a :: t))) := by
              rw [← List.take_add]
              congr 1
              omega
            rw [e]
            exact unescL_app _ _ _ _ (unesc_one a t h2) i3
          · rw [dvGo, hl, h1, if_neg (by decide), if_pos h2, i4, List.append_assoc]
        · refine .inr ⟨i1, ?_⟩
          rw [dvGo, hl, h1, if_neg (by decide), if_pos h2, i2]
where
  at_end' {z : ByteArray} {pos : Nat} (h : (byt z).drop pos = []) (hp : pos ≤ z.size) : pos = z.size := by
    have := drop_size h hp
    simpa using this.symm
theorem dv_shift (s z : ByteArray) (inP : Bool) (p : Nat) (hz : byt z = (byt s).drop p) : ∀ (g pos : Nat) (b : List UInt8), dvGo s inP g (p + pos) b = match dvGo z inP g pos b with
    | .ok x q => .ok x (p + q)
    | .bad c a => .bad c (p + a)
  | 0, pos, b => rfl
  | g + 1, pos, b => by
    have hd : (byt s).drop (p + pos) = (byt z).drop pos := by rw [hz, List.drop_drop]
    rw [dvGo, dvGo, hd]
    by_cases h1 : stopsL inP ((byt z).drop pos) = true
    · rw [if_pos h1, if_pos h1]
    · rw [if_neg h1, if_neg h1]
      by_cases h2 : pcE ((byt z).drop pos) = 0
      · rw [if_pos h2, if_pos h2, Nat.add_assoc]
        exact dv_shift s z inP p hz g _ _
      · rw [if_neg h2, if_neg h2]
/-- the document's value is the program's -/
theorem dvR_is {s : ByteArray} {p : Nat} (inP : Bool) (hp : p ≤ s.size) : dvR s inP p = valR s inP p := by
  have hz : byt (s.extract p s.size) = (byt s).drop p := byt_from s p
  have hsz := size_from s p
  have hsh := dv_shift s (s.extract p s.size) inP p hz (s.size + 1) 0 []
  rw [show p + 0 = p from rfl] at hsh
  have hv := val_parts s p inP
  have e1 : valN s p inP = (extGo (s.extract p s.size) inP (s.extract p s.size).size 0).1 := congrArg Prod.fst hv
  have e2 : valE s p inP = (extGo (s.extract p s.size) inP (s.extract p s.size).size 0).2 := congrArg Prod.snd hv
  unfold dvR valR
  rw [hsh]
  rcases dv_ext (s.extract p s.size) inP (s.size + 1) 0 (s.extract p s.size).size [] (Nat.zero_le _) (by rw [hsz]; omega) (Nat.sub_le _ _) with ⟨h1, h2, x, h3, h4⟩ | ⟨h1, h2⟩
  · rw [h4, ← e1]
    rw [← e1, Nat.sub_zero, List.drop_zero, hz] at h3
    rw [← e2] at h1
    rw [if_pos h1]
    have hS : valS s p inP = str x := by
      unfold valS
      rw [byt_extract, Nat.add_sub_cancel_left, h3]
      rfl
    rw [hS]
    have hx : (str x).size = x.length := by rw [← byt_length, byt_str]
    rw [hx]
    show (if x.length ≤ 65536 then _ else _) = _
    rfl
  · rw [h2, ← e1, ← e2]
    rw [← e2] at h1
    rw [if_neg h1]
    rfl
end Go.Proofs.YtfkepclgadeeeaaGreatDoor

/-
  The document's reader: a value.
-/
namespace Go.Proofs.YtfkepclgadeeeaaGreatDoor
open Go.RowKit

/-- a text as the document reads it -/
def RvPost (w : World) (R : Nat) (s : ByteArray) (k : Nat) (o : Tr ByteArray) (e : Ending) (w' : World) : Prop :=
  Only (fun g => g = R) w w' ∧ match o with
  | .ok x q => e = .returned (.tuple #[.string x, .bool true]) ∧ RfT w' R s q k okF
  | .bad c a => ∃ q, e = .returned (.tuple #[.string ⟨#[]⟩, .bool false]) ∧ RfT w' R s q k (flF s c a)
theorem Only.belowB {S : Nat → Prop} {w wr w' : World} (h : Only S w wr) (k : Below w.heap.size wr w') : Only S w w' :=
  ⟨k.os.trans h.os, k.tape.trans h.tape, k.output.trans h.output, Nat.le_trans h.size k.size, fun g hg hn => (k.block g hg).trans (h.block g hg hn)⟩
theorem Own.only {S : Nat → Prop} {w w' : World} {B : Nat} {v : Value} {l : List UInt8} (h : Own w B v l) (o : Only S w w') (hS : ∀ g, B ≤ g → ¬ S g) : Own w' B v l := by
  refine ⟨h.1, ?_⟩
  rcases h.2 with h2 | ⟨g, cap, cur, hv, hg, hh, r⟩
  · exact .inl h2
  · exact .inr ⟨g, cap, cur, hv, hg, by rw [o.block g (Array.getElem?_eq_some_iff.1 hh).1 (hS g hg)]; exact hh, r⟩
theorem Own.drewN {w : World} {B : Nat} {v : Value} {l : List UInt8} (h : Own w B v l) (n : Nat) : Own (w.drewN n) B v l := h.only (Ext.only (S := fun _ => False) ((Ext.refl w).drewN n)) (fun _ _ h => h)
theorem Own.form {w : World} {B : Nat} {v : Value} {l : List UInt8} (h : Own w B v l) : ∃ a c, v = .slice a l.length c := by
  rcases h.2 with ⟨h1, h2⟩ | ⟨g, cap, cur, hv, -⟩
  · exact ⟨none, 0, by rw [h1, h2]⟩
  · exact ⟨_, _, hv⟩
theorem RfT.below {w w' : World} {B R : Nat} {s : ByteArray} {p k : Nat} {f : FtR} (h : RfT w R s p k f) (b : Below B w w') (hR : R < B) : RfT w' R s p k f := (b.block R hR).trans h
/-- what stands between two pieces of a value -/
structure VI (w : World) (R : Nat) (s : ByteArray) (p0 k : Nat) (star : Bool) (n : Nat) (v : Value) (p : Nat) (b : List UInt8) (wr : World) : Prop where
  rd : RfT wr R s p k okF
  on : Only (fun g => g = R) w wr
  ow : Own wr w.heap.size v b
  le : p ≤ s.size
  ms : s.size - p ≤ n
  ln : b.length ≤ p
  eq : dvR s star p0 = (dvGo s star (n + 1) p b).bind fun b q => if b.length ≤ 65536 then .ok (str b) q else .bad 3 p0
theorem VI.stop {w wr : World} {R : Nat} {s : ByteArray} {p0 k : Nat} {star : Bool} {n : Nat} {v : Value} {p : Nat} {b : List UInt8} (h : VI w R s p0 k star n v p b wr) (hst : stopsL star ((byt s).drop p) = true) : dvR s star p0 = if b.length ≤ 65536 then .ok (str b) p else .bad 3 p0 := by
  rw [h.eq, dvGo, if_pos hst]; rfl
theorem VI.bad {w wr : World} {R : Nat} {s : ByteArray} {p0 k : Nat} {star : Bool} {n : Nat} {v : Value} {p : Nat} {b : List UInt8} (h : VI w R s p0 k star n v p b wr) (hst : stopsL star ((byt s).drop p) = false) (he : pcE ((byt s).drop p) ≠ 0) : dvR s star p0 = .bad (pcE ((byt s).drop p)) p := by
  rw [h.eq, dvGo, if_neg (by rw [hst]; decide), if_neg he]; rfl
theorem VI.go {w wr : World} {R : Nat} {s : ByteArray} {p0 k : Nat} {star : Bool} {n : Nat} {v : Value} {p : Nat} {b : List UInt8} (h : VI w R s p0 k star (n + 1) v p b wr) (hst : stopsL star ((byt s).drop p) = false) (he : pcE ((byt s).drop p) = 0) : dvR s star p0 = (dvGo s star (n + 1) (p + pcN ((byt s).drop p)) (b ++ pcS ((byt s).drop p))).bind fun b q => if b.length ≤ 65536 then .ok (str b) q else .bad 3 p0 := by
  rw [h.eq, dvGo, if_neg (by rw [hst]; decide), if_pos he]
/-- where a value ends, and where it does not -/
theorem stops_cases (s : ByteArray) (star : Bool) (p : Nat) :
    (stopsL star ((byt s).drop p) = true ∧ (¬ p < s.size ∨ (∃ h : p < s.size, ((s[p].toNat : Int) != 41) = false) ∨ (star = true ∧ ∃ h : p < s.size, ((s[p].toNat : Int) != 41) = true ∧ ((s[p].toNat : Int) != 42) = false))) ∨
    (stopsL star ((byt s).drop p) = false ∧ ∃ h : p < s.size, ((s[p].toNat : Int) != 41) = true ∧ (star = true → ((s[p].toNat : Int) != 42) = true)) := by
  by_cases hlt : p < s.size
  · have hd : (byt s).drop p = s[p] :: (byt s).drop (p + 1) := drop_one s p hlt
    have h41 : (s[p] == 41) = ((s[p].toNat : Int) == 41) := (beq_int s[p] 41).symm
    have h42 : (s[p] == 42) = ((s[p].toNat : Int) == 42) := (beq_int s[p] 42).symm
    have hs : stopsL star ((byt s).drop p) = (((s[p].toNat : Int) == 41) || (star && ((s[p].toNat : Int) == 42))) := by
      rw [hd, ← h41, ← h42]; rfl
    rw [hs]
    simp only [bne]
    cases e1 : ((s[p].toNat : Int) == 41) <;> cases star <;> cases e2 : ((s[p].toNat : Int) == 42) <;> simp [hlt, e1, e2]
  · refine .inl ⟨?_, .inl hlt⟩
    rw [drop_end s p hlt]; rfl
set_option maxRecDepth 100000 in
set_option maxHeartbeats 8000000 in
theorem rvalue_any (w : World) (R : Nat) (s : ByteArray) (p0 k : Nat) (star : Bool) (hr : RfT w R s p0 k okF) (hs : s.size ≤ 8796093022000) (hp : p0 ≤ s.size) :
    Calls Tryz.prog 35 #[.pointer (some ⟨R, 0, none⟩), .bool star] w (RvPost w R s k (dvR s star p0)) := by
  have hRw : R < w.heap.size := (Array.getElem?_eq_some_iff.1 hr).1
  obtain ⟨c0, c1, c2, c3, c4, c5, fz⟩ := hr.cells
  have hI : Hid (VI w R s p0 k star s.size (.slice none 0 0) p0 [] w) := ⟨hr, Only.refl _ _, World.ownsRow_nil _ _ _ _, hp, by omega, Nat.zero_le _, rfl⟩
  obtain ⟨o, ho⟩ : ∃ o, Hid (o = dvR s star p0) := ⟨_, rfl⟩
  rw [← ho.out]
  clear c0 c2 c3 c4 c5 hr
  go_enter Tryz.func35, Tryz.ntmps35
  go_wp2
  clear c1 fz
  go_loopg [7] s.size (fun n v wr => ∃ (p : Nat) (b : List UInt8), Hid (VI w R s p0 k star n v p b wr))
  case atStart => exact ⟨p0, [], hI⟩
  case round =>
    clear hI
    obtain ⟨p, b, hI⟩ := hrel
    obtain ⟨r1, o1, w1, hp1, hm, hln, -⟩ := hI.out
    obtain ⟨c0, c1, c2, c3, c4, c5, fz⟩ := r1.cells
    clear c2 c3 c4 c5
    rcases stops_cases s star p with ⟨hst, hc⟩ | ⟨hst, hlt, h41, h42⟩
    · have hv : Hid (o = if b.length ≤ 65536 then .ok (str b) p else .bad 3 p0) := ho.out.trans (hI.out.stop hst)
      obtain ⟨va, vc, rfl⟩ := w1.form
      clear hst ho
      rcases hc with hlt | ⟨hlt, h41⟩ | ⟨rfl, hlt, h41, h42⟩
      all_goals
        first
          | have hlti : (p : Int) < (s.size : Int) := by omega
          | have hlti : decide (p < s.size) = false := by simp; omega
        go_wp2_with fail
        go_quiet (fail)
        have r2 := r1.drewN nq
        have o2 := o1.drewN nq
        have w2 := w1.drewN nq
        clear c0 c1 fz r1 o1 w1 hI
        generalize wr.drewN nq = w4 at r2 o2 w2 ⊢
        by_cases h65 : b.length ≤ 65536
        · have hv2 : Hid (o = .ok (str b) p) := by have := hv.out; rw [if_pos h65] at this; exact this
          have h65i : ¬ (65536 : Int) < (b.length : Int) := by omega
          have hcv := w2.conv
          have hz : Hid (RvPost w R s k (.ok (str b) p) (.returned (.tuple #[.string (str b), .bool true])) w4) := ⟨o2, rfl, r2⟩
          clear h65 hv r2 o2 w2
          go_wp2
          go_ret2
          rw [hv2.out]
          exact hz.out
        · have hv2 : Hid (o = .bad 3 p0) := by have := hv.out; rw [if_neg h65] at this; exact this
          have h65i : (65536 : Int) < (b.length : Int) := by omega
          have hF := fails_any w4 R s p k 3 p0 r2 (by omega) hp
          clear h65 hv w2
          go_wp2_with fail
          go_at_call 18
          refine hF.mono ?_
          rintro _ w5 ⟨rfl, r5, o5⟩
          have hz : Hid (RvPost w R s k (.bad 3 p0) (.returned (.tuple #[.string ⟨#[]⟩, .bool false])) w5) := ⟨o2.then o5, p, rfl, r5⟩
          go_wp2
          go_ret2
          rw [hv2.out]
          exact hz.out
    · obtain ⟨va, vc, rfl⟩ := w1.form
      have hlti : (p : Int) < (s.size : Int) := by omega
      have hH := hI.out
      have h0 : 0 < (s.extract p s.size).size := by rw [size_from]; omega
      have hP := fun W => Piece_any W (s.extract p s.size) h0 (by rw [size_from]; omega)
      rw [byt_from] at hP
      have hcell : (byt s).drop p ≠ [] := by
        rw [drop_one s p hlt]; exact fun e => by cases e
      have hl3 := pcS_len _ hcell
      rw [List.length_drop, byt_length] at hl3
      have hpsi : (p : Int) ≤ (s.size : Int) := by omega
      by_cases he : pcE ((byt s).drop p) = 0
      · have hl4 := hl3 he
        obtain ⟨m, rfl⟩ : ∃ m, gk = m + 1 := ⟨gk - 1, by omega⟩
        have hv : Hid (dvR s star p0 = _) := hH.go hst he
        have v1 : str (pcV ((byt s).drop p)) = str (pcS ((byt s).drop p)) := by unfold pcV; rw [if_pos he]
        have v2 : pcM ((byt s).drop p) = pcN ((byt s).drop p) := by unfold pcM; rw [if_pos he]
        rw [v1, v2, he] at hP
        have v3 := byt_str (pcS ((byt s).drop p))
        have v4 : (str (pcS ((byt s).drop p))).size = (pcS ((byt s).drop p)).length := by rw [← byt_length, byt_str]
        clear v1 v2 hl3 hcell h0 hst hH hI he ho
        generalize pcS ((byt s).drop p) = x at *
        generalize pcN ((byt s).drop p) = n at *
        generalize str x = xs at *
        have hni : (n : Int) = (n : Int) := rfl
        obtain ⟨q, hq⟩ : ∃ q, Hid (q = p + n) := ⟨_, rfl⟩
        have hqi : (p : Int) + (n : Int) = (q : Int) := by have := hq.out; omega
        cases star
        all_goals
          first
            | replace h42 := h42 rfl
            | clear h42
          go_wp2_with fail
          go_quiet (fail)
          have r2 := r1.drewN nq
          have o2 := o1.drewN nq
          have w2 := w1.drewN nq
          clear c0 c1 fz r1 o1 w1 hni
          generalize wr.drewN nq = w4 at r2 o2 w2 ⊢
          obtain ⟨c0, c1, -, -, -, -, fz⟩ := r2.cells
          have hU2 : Calls Tryz.prog 59 #[.string (s.extract p s.size)] w4.drew fun e w' => e = .returned (.tuple #[.string xs, .int .i64 n, .int .i64 0]) ∧ Hid (Ext w4 w') ∧ w'.cell? ⟨R, 0, none⟩ = some (.string s) ∧ w'.cell? ⟨R, 1, none⟩ = some (.int .i64 p) := by
            refine (hP w4.drew).mono ?_
            rintro e w5 ⟨rfl, h3⟩
            have y := ((Ext.refl w4).drew).trans h3.1
            exact ⟨rfl, y, y.cell c0, y.cell c1⟩
          clear fz hP
          go_wp2_with fail
          go_region_held3 (fun W => W.cell? ⟨R, 0, none⟩ = some (.string s) ∧ W.cell? ⟨R, 1, none⟩ = some (.int .i64 p)) (go_keep) ((go_at_call 59; refine hU2.mono ?_; rintro _ w5 ⟨rfl, y, z0, z1⟩))
          have r5 := r2.ext y.out
          have o5 := o2.ext y.out
          have w5o := w2.below y.out
          have hB5 : w.heap.size ≤ w5.heap.size := o5.size
          clear r2 o2 w2 c0 c1 hU2 z0 z1
          have hl7 : b.length + xs.size ≤ 140737488355328 := by omega
          clear y
          go_wp2_with (at_builtin; refine wpList_pushS rfl _ _ rfl w.heap.size _ _ w5o hB5 rfl _ rfl hl7 ?_; intro v6 w6 ho6 hf6; have r6 := r5.below hf6.1 hRw; have o6 := o5.belowB hf6.1; clear r5 o5 w5o hB5; obtain ⟨d0, d1, -, -, -, -, dz⟩ := r6.cells)
          go_roundg m
          case measure => omega
          case rel =>
            have hq2 := hq.out
            have x7 := setOnly w6 R 1 (.int .i64 (q : Int))
            refine ⟨q, b ++ x, ⟨r6.set1 q, o6.then x7, ?_, by omega, by omega, by rw [List.length_append]; omega, by rw [hq2]; exact hv.out⟩⟩
            rw [← v3]
            exact ho6.only x7 (fun g hg e => by omega)
      · have hv : Hid (o = .bad (pcE ((byt s).drop p)) p) := ho.out.trans (hH.bad hst he)
        have hei : ((pcE ((byt s).drop p) : Int) != 0) = true := by simp; omega
        clear hl3 hcell h0 hst hH hI he ho
        generalize pcE ((byt s).drop p) = ec at *
        generalize str (pcV ((byt s).drop p)) = xs at *
        generalize pcM ((byt s).drop p) = n at *
        cases star
        all_goals
          first
            | replace h42 := h42 rfl
            | clear h42
          go_wp2_with fail
          go_quiet (fail)
          have r2 := r1.drewN nq
          have o2 := o1.drewN nq
          clear c0 c1 fz r1 o1 w1
          generalize wr.drewN nq = w4 at r2 o2 ⊢
          obtain ⟨c0, c1, -, -, -, -, fz⟩ := r2.cells
          have hU2 : Calls Tryz.prog 59 #[.string (s.extract p s.size)] w4.drew fun e w' => e = .returned (.tuple #[.string xs, .int .i64 n, .int .i64 ec]) ∧ Hid (Ext w4 w') ∧ w'.cell? ⟨R, 0, none⟩ = some (.string s) ∧ w'.cell? ⟨R, 1, none⟩ = some (.int .i64 p) := by
            refine (hP w4.drew).mono ?_
            rintro e w5 ⟨rfl, h3⟩
            have y := ((Ext.refl w4).drew).trans h3.1
            exact ⟨rfl, y, y.cell c0, y.cell c1⟩
          clear fz hP
          go_wp2_with fail
          go_region_held3 (fun W => W.cell? ⟨R, 0, none⟩ = some (.string s) ∧ W.cell? ⟨R, 1, none⟩ = some (.int .i64 p)) (go_keep) ((go_at_call 59; refine hU2.mono ?_; rintro _ w5 ⟨rfl, y, z0, z1⟩))
          have r5 := r2.ext y.out
          have o5 := o2.ext y.out
          have hF := fails_any w5 R s p k ec p r5 (by omega) hp1
          clear r2 o2 r5
          go_wp2_with fail
          go_at_call 18
          refine hF.mono ?_
          rintro _ w6 ⟨rfl, r6, o6⟩
          have hz : Hid (RvPost w R s k (.bad ec p) (.returned (.tuple #[.string ⟨#[]⟩, .bool false])) w6) := ⟨o5.then o6, p, rfl, r6⟩
          go_wp2
          go_ret2
          rw [hv.out]
          exact hz.out
theorem rvalR_any (w : World) (R : Nat) (s : ByteArray) (p k : Nat) (star : Bool) (hr : RfT w R s p k okF) (hs : s.size ≤ 8796093022000) (hp : p ≤ s.size) :
    Calls Tryz.prog 35 #[.pointer (some ⟨R, 0, none⟩), .bool star] w (RvPost w R s k (valR s star p)) := by
  rw [← dvR_is star hp]
  exact rvalue_any w R s p k star hr hs hp
end Go.Proofs.YtfkepclgadeeeaaGreatDoor

/-
  The document's reader: a description, as an outcome.
-/
namespace Go.Proofs.YtfkepclgadeeeaaGreatDoor
open Go.RowKit

theorem rdescR_any (w : World) (R : Nat) (s : ByteArray) (p k : Nat) (hr : RfT w R s p k okF) (hs : s.size ≤ 140737488355328) (hp : p ≤ s.size) :
    Calls Tryz.prog 32 #[.pointer (some ⟨R, 0, none⟩)] w (RvPost w R s k (descR s p)) := by
  refine (rdesc_any w R s p k hr hs hp).mono fun e w' ⟨r, o, h⟩ => ?_
  unfold RvPost descR
  refine ⟨o, ?_⟩
  subst h
  unfold descF at r
  by_cases h1 : (descP ((byt s).drop p)).2 = true
  · rw [if_pos h1] at r ⊢
    by_cases h2 : (descP ((byt s).drop p)).1 ≤ 65536
    · rw [if_pos h2] at r ⊢
      have hG : descG (descP ((byt s).drop p)) = true := by unfold descG; rw [h1, decide_eq_true h2]; rfl
      have hS : descS s p (descP ((byt s).drop p)) = s.extract p (p + (descP ((byt s).drop p)).1) := by unfold descS; rw [if_pos hG]
      rw [hG, hS]
      exact ⟨rfl, r⟩
    · rw [if_neg h2] at r ⊢
      have hG : descG (descP ((byt s).drop p)) = false := by unfold descG; rw [decide_eq_false h2, Bool.and_false]
      have hS : descS s p (descP ((byt s).drop p)) = ⟨#[]⟩ := by unfold descS; rw [if_neg (by rw [hG]; decide)]
      rw [hG, hS]
      exact ⟨_, rfl, r⟩
  · rw [if_neg h1] at r ⊢
    have hG : descG (descP ((byt s).drop p)) = false := by unfold descG; rw [show (descP ((byt s).drop p)).2 = false by simpa using h1]; rfl
    have hS : descS s p (descP ((byt s).drop p)) = ⟨#[]⟩ := by unfold descS; rw [if_neg (by rw [hG]; decide)]
    rw [hG, hS]
    exact ⟨_, rfl, r⟩
end Go.Proofs.YtfkepclgadeeeaaGreatDoor
