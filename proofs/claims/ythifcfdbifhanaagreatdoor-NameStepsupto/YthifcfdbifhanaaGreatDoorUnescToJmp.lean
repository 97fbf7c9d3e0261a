/-
  The contract of Unescape.
-/
import Derived.Test.YthifcfdbifhanaaGreatDoorNfullToEsc1
import Derived.Test.YthifcfdbifhanaaGreatDoorValidToSp
import Derived.Test.YthifcfdbifhanaaGreatDoorShelfToStrs
import Derived.Lib.IndexAny
import Derived.Shelf.Strings.IndexAnyAll
import Derived.Test.YthifcfdbifhanaaGreatDoorKeyToPst2
import Derived.Scope
import Derived.WalkMore
namespace Go.Proofs.YthifcfdbifhanaaGreatDoor
open Go.RowKit

theorem unesc_bs (f : Nat) (a : UInt8) (t : List UInt8) (h : a.toNat = 92) : unescGo (f + 1) (a :: t) = if escdB t then (unescGo f (t.drop 2)).map (escdV t :: ·) else .error 11 := by
  cases t with
  | nil => conv => lhs; unfold unescGo
           rw [if_pos h]; rfl
  | cons x t => cases t with
    | nil => conv => lhs; unfold unescGo
             rw [if_pos h]; rfl
    | cons y r => conv => lhs; unfold unescGo
                  rw [if_pos h]; rfl
theorem unesc_utf (f : Nat) (a : UInt8) (t : List UInt8) (h : ¬ a.toNat = 92) (hw : wid (a :: t) = 0) : unescGo (f + 1) (a :: t) = .error 10 := by
  conv => lhs; unfold unescGo
  rw [if_neg h, if_pos hw]
theorem unesc_resv (f : Nat) (a : UInt8) (t : List UInt8) (h : ¬ a.toNat = 92) (hw : ¬ wid (a :: t) = 0) (hr : resv a.toNat = true) : unescGo (f + 1) (a :: t) = .error 12 := by
  conv => lhs; unfold unescGo
  rw [if_neg h, if_neg hw, if_pos hr]
theorem unesc_plain (f : Nat) (a : UInt8) (t : List UInt8) (h : ¬ a.toNat = 92) (hw : ¬ wid (a :: t) = 0) (hr : resv a.toNat = false) : unescGo (f + 1) (a :: t) = (unescGo f ((a :: t).drop (wid (a :: t)))).map ((a :: t).take (wid (a :: t)) ++ ·) := by
  conv => lhs; unfold unescGo
  rw [if_neg h, if_neg hw, if_neg (by rw [hr]; simp)]
theorem map_map_app (x : Except Nat (List UInt8)) (p q : List UInt8) : (x.map (q ++ ·)).map (p ++ ·) = x.map ((p ++ q) ++ ·) := by cases x <;> simp [Except.map]
theorem map_map_cons (x : Except Nat (List UInt8)) (p : List UInt8) (b : UInt8) : (x.map (b :: ·)).map (p ++ ·) = x.map ((p ++ [b]) ++ ·) := by cases x <;> simp [Except.map]
theorem adigB_ascii (c : Nat) (h : adigB c = true) : c < 128 := by
  unfold adigB adig sdig at h
  split at h
  · omega
  · split at h
    · omega
    · split at h
      · omega
      · cases h
theorem escdB_two (s : ByteArray) (k : Nat) (h : escdB ((byt s).drop k) = true) : ∃ h1 : k + 1 < s.size, (s[k]'(by omega)).toNat < 128 ∧ s[k + 1].toNat < 128 := by
  have hl : ((byt s).drop k).length = s.size - k := by rw [List.length_drop, byt_length]
  by_cases h1 : k + 1 < s.size
  · refine ⟨h1, ?_⟩
    rw [drop_two s k h1] at h
    simp only [escdB, Bool.and_eq_true] at h
    exact ⟨adigB_ascii _ h.1, adigB_ascii _ h.2⟩
  · exfalso
    cases hb : (byt s).drop k with
    | nil => rw [hb] at h; cases h
    | cons a t => cases t with
      | nil => rw [hb] at h; cases h
      | cons b r => rw [hb] at hl; simp at hl; omega
theorem unescGo_nil (f : Nat) : unescGo f [] = .ok [] := by cases f <;> rfl

set_option maxRecDepth 100000 in
set_option maxHeartbeats 2000000 in
theorem Unescape_any (w : World) (g off cap : Nat) (ht : Tab w g off cap) (s : ByteArray) (hs2 : s.size ≤ 140737488355328) :
    Calls Tryz.prog 94 #[.string s] w fun e w' => e = .returned (.tuple #[.string (str (exV (unescL (byt s)))), .int .i64 (exE (unescL (byt s)))]) ∧ Fr w.heap.size w w' := by
  go_enter Tryz.func94, Tryz.ntmps94
  go_wp2
  go_step3
  go_wp2_with (first
    | (at_make; refine wpList_make8 rfl _ _ rfl _ s.size rfl rfl ?c1 ?c2 ?_))
  case c1 => rfl
  case c2 => omega
  intro v1 w1 hown1 hfr1
  go_wp2
  go_step3
  go_wp2
  have hIT : w.heap.size ≤ w1.heap.size := hfr1.size
  go_loopg [4, 5, 6] s.size (fun n v fl bh wr => ∃ (pos f b : Nat) (p : List UInt8), pos ≤ s.size ∧ s.size - pos ≤ n ∧ s.size - max pos b ≤ f ∧ p.length ≤ max pos b ∧ b ≤ s.size ∧ fl = .int .i64 0 ∧ bh = .int .i64 b ∧ (∀ (i : Nat) (hi : i < s.size), pos ≤ i → i < b → s[i].toNat < 128) ∧
    Own wr w.heap.size v p ∧ wr.heap[w1.heap.size]? = some (.stringIter s pos) ∧ unescL (byt s) = (unescGo f ((byt s).drop (max pos b))).map (p ++ ·) ∧ Fr w.heap.size w wr)
  case atStart => exact ⟨0, s.size, 0, [], Nat.zero_le _, by omega, by omega, by simp, by omega, rfl, rfl, fun i _ _ h => by omega, hown1.alloc _, World.iter_heap w1 s 0, by
      rw [unescL, byt_length]; simp only [Nat.max_self, List.drop_zero, List.nil_append]; cases unescGo s.size (byt s) <;> rfl, hfr1.alloc hIT _⟩
  case round =>
    obtain ⟨pos, f, b, p, hp, hn, hf, hpl, hb, rfl, rfl, hasc, hown, hit, hsp, hfr⟩ := hrel
    have HS : Hid _ := hsp
    have HA : Hid _ := hasc
    clear hsp hown1 hfr1 hasc
    by_cases hlt : pos < s.size
    · obtain ⟨m, rfl⟩ : ∃ m, gk = m + 1 := ⟨gk - 1, by omega⟩
      have hnx := fun ty => Lib.run_next_any_at (P := Tryz.prog) wr w1.heap.size s pos ty hit hlt
      have HD : Hid _ := decode_wid s pos hlt
      have HI : Hid _ := hit
      have HE : Hid _ := drop_one s pos hlt
      by_cases hpb : pos < b
      · have hpb' : (pos : Int) < (b : Int) := by omega
        clear hit
        go_wp2
        go_roundg m
        case measure => omega
        case rel =>
          have hd : (Utf8.decode s pos).2 = 1 := by
            rw [HD.out, HE.out, wid_ascii _ _ (HA.out pos hlt (Nat.le_refl _) hpb)]; rfl
          rw [hd]
          exact ⟨pos + 1, f, b, p, by omega, by omega, by omega, by omega, hb, rfl, rfl, fun i hi h1 h2 => HA.out i hi (by omega) h2, hown.iterAt HI.out _, Lib.iterAt_heap _ _ _ _ _ HI.out, by rw [show max (pos + 1) b = max pos b by omega]; exact HS.out, hfr.iterAt hIT hIT _ _⟩
      · have hpb' : decide ((pos : Int) < (b : Int)) = false := by simp; omega
        rw [show max pos b = pos by omega] at hf hpl
        have HS2 : Hid (unescL (byt s) = (unescGo f (s[pos] :: (byt s).drop (pos + 1))).map (p ++ ·)) := by
          show unescL (byt s) = _
          rw [← HE.out, HS.out, show max pos b = pos by omega]
        obtain ⟨f, rfl⟩ : ∃ f', f = f' + 1 := ⟨f - 1, by omega⟩
        have htW := ht.below (hfr.iterAt hIT hIT s (pos + (Utf8.decode s pos).2)).1 (Nat.le_refl _)
        have hsz : 0 < (s.extract pos s.size).size := by rw [size_from]; omega
        have hsz2 : (s.extract pos s.size).size ≤ 140737488355328 := by rw [size_from]; omega
        have HW : Hid (wid (byt (s.extract pos s.size)) = wid (s[pos] :: (byt s).drop (pos + 1))) := by rw [byt_from, drop_one s pos hlt]; rfl
        have HL : Hid (wid (s[pos] :: (byt s).drop (pos + 1)) ≤ s.size - pos) := by
          have := wid_le ((byt s).drop pos)
          rw [List.length_drop, byt_length, drop_one s pos hlt] at this
          exact this
        have hw1 : (wid (byt (s.extract pos s.size)) : Int) ≤ s.size - pos := by
          rw [HW.out]; have := HL.out; omega
        clear hit
        have own2 := fun (w2 : World) (hf : Fr (wr.iterAt w1.heap.size s (pos + (Utf8.decode s pos).2)).heap.size (wr.iterAt w1.heap.size s (pos + (Utf8.decode s pos).2)) w2) => own_kept hown HI.out hf
        have fr2 := fun (w2 : World) (hf : Fr (wr.iterAt w1.heap.size s (pos + (Utf8.decode s pos).2)).heap.size (wr.iterAt w1.heap.size s (pos + (Utf8.decode s pos).2)) w2) => fr_iter_call hfr hIT hIT (Nat.le_refl _) hf
        by_cases h92 : s[pos].toNat = 92
        · have g92 : ((s[pos].toNat : Int) == 92) = true := by rw [h92]; rfl
          have HB : Hid _ := unesc_bs f s[pos] ((byt s).drop (pos + 1)) h92
          have HY : Hid (byt (s.extract (pos + 1) s.size) = (byt s).drop (pos + 1)) := byt_from s (pos + 1)
          have ha : s[pos].toNat < 128 := by omega
          clear h92
          cases hok : escdB (byt (s.extract (pos + 1) s.size)) with
          | false =>
            rw [HY.out] at hok
            have HV : Hid (unescL (byt s) = .error 11) := by
              show unescL (byt s) = _
              rw [HS2.out, HB.out, hok]; rfl
            rw [← HY.out] at hok
            go_wp2_with (first
              | (go_at_call 69; refine (width_any _ g off cap htW _ hsz hsz2).mono ?_; rintro e w2 ⟨rfl, hf2⟩; have ho2 := own2 w2 hf2; have hr2 := fr2 w2 hf2)
              | (go_at_call 131; refine (escaped_any _ _).mono ?_; rintro e w9 ⟨rfl, rfl⟩))
            try rw [Exit.noGoto_ret]
            go_ret2
            exact ⟨ret_se (by rw [HV.out]; rfl) (by rw [HV.out]; rfl), hr2⟩
          | true =>
            rw [HY.out] at hok
            have HV : Hid (unescL (byt s) = (unescGo f ((byt s).drop (pos + 3))).map ((p ++ [escdV (byt (s.extract (pos + 1) s.size))]) ++ ·)) := by
              show unescL (byt s) = _
              rw [HS2.out, HB.out, hok, HY.out, if_pos rfl, map_map_cons, List.drop_drop]
            obtain ⟨hk2, d1, d2⟩ := escdB_two s (pos + 1) hok
            rw [← HY.out] at hok
            have hl1 : p.length + [escdV (byt (s.extract (pos + 1) s.size))].length ≤ 140737488355328 := by simp; omega
            have H1 : Hid _ := d1
            have H2 : Hid _ := d2
            clear d1 d2
            go_wp2_with (first
              | (go_at_call 69; refine (width_any _ g off cap htW _ hsz hsz2).mono ?_; rintro e w2 ⟨rfl, hf2⟩; have ho2 := own2 w2 hf2; have hr2 := fr2 w2 hf2)
              | (go_at_call 131; refine (escaped_any _ _).mono ?_; rintro e w9 ⟨rfl, rfl⟩)
              | (at_builtin; refine wpList_push rfl _ _ rfl _ w.heap.size _ p [escdV (byt (s.extract (pos + 1) s.size))] _ ho2 hr2.size rfl 1 1 rfl rfl rfl hl1 ?_; intro v3 w3 ho3 hr3))
            go_roundg m
            case measure => omega
            case rel =>
              have hd : (Utf8.decode s pos).2 = 1 := by
                rw [HD.out, HE.out, wid_ascii _ _ ha]; rfl
              refine ⟨pos + 1, f, pos + 3, _, by omega, by omega, by omega, ?_, by omega, rfl, by go_num, ?_, ho3, ?_, ?_, hr2.trans hr3⟩
              · simp; omega
              · intro i hi h1 h2
                rcases (show i = pos + 1 ∨ i = pos + 1 + 1 by omega) with e | e
                · subst e; exact H1.out
                · subst e; exact H2.out
              · have := hr3.iter (iter_kept HI.out hf2)
                rw [hd] at this
                exact this
              · rw [show max (pos + 1) (pos + 3) = pos + 3 by omega]; exact HV.out
        · have g92 : ((s[pos].toNat : Int) == 92) = false := by simp; omega
          by_cases hw : wid (byt (s.extract pos s.size)) = 0
          · have hw' : ((wid (byt (s.extract pos s.size)) : Int) == 0) = true := by rw [hw]; rfl
            have HV : Hid (unescL (byt s) = .error 10) := by
              show unescL (byt s) = _
              rw [HW.out] at hw
              rw [HS2.out, unesc_utf f _ _ h92 hw]; rfl
            clear hw hw1
            go_wp2_with (first
              | (go_at_call 69; refine (width_any _ g off cap htW _ hsz hsz2).mono ?_; rintro e w2 ⟨rfl, hf2⟩; have ho2 := own2 w2 hf2; have hr2 := fr2 w2 hf2))
            try rw [Exit.noGoto_ret]
            go_ret2
            exact ⟨ret_se (by rw [HV.out]; rfl) (by rw [HV.out]; rfl), hr2⟩
          · have hw' : ((wid (byt (s.extract pos s.size)) : Int) == 0) = false := by simp; omega
            by_cases hr : resv s[pos].toNat = true
            · have HV : Hid (unescL (byt s) = .error 12) := by
                show unescL (byt s) = _
                rw [HW.out] at hw
                rw [HS2.out, unesc_resv f _ _ h92 hw hr]; rfl
              clear hw1
              go_wp2_with (first
                | (go_at_call 69; refine (width_any _ g off cap htW _ hsz hsz2).mono ?_; rintro e w2 ⟨rfl, hf2⟩; have ho2 := own2 w2 hf2; have hr2 := fr2 w2 hf2)
                | (go_at_call 132; refine (reserved_any _ (UInt8.toNat_lt _) _).mono ?_; rintro e w9 ⟨rfl, rfl⟩))
              try rw [Exit.noGoto_ret]
              go_ret2
              exact ⟨ret_se (by rw [HV.out]; rfl) (by rw [HV.out]; rfl), hr2⟩
            · have hr' : resv s[pos].toNat = false := by simpa using hr
              have HC : Hid (byt (s.extract pos (pos + wid (byt (s.extract pos s.size)))) = (s[pos] :: (byt s).drop (pos + 1)).take (wid (s[pos] :: (byt s).drop (pos + 1)))) := by
                show byt _ = _
                rw [byt_extract, Nat.add_sub_cancel_left, HW.out, HE.out]
              have HV : Hid (unescL (byt s) = (unescGo f ((byt s).drop (pos + wid (s[pos] :: (byt s).drop (pos + 1))))).map ((p ++ byt (s.extract pos (pos + wid (byt (s.extract pos s.size))))) ++ ·)) := by
                show unescL (byt s) = _
                rw [HW.out] at hw
                rw [HS2.out, unesc_plain f _ _ h92 hw hr', map_map_app, HC.out, ← HE.out, List.drop_drop]
              have hl3 : p.length + (s.extract pos (pos + wid (byt (s.extract pos s.size)))).size ≤ 140737488355328 := by
                rw [← byt_length, byt_extract, List.length_take]; omega
              have HP : Hid ((p ++ byt (s.extract pos (pos + wid (byt (s.extract pos s.size))))).length ≤ pos + wid (s[pos] :: (byt s).drop (pos + 1))) := by
                show List.length _ ≤ _
                rw [List.length_append, byt_extract, List.length_take, Nat.add_sub_cancel_left, HW.out]; omega
              go_wp2_with (first
                | (go_at_call 69; refine (width_any _ g off cap htW _ hsz hsz2).mono ?_; rintro e w2 ⟨rfl, hf2⟩; have ho2 := own2 w2 hf2; have hr2 := fr2 w2 hf2)
                | (go_at_call 132; refine (reserved_any _ (UInt8.toNat_lt _) _).mono ?_; rintro e w9 ⟨rfl, rfl⟩)
                | (at_builtin; refine wpList_pushS rfl _ _ rfl w.heap.size _ p ho2 hr2.size rfl _ rfl hl3 ?_; intro v3 w3 ho3 hr3))
              go_roundg m
              case measure => omega
              case rel =>
                rw [HW.out] at hw
                have hd : (Utf8.decode s pos).2 = wid (s[pos] :: (byt s).drop (pos + 1)) := by
                  rw [HD.out, HE.out]; omega
                have h1 := HL.out
                have h2 := HP.out
                refine ⟨pos + (Utf8.decode s pos).2, f, b, _, by omega, by omega, by omega, ?_, hb, rfl, rfl, fun i hi h1 h2 => by omega, ho3, hr3.iter (iter_kept HI.out hf2), ?_, hr2.trans hr3⟩
                · rw [hd]; omega
                · rw [show max (pos + (Utf8.decode s pos).2) b = pos + wid (s[pos] :: (byt s).drop (pos + 1)) by omega]; exact HV.out
    · have hnx := fun ty => Lib.run_next_end_at (P := Tryz.prog) wr w1.heap.size s pos ty hit hlt
      have hcv := hown.conv
      have HV : Hid (unescL (byt s) = .ok p) := by
        show unescL (byt s) = _
        rw [HS.out, drop_end s _ (by omega), unescGo_nil]; simp [Except.map]
      clear hit
      go_wp2
      try rw [Exit.noGoto_ret]
      go_ret2
      exact ⟨ret_se (by rw [HV.out]; rfl) (by rw [HV.out]; rfl), hfr⟩
end Go.Proofs.YthifcfdbifhanaaGreatDoor

/-
  Names' texts, plain: what a reader of them does.
-/
namespace Go.Proofs.YthifcfdbifhanaaGreatDoor
open Go.RowKit

/-- a type's word and a value -/
structure Av where
  t : ByteArray
  v : ByteArray
/-- a reader's state -/
structure RS where
  pos : Nat
  word : ByteArray
  frm : Nat
  prs : List Av
  pts : List (List Av)

def bAt (s : ByteArray) (k : Nat) : Int := if h : k < s.size then (s[k].toNat : Int) else -1
def behB (s : ByteArray) (k : Nat) : Bool := bAt s k == -1 || bAt s k == 44 || bAt s k == 43
def apartL : List UInt8 := [34, 43, 44, 59, 60, 62, 92, 0, 32]
def signsL : List UInt8 := [34, 43, 44, 59, 60, 62, 92, 61, 35, 32]
def runN (l : List UInt8) : Nat := if Lib.indexAny l apartL < 0 then l.length else (Lib.indexAny l apartL).toNat
def escP (l : List UInt8) : List UInt8 × Nat :=
  if 1 < l.length ∧ 0 ≤ Lib.indexByte signsL (l.getD 1 0) then ([l.getD 1 0], 2)
  else if exE (unescL (l.take 3)) = 0 then (exV (unescL (l.take 3)), (l.take 3).length) else ([], 0)
def tvP (s : ByteArray) (p : Nat) : Int × Nat :=
  if bAt s p = 92 then (if (escP ((byt s).drop p)).2 = 0 then (11, p) else (0, p + (escP ((byt s).drop p)).2))
  else if bAt s p = 32 then (if behB s (p + 1) then (50, p) else (0, p + 1))
  else if runN ((byt s).drop p) = 0 then (50, p) else (0, p + runN ((byt s).drop p))
def ttN (s : ByteArray) (p : Nat) : Nat := p + (wGo 0 false ((byt s).drop p)).1
def ttP (s : ByteArray) (r : RS) : Int × RS :=
  if ttN s r.pos = s.size then (5, { r with pos := ttN s r.pos })
  else if (wGo 0 false ((byt s).drop r.pos)).2 = false ∨ bAt s (ttN s r.pos) ≠ 61 then (50, { r with pos := ttN s r.pos })
  else (0, { r with pos := ttN s r.pos + 1, word := s.extract r.pos (ttN s r.pos), frm := ttN s r.pos + 1 })
def mnP : Nat → List UInt8 → List UInt8
  | 0, l => l
  | f + 1, l => if Lib.indexByte l 92 < 0 then l else l.take (Lib.indexByte l 92).toNat ++ (escP (l.drop (Lib.indexByte l 92).toNat)).1 ++ mnP f (l.drop ((Lib.indexByte l 92).toNat + (escP (l.drop (Lib.indexByte l 92).toNat)).2))
def mean (l : List UInt8) : List UInt8 := mnP (l.length + 1) l
def epP (s : ByteArray) (r : RS) : Int × RS :=
  if bAt s r.pos = 43 then (if r.prs.length + 1 = 8 then 3 else 0, { r with prs := r.prs ++ [⟨r.word, str (mean (byt (s.extract r.frm r.pos)))⟩] })
  else (if bAt s r.pos = 44 ∧ r.pts.length + 1 = 64 then 3 else 0, { r with prs := [], pts := r.pts ++ [r.prs ++ [⟨r.word, str (mean (byt (s.extract r.frm r.pos)))⟩]] })
/-- what a reader comes to: from the start (0), from a pair on (1), from a value on (2), within a value (3) -/
def rGo (s : ByteArray) : Nat → Nat → RS → Option (Int × RS)
  | 0, _, _ => none
  | f + 1, 0, r => if s.size = 0 then some (0, r) else rGo s f 1 r
  | f + 1, 1, r => if (ttP s r).1 = 0 then rGo s f 2 (ttP s r).2 else some (ttP s r)
  | f + 1, 2, r => if bAt s r.pos = 32 ∨ bAt s r.pos = 35 then some (50, r) else rGo s f 3 r
  | f + 1, _ + 3, r => if behB s r.pos then (if (epP s r).1 ≠ 0 ∨ r.pos = s.size then some (epP s r) else rGo s f 1 { (epP s r).2 with pos := r.pos + 1 })
    else if (tvP s r.pos).1 = 0 then rGo s f 3 { r with pos := (tvP s r.pos).2 } else some ((tvP s r.pos).1, r)
theorem rGo_mono (s : ByteArray) : ∀ f st r o, rGo s f st r = some o → rGo s (f + 1) st r = some o
  | 0, _, _, _, h => by simp [rGo] at h
  | f + 1, 0, r, o, h => by
    rw [rGo] at h ⊢
    split at h
    · rename_i e; rw [if_pos e]; exact h
    · rename_i e; rw [if_neg e]; exact rGo_mono s f _ _ _ h
  | f + 1, 1, r, o, h => by
    rw [rGo] at h ⊢
    split at h
    · rename_i e; rw [if_pos e]; exact rGo_mono s f _ _ _ h
    · rename_i e; rw [if_neg e]; exact h
  | f + 1, 2, r, o, h => by
    rw [rGo] at h ⊢
    split at h
    · rename_i e; rw [if_pos e]; exact h
    · rename_i e; rw [if_neg e]; exact rGo_mono s f _ _ _ h
  | f + 1, n + 3, r, o, h => by
    rw [rGo] at h ⊢
    split at h
    · rename_i e; rw [if_pos e]
      split at h
      · rename_i e; rw [if_pos e]; exact h
      · rename_i e; rw [if_neg e]; exact rGo_mono s f _ _ _ h
    · rename_i e; rw [if_neg e]
      split at h
      · rename_i e; rw [if_pos e]; exact rGo_mono s f _ _ _ h
      · rename_i e; rw [if_neg e]; exact h
theorem rGo_add (s : ByteArray) (f st : Nat) (r : RS) (o : Int × RS) (h : rGo s f st r = some o) : ∀ g, rGo s (f + g) st r = some o
  | 0 => h
  | g + 1 => rGo_mono s _ _ _ _ (rGo_add s f st r o h g)
theorem rGo_one (s : ByteArray) {f g st : Nat} {r : RS} {o o' : Int × RS} (h : rGo s f st r = some o) (h' : rGo s g st r = some o') : o = o' := by
  have a := rGo_add s f st r o h g
  have b := rGo_add s g st r o' h' f
  rw [Nat.add_comm] at b
  exact Option.some.inj (a.symm.trans b)
/-- the reader's end, whatever it takes -/
def Ends (s : ByteArray) (st : Nat) (r : RS) (o : Int × RS) : Prop := ∃ f, rGo s f st r = some o

/-! a \ and what belongs to it -/
theorem escP_take (l : List UInt8) : escP (l.take 3) = escP l := by
  unfold escP
  have h1 : (l.take 3).getD 1 0 = l.getD 1 0 := by
    match l with
    | [] => rfl
    | [_] => rfl
    | _ :: _ :: _ => rfl
  have h2 : 1 < (l.take 3).length ↔ 1 < l.length := by rw [List.length_take]; omega
  rw [h1, List.take_take, Nat.min_self]
  simp only [h2]
theorem escP_len (l : List UInt8) : (escP l).2 ≤ l.length := by
  unfold escP
  split
  · rename_i h; exact h.1
  · split
    · simp only [List.length_take]; omega
    · exact Nat.zero_le _
theorem unesc_short (l : List UInt8) (h : l.head? = some 92) (hl : l.length < 3) : exE (unescL l) ≠ 0 := by
  match l, h, hl with
  | [a], h, _ => obtain rfl : a = 92 := by simpa using h
                 decide
  | [a, b], h, _ =>
    obtain rfl : a = 92 := by simpa using h
    show exE (unescGo 2 (92 :: [b])) ≠ 0
    rw [unesc_bs 1 92 [b] rfl]
    simp [escdB, exE]
theorem escP_two (l : List UInt8) (h : l.head? = some 92) (hn : 0 < (escP l).2) : ((escP l).2 = 2 ∧ 1 < l.length ∧ 0 ≤ Lib.indexByte signsL (l.getD 1 0)) ∨ ((escP l).2 = 3 ∧ 3 ≤ l.length) := by
  unfold escP at hn ⊢
  split at hn
  · rename_i e; rw [if_pos e]; exact .inl ⟨rfl, e⟩
  · rename_i e; rw [if_neg e]
    split at hn
    · rename_i e2; rw [if_pos e2]
      have h3 : 3 ≤ l.length := by
        apply Classical.byContradiction; intro q
        refine unesc_short (l.take 3) ?_ (by rw [List.length_take]; omega) e2
        cases l with
        | nil => cases h
        | cons a t => simpa using h
      exact .inr ⟨by simp only [List.length_take]; omega, h3⟩
    · exact absurd hn (Nat.lt_irrefl 0)
/-- what belongs to a \ hangs on it alone -/
theorem escP_cut (l : List UInt8) (n : Nat) (h : l.head? = some 92) (hn : 0 < (escP l).2) (hl : (escP l).2 ≤ n) : escP (l.take n) = escP l := by
  rcases escP_two l h hn with ⟨e, h1, h2⟩ | ⟨e, h3⟩
  · rw [e] at hl
    have g : (l.take n).getD 1 0 = l.getD 1 0 := by
      match l, n, hl, h1 with
      | _ :: _ :: _, m + 2, _, _ => rfl
    have a : escP l = ([l.getD 1 0], 2) := by unfold escP; rw [if_pos ⟨h1, h2⟩]
    have b : escP (l.take n) = ([l.getD 1 0], 2) := by unfold escP; rw [g, if_pos ⟨by rw [List.length_take]; omega, h2⟩]
    rw [a, b]
  · rw [e] at hl
    rw [← escP_take (l.take n), List.take_take, Nat.min_eq_left hl, escP_take]
/-- every \ has what belongs to it -/
inductive EscOk : List UInt8 → Prop
  | nil : EscOk []
  | plain (b : UInt8) (l : List UInt8) : b ≠ 92 → EscOk l → EscOk (b :: l)
  | esc (l : List UInt8) : l.head? = some 92 → 0 < (escP l).2 → EscOk (l.drop (escP l).2) → EscOk l
theorem EscOk.app {a b : List UInt8} (h : EscOk a) (k : EscOk b) : EscOk (a ++ b) := by
  induction h with
  | nil => exact k
  | plain c l hc _ ih => exact .plain c _ hc ih
  | esc l h0 hn _ ih =>
    have hl := escP_len l
    have e : escP (l ++ b) = escP l := by
      have hh : (l ++ b).head? = some 92 := by cases l with
        | nil => cases h0
        | cons x t => simpa using h0
      by_cases hp : 0 < (escP (l ++ b)).2
      · rcases escP_two l h0 hn with ⟨e2, h1, h2⟩ | ⟨e3, h3⟩
        · have g : (l ++ b).getD 1 0 = l.getD 1 0 := by
            match l, h1 with
            | _ :: _ :: _, _ => rfl
          have x : escP l = ([l.getD 1 0], 2) := by unfold escP; rw [if_pos ⟨h1, h2⟩]
          have y : escP (l ++ b) = ([l.getD 1 0], 2) := by unfold escP; rw [g, if_pos ⟨by rw [List.length_append]; omega, h2⟩]
          rw [x, y]
        · rw [← escP_take (l ++ b), List.take_append_of_le_length h3, escP_take]
      · exfalso
        rcases escP_two l h0 hn with ⟨e2, h1, h2⟩ | ⟨e3, h3⟩
        · have g : (l ++ b).getD 1 0 = l.getD 1 0 := by
            match l, h1 with
            | _ :: _ :: _, _ => rfl
          have y : escP (l ++ b) = ([l.getD 1 0], 2) := by unfold escP; rw [g, if_pos ⟨by rw [List.length_append]; omega, h2⟩]
          rw [y] at hp; exact hp (Nat.zero_lt_succ 1)
        · rw [← escP_take (l ++ b), List.take_append_of_le_length h3, escP_take] at hp
          exact hp hn
    refine .esc _ ?_ (by rw [e]; exact hn) ?_
    · cases l with
      | nil => cases h0
      | cons x t => simpa using h0
    · rw [e, List.drop_append_of_le_length hl]; exact ih
theorem EscOk.run : ∀ l : List UInt8, (∀ b ∈ l, b ≠ 92) → EscOk l
  | [], _ => .nil
  | b :: l, h => .plain b l (h b (by simp)) (EscOk.run l (fun c hc => h c (by simp [hc])))
end Go.Proofs.YthifcfdbifhanaaGreatDoor

/-
  The bodies of strings.IndexAny and what it calls in this program are those that the library's contracts speak of.
-/
namespace Go.Proofs
open Go.Shelf
def Tryz.lays153_ren : Go.Shelf.Ren := ⟨fun | 153 => 95 | 152 => 133 | 226 => 134 | 227 => 135 | 228 => 136 | 137 => 52 | 119 => 163 | 224 => 164 | 225 => 165 | 217 => 71 | 266 => 96 | n => n, fun | 9 => 9 | 3 => 3 | 4 => 4 | 5 => 5 | 21 => 21 | 117 => 182 | 116 => 181 | 0 => 0 | 46 => 80 | 124 => 213 | n => n, fun | n => n⟩
theorem Tryz.lays153 : Go.Proofs.Lays.n153 Tryz.prog Tryz.lays153_ren := {
  mixed := by kernel_rfl
  f119 := Tryz.func163.trans (congrArg some (by kernel_rfl))
  f137 := Tryz.func52.trans (congrArg some (by kernel_rfl))
  f152 := Tryz.func133.trans (congrArg some (by kernel_rfl))
  f153 := Tryz.func95.trans (congrArg some (by kernel_rfl))
  f217 := Tryz.func71.trans (congrArg some (by kernel_rfl))
  f224 := Tryz.func164.trans (congrArg some (by kernel_rfl))
  f225 := Tryz.func165.trans (congrArg some (by kernel_rfl))
  f226 := Tryz.func134.trans (congrArg some (by kernel_rfl))
  f227 := Tryz.func135.trans (congrArg some (by kernel_rfl))
  f228 := Tryz.func136.trans (congrArg some (by kernel_rfl))
  f266 := Tryz.func96.trans (congrArg some (by kernel_rfl))
  t0 := Tryz.underlying0
  a0 := Tryz.isAgg0
  z0 := Tryz.sizeOf0
  v0 := Tryz.zeroValue0
  t3 := Tryz.underlying3
  a3 := Tryz.isAgg3
  z3 := Tryz.sizeOf3
  v3 := Tryz.zeroValue3
  t4 := Tryz.underlying4
  a4 := Tryz.isAgg4
  z4 := Tryz.sizeOf4
  v4 := Tryz.zeroValue4
  t5 := Tryz.underlying5
  a5 := Tryz.isAgg5
  z5 := Tryz.sizeOf5
  v5 := Tryz.zeroValue5
  t9 := Tryz.underlying9
  a9 := Tryz.isAgg9
  z9 := Tryz.sizeOf9
  v9 := Tryz.zeroValue9
  t21 := Tryz.underlying21
  a21 := Tryz.isAgg21
  z21 := Tryz.sizeOf21
  v21 := Tryz.zeroValue21
  t46 := Tryz.underlying80
  a46 := Tryz.isAgg80
  z46 := Tryz.sizeOf80
  v46 := Tryz.zeroValue80
  t116 := Tryz.underlying181
  a116 := Tryz.isAgg181
  z116 := Tryz.sizeOf181
  t117 := Tryz.underlying182
  a117 := Tryz.isAgg182
  z117 := Tryz.sizeOf182
  v117 := Tryz.zeroValue182
  t124 := Tryz.underlying213
  a124 := Tryz.isAgg213
  z124 := Tryz.sizeOf213
  v124 := Tryz.zeroValue213 }
end Go.Proofs
namespace Go.Proofs.YthifcfdbifhanaaGreatDoor
open Go.RowKit

theorem nIndexByte (w : World) (s : ByteArray) (c : Int) :
    Calls Tryz.prog 52 #[.string s, .int .u8 c] w fun e w' => e = .returned (.int .i64 (Lib.indexByte s.data.toList c.toNat.toUInt8)) ∧ w' = w :=
  Any.strings_IndexByte ({ Tryz.lays152 with } : Lays.n137 Tryz.prog Tryz.lays152_ren) s c w
theorem nIndexAny (w : World) (s chars : ByteArray) (hs : s.size < 4294967281) (hcs : chars.size < 4294967281)
    (has : ∀ (j : Nat) b, s.data.toList[j]? = some b → b.toNat < 128) (hac : ∀ (j : Nat) b, chars.data.toList[j]? = some b → b.toNat < 128) :
    Calls Tryz.prog 95 #[.string s, .string chars] w fun e w' => e = .returned (.int .i64 (Lib.indexAny s.data.toList chars.data.toList)) ∧ Ext w w' :=
  Any.strings_IndexAny_laid Tryz.lays153 (by kernel_rfl) s chars w hs hcs has hac
end Go.Proofs.YthifcfdbifhanaaGreatDoor

/-
  A scope in which the run jumps to its labels, forth and back.
-/
namespace Go.Proofs.YthifcfdbifhanaaGreatDoor

/-- as Q; by a goto: what must hold at that label -/
def Jumps (J : Nat → Act → World → Prop) (Q : Exit → Act → World → Prop) : Exit → Act → World → Prop
  | .goto l, a, w => J l a w
  | e, a, w => Q e a w
section
variable {P : Program} {a : Act} {w : World} {Q : Exit → Act → World → Prop}
theorem wp_scope_labels {c : Code} (J : Nat → Act → World → Prop) (μ : Nat → Act → World → Nat)
    (first : c.wp P (Jumps J Q) a w)
    (pass : ∀ l a w, J l a w → ∃ rest, findLabel c l = some rest ∧ rest.wp P (Jumps (fun l' a' w' => J l' a' w' ∧ μ l' a' w' < μ l a w) Q) a w) : (Code.scope c).wp P Q a w := by
  intro b k cs
  have hg : ∀ l rest, findLabel c l = some rest → gotoIn l (.inScope c :: k) = some (.code rest :: .inScope c :: k) := fun l rest hf => by simp [gotoIn, hf]
  have key : ∀ n l a w rest, findLabel c l = some rest → μ l a w = n → J l a w → ∃ e a' w', Q e a' w' ∧ Arrives P (lone (b.at a (.code rest :: .inScope c :: k)) cs w) b k cs e a' w' := by
    intro n
    induction n using Nat.strongRecOn with
    | _ n ih =>
      intro l a w rest hf hn hJ
      obtain ⟨rest', hf', hw⟩ := pass l a w hJ
      obtain rfl : rest' = rest := Option.some.inj (hf'.symm.trans hf)
      obtain ⟨e, a₁, w₁, hq, harr⟩ := hw b (.inScope c :: k) cs
      cases e with
      | normal => exact ⟨.normal, a₁, w₁, hq, Steps.trans harr (.one step_inScope)⟩
      | exit id => exact ⟨.exit id, a₁, w₁, hq, fun k' hk => harr k' (by simp [exitTo, hk])⟩
      | goto l' =>
        obtain ⟨hJ', hlt⟩ := hq
        obtain ⟨r2, hf2, _⟩ := pass l' a₁ w₁ hJ'
        obtain ⟨e₂, a₂, w₂, hq₂, harr₂⟩ := ih _ (by omega) l' a₁ w₁ r2 hf2 rfl hJ'
        exact ⟨e₂, a₂, w₂, hq₂, .of_steps (harr _ (hg l' r2 hf2)) harr₂⟩
      | ret => exact ⟨_, a₁, w₁, hq, harr⟩
      | panic ch => exact ⟨_, a₁, w₁, hq, harr⟩
      | outgrown => exact ⟨_, a₁, w₁, hq, harr⟩
  obtain ⟨e, a₁, w₁, hq, harr⟩ := first b (.inScope c :: k) cs
  cases e with
  | normal => exact ⟨.normal, a₁, w₁, hq, .head step_scope (Steps.trans harr (.one step_inScope))⟩
  | exit id => exact ⟨.exit id, a₁, w₁, hq, fun k' hk => .head step_scope (harr k' (by simp [exitTo, hk]))⟩
  | goto l' =>
    obtain ⟨r2, hf2, _⟩ := pass l' a₁ w₁ hq
    obtain ⟨e₂, a₂, w₂, hq₂, harr₂⟩ := key _ l' a₁ w₁ r2 hf2 rfl hq
    exact ⟨e₂, a₂, w₂, hq₂, .of_steps (.head step_scope (harr _ (hg l' r2 hf2))) harr₂⟩
  | ret => exact ⟨_, a₁, w₁, hq, .of_steps (.one step_scope) harr⟩
  | panic ch => exact ⟨_, a₁, w₁, hq, .of_steps (.one step_scope) harr⟩
  | outgrown => exact ⟨_, a₁, w₁, hq, .of_steps (.one step_scope) harr⟩
end
end Go.Proofs.YthifcfdbifhanaaGreatDoor
