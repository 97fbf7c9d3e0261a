/-
  What a schema with a class says: a word's type, and the type in full; a keyer over it.
-/
import Derived.Test.YthifcfdbifhanaaGreatDoorNpk
import Derived.Test.YthifcfdbifhanaaGreatDoorNplain
import Derived.Test.YthifcfdbifhanaaGreatDoorNparseToShelf3
import Derived.Test.YthifcfdbifhanaaGreatDoorMathToLeaf
import Derived.Test.YthifcfdbifhanaaGreatDoorOwnToRules
namespace Go.Proofs.YthifcfdbifhanaaGreatDoor
open Go.RowKit

theorem ScC.full {n p : Nat} {ts : List Ty} {qs : List TyP} {W : World} (h : ScC n ts p qs W) (hn : n = ts.length) (k : Nat) (t : Ty) (hk : ts[k]? = some t) (hl : t.names.length ≤ 1000000000) : FullAt W p k t := by
  obtain ⟨⟨H, cnt, fv, h1, h2, h5, h7⟩, h9, h10⟩ := h
  rw [← h9] at hk hn
  have hkq : k < qs.length := by
    rcases Nat.lt_or_ge k qs.length with h | h
    · exact h
    · rw [List.getElem?_eq_none (by simpa using h)] at hk; cases hk
  have htk : qs[k].1 = t := by simpa [hkq] using hk
  have hnq : n = qs.length := by simpa using hn
  obtain ⟨gf, cf, rfl⟩ : ∃ gf cf, fv = .slice (some ⟨gf, 0, none⟩) n cf := by
    rcases h7.1.2 with ⟨e', hl⟩ | ⟨g', cap, cur, e', _⟩
    · rw [hl] at hnq; omega
    · exact ⟨g', cap, e'⟩
  have hs := h10 qs[k] (List.getElem_mem _)
  have hs' := hs
  obtain ⟨na, nc, hnv, _⟩ := hs'
  refine ⟨gf, n, cf, na, nc, by omega, TySl_len h7, h5, hl, ?_, fun i u hu => nine_cells h7 k i hkq u ?_⟩
  · rw [hnv] at hs
    rw [htk] at hs
    exact hs
  · subst htk
    rw [← hnv] at hu
    simpa [tyL, tyA] using hu
theorem ScC.kys {n p K : Nat} {ts : List Ty} {qs : List TyP} {W W' : World} (h : ScC n ts p qs W) (x : Ext W W') (ht : HasTab W') (hr : HasRules W') (kb : W'.heap[K]? = some (.cells #[.pointer (some ⟨p, 0, none⟩), .map (some (K + 1)), .slice none 0 0] 126 (0, 0))) (mb : W'.heap[K + 1]? = some (.map (keyRow (.pointer (some ⟨K, 0, none⟩))) 11)) : ∃ H cnt, KyS K p (K + 1) H cnt (tmap ts ts.length) W' := by
  obtain ⟨⟨H, cnt, fv, h1, h2, h5, h7⟩, h9, h10⟩ := h
  exact ⟨H, cnt, kb, mb, x.cell h1, h2.ext x, ht, hr⟩
set_option maxRecDepth 100000 in
theorem word_cn : tmap tysP tysP.length (lowL [67, 78]) = some ((1 : Nat) : Int) := by decide
set_option maxRecDepth 100000 in
theorem word_ou : tmap tysP tysP.length (lowL [111, 117]) = some ((2 : Nat) : Int) := by decide
set_option maxRecDepth 100000 in
theorem key_ada : keySp true [65, 100, 97, 32, 32, 66] = some [97, 100, 97, 32, 98] := by decide
set_option maxRecDepth 100000 in
theorem key_x : keySp true [120] = some [120] := by decide
end Go.Proofs.YthifcfdbifhanaaGreatDoor

/-
  A name as it is written, in plain words: dz tells how many bytes the first character of a text has.
-/
namespace Go.Proofs.YthifcfdbifhanaaGreatDoor

def specB (b : UInt8) : Bool := [34, 43, 44, 59, 60, 62, 92].contains b
/-- a character as it is written; first, last: it is the value's first, its last byte is the last -/
def signL (first last : Bool) (c : List UInt8) : List UInt8 :=
  if (decide (c.headD 0 < 32) || c.headD 0 == 127 || !validL c) = true then 92 :: hexL c
  else if (specB (c.headD 0) || (c.headD 0 == 32 && (first || last)) || (c.headD 0 == 35 && first)) = true then 92 :: c else c
section
variable (dz : List UInt8 → Nat)
def valGo : Nat → Bool → List UInt8 → List UInt8
  | 0, _, _ => []
  | _ + 1, _, [] => []
  | f + 1, first, a :: r => signL first (r.isEmpty) ((a :: r).take (dz (a :: r))) ++ valGo f false ((a :: r).drop (dz (a :: r)))
def valL (first : Bool) (l : List UInt8) : List UInt8 := valGo dz l.length first l
/-- of every text that is not empty -/
def DzOk : Prop := ∀ l : List UInt8, l ≠ [] → 0 < dz l ∧ dz l ≤ l.length
variable {dz}
theorem valGo_two (h : DzOk dz) : ∀ (n f : Nat) (l : List UInt8) (first : Bool), l.length ≤ n → l.length ≤ f → valGo dz f first l = valGo dz n first l := by
  intro n
  induction n with
  | zero => intro f l first h1 _; have : l = [] := List.eq_nil_of_length_eq_zero (by omega); subst this; cases f <;> rfl
  | succ n ih =>
    intro f l first h1 h2
    cases l with
    | nil => cases f <;> rfl
    | cons a r =>
      cases f with
      | zero => simp at h2
      | succ f =>
        have hd := h (a :: r) (by simp)
        simp only [valGo]
        rw [ih f _ false (by rw [List.length_drop]; simp at h1 ⊢; omega) (by rw [List.length_drop]; simp at h2 ⊢; omega)]
theorem valL_nil (first : Bool) : valL dz first [] = [] := rfl
theorem valL_step (h : DzOk dz) (first : Bool) (l : List UInt8) (hl : l ≠ []) : valL dz first l = signL first (decide (l.length = 1)) (l.take (dz l)) ++ valL dz false (l.drop (dz l)) := by
  cases l with
  | nil => exact absurd rfl hl
  | cons a r =>
    have hd := h (a :: r) (by simp)
    unfold valL
    rw [List.length_cons, valGo, valGo_two h ((a :: r).drop (dz (a :: r))).length r.length _ false (Nat.le_refl _) (by rw [List.length_drop, List.length_cons]; omega)]
    congr 2
    cases r <;> simp
/-- a pair as it is written -/
def pairL (dz : List UInt8 → Nat) (a : Av) : List UInt8 := byt a.t ++ 61 :: valL dz true (byt a.v)
theorem signL_len (first last : Bool) (c : List UInt8) : (signL first last c).length ≤ 2 * c.length + 1 := by
  unfold signL
  split
  · simp [hexL_length]
  · split
    · simp; omega
    · omega
theorem valGo_len (h : DzOk dz) : ∀ (f : Nat) (l : List UInt8) (first : Bool), (valGo dz f first l).length ≤ 3 * l.length := by
  intro f
  induction f with
  | zero => intro l first; simp [valGo]
  | succ f ih =>
    intro l first
    cases l with
    | nil => simp [valGo]
    | cons a r =>
      have hd := h (a :: r) (by simp)
      have h1 := signL_len first r.isEmpty ((a :: r).take (dz (a :: r)))
      have h2 := ih ((a :: r).drop (dz (a :: r))) false
      simp only [valGo, List.length_append]
      rw [List.length_take] at h1
      rw [List.length_drop] at h2
      omega
end
/-- the texts have one byte a character -/
def dz1 (_ : List UInt8) : Nat := 1
theorem dz1_ok : DzOk dz1 := fun l h => by
  cases l with
  | nil => exact absurd rfl h
  | cons a r => simp [dz1]
end Go.Proofs.YthifcfdbifhanaaGreatDoor

/-
  The contract of octet.appendHex.
-/
namespace Go.Proofs.YthifcfdbifhanaaGreatDoor
open Go.RowKit

theorem hex_and (b : UInt8) : bits .and .u8 (b.toNat : Int) 15 = (b.toNat : Int) % 16 := by
  have h := u8_and_nat b.toNat 15 b.toNat_lt (by omega)
  rw [nat_mask4] at h
  exact h

def tab16 : ByteArray := ⟨#[48, 49, 50, 51, 52, 53, 54, 55, 56, 57, 97, 98, 99, 100, 101, 102]⟩
theorem tab16_at (k : Nat) (h : k < tab16.size) : ((tab16[k]'h).toNat : Int) = ((hexd k).toNat : Int) := by
  have hk : k < 16 := h
  have : ∀ j : Fin 16, (tab16[j.val]'j.isLt).toNat = (hexd j.val).toNat := by decide
  exact congrArg _ (this ⟨k, hk⟩)

attribute [local go_sem ↓] Go.wp_at_zero Go.wp_at_succ
set_option maxRecDepth 100000 in
set_option maxHeartbeats 1000000 in
theorem appendHex_any (w : World) (B : Nat) (v : Value) (l : List UInt8) (b : UInt8) (hown : Own w B v l) (hB : B ≤ w.heap.size) (hlen : l.length + 2 ≤ 140737488355328) :
    Calls Tryz.prog 70 #[v, .int .u8 b.toNat] w fun e w' => ∃ v', e = .returned v' ∧ Own w' B v' (l ++ [hexd (b.toNat / 16), hexd (b.toNat % 16)]) ∧ Fr B w w' := by
  obtain ⟨i0, hi0, hz0, hz1, hz2⟩ := info_parts info8
  have hb := b.toNat_lt
  have ha := hex_and b
  go_enter Tryz.func70, Tryz.ntmps70
  have h15 : (0 : Int) ≤ (b.toNat : Int) / 16 := by omega
  have h16 : (b.toNat : Int) / 16 < 16 := by omega
  have h17 : (0 : Int) ≤ (b.toNat : Int) % 16 := by omega
  have h18 : (b.toNat : Int) % 16 < 16 := by omega
  go_wp2_with fail
  have t1 : ((b.toNat : Int) / 16).toNat < tab16.size := by show _ < 16; omega
  have t2 : ((b.toNat : Int) % 16).toNat < tab16.size := by show _ < 16; omega
  go_region_held3 (fun _ => True) (exact True.intro)
    ((refine step_append_lies _ (by rfl) _ _ _ (by rfl) B 5 i0 _ 1 1 Tryz.underlying65 hi0 hz0 hz1 hz2 rfl (by omega) v l.length (l.map B8) (by rfl) ((hown.alloc _).drew)
        ⟨w.heap.size, 0, none⟩ 2 2 [.int .u8 (tab16[((b.toNat : Int) / 16).toNat]'t1).toNat, .int .u8 (tab16[((b.toNat : Int) % 16).toNat]'t2).toNat] (by rfl) (by rfl) (World.news_of_block (cs := #[.int .u8 (tab16[((b.toNat : Int) / 16).toNat]'t1).toNat, .int .u8 (tab16[((b.toNat : Int) % 16).toNat]'t2).toNat]) (t := 5) (fr := (0, 0)) (heap_alloc_new w _)) (by simp [Value.oneCell'])
        (by omega) (by unfold maxLen; omega) (by omega) (by simp; omega) (w.heap.size + 1) (by simp) ?_; intro gg cap w1 hown1 hgrow hat hlt))
  all_goals
    go_wp2
    go_ret
    refine ⟨_, rfl, ?_, hown.drewAlloc.grown (by simp; omega) (((Fr.refl B w).alloc hB _).drew) hgrow⟩
    have e1 : ((b.toNat : Int) / 16).toNat = b.toNat / 16 := by omega
    have e2 : ((b.toNat : Int) % 16).toNat = b.toNat % 16 := by omega
    rw [tab16_at _ t1, tab16_at _ t2, e1, e2] at hown1
    exact own_of hown1 (by simp) (by simp [B8])
end Go.Proofs.YthifcfdbifhanaaGreatDoor

/-
  The contract of Hex: two small digits for each byte.
-/
namespace Go.Proofs.YthifcfdbifhanaaGreatDoor
open Go.RowKit

set_option maxRecDepth 100000 in
set_option maxHeartbeats 1000000 in
theorem Hex_any (w : World) (s : ByteArray) (hs : 2 * s.size ≤ 140737488355328) :
    Calls Tryz.prog 51 #[.string s] w fun e w' => e = .returned (.string (str (hexL (byt s)))) ∧ Fr w.heap.size w w' := by
  obtain ⟨i0, hi0, hz0, hz1, hz2⟩ := info_parts info8
  go_enter Tryz.func51, Tryz.ntmps51
  go_wp2_with (first
    | (at_make; refine wpList_make_own _ rfl _ _ 65 rfl w.heap.size 5 i0 (.int .u8 0) 1 Tryz.underlying65 hi0 hz0 hz1 .i64 .i64 _ (2 * s.size) rfl rfl ?c1 ?c2 ?c3 ?c4 ?_))
  case c1 => omega
  case c2 => rw [hz2]; omega
  case c3 => unfold maxLen; omega
  case c4 => exact Nat.le_refl _
  intro w1 hown0 hgrow0
  have hown1 : Own w1 w.heap.size (.slice (some ⟨w.heap.size, 0, none⟩) 0 (2 * s.size)) [] := hown0
  have hfr1 : Fr w.heap.size w w1 := ⟨(Below.refl _ _).grown hgrow0 (Nat.le_refl _) (fun k hk => by cases hk), (Lib.OthersKept.refl _ _ _).grown hgrow0 (fun k hk => by cases hk)⟩
  clear hown0 hgrow0
  go_wp2
  go_loopw [3, 11] (fun v i wr => ∃ k : Nat, k ≤ s.size ∧ i = .int .i64 k ∧ Own wr w.heap.size v (hexL ((byt s).take k)) ∧ Fr w.heap.size w wr) (fun _ i _ => s.size - (intOf i).toNat)
  case atStart => exact ⟨0, Nat.zero_le _, rfl, hown1, hfr1⟩
  case round =>
    obtain ⟨k, hk, rfl, hown, hfr⟩ := hrel
    clear hown1 hfr1
    by_cases hlt : k < s.size
    · have hl : (hexL ((byt s).take k)).length + 2 ≤ 140737488355328 := by
        rw [hexL_length, List.length_take]; omega
      go_wp2_with (go_at_call 70; refine (appendHex_any wr w.heap.size _ _ _ hown hfr.size hl).mono ?_; rintro e w2 ⟨v2, rfl, hown2, hfr2⟩)
      go_roundw
      case rel => exact ⟨k + 1, by omega, by go_num, by rw [take_snoc s k hlt, hexL_snoc]; assumption, hfr.trans (by assumption)⟩
      case measure => simp [intOf]; omega
    · have hcv := hown.conv
      go_wp2
      go_ret
      exact ⟨ret_s (by rw [List.take_of_length_le (by rw [byt_length]; omega)]), hfr⟩
end Go.Proofs.YthifcfdbifhanaaGreatDoor
