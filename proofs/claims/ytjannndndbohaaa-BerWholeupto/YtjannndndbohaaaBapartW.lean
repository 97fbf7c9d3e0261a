/-
  The contract of apart: two rows of items that share nothing.
-/
import Derived.Test.YtjannndndbohaaaBapart
import Derived.Test.YtjannndndbohaaaBeach
import Derived.BigQuiet
import Derived.Deep.QuietTactic
namespace Go.Proofs.Ytjannndndbohaaa
open Go.RowKit Go.Shelf

/-- the first k of them are written over -/
def half (c : Int) (l : List Tl) (k : Nat) : List Value := repN c k ++ (l.flatMap cT).drop (k * 5)
theorem flatT_length (l : List Tl) : (l.flatMap cT).length = l.length * 5 := by
  induction l with
  | nil => rfl
  | cons t r ih => simp only [List.flatMap_cons, List.length_append, ih, List.length_cons]; simp [cT]; omega
theorem half_zero (c : Int) (l : List Tl) : half c l 0 = l.flatMap cT := by simp [half, repN]
theorem half_full (c : Int) (l : List Tl) : half c l l.length = repN c l.length := by
  rw [half, List.drop_of_length_le (by rw [flatT_length]; exact Nat.le_refl _), List.append_nil]
theorem half_put (c : Int) (l : List Tl) (k : Nat) : (half c l k).take (k * 5) ++ CN c ++ (half c l k).drop (k * 5 + (CN c).length) = half c l (k + 1) := by
  have h1 := repN_length c k
  rw [half, half, List.take_append_of_le_length (by omega), List.take_of_length_le (by omega), ← repN_succ, List.drop_append, List.drop_of_length_le (by omega), List.nil_append, List.drop_drop, h1]
  congr 2
  simp [CN]; omega

/-- an item's five cells are there, and may be written -/
theorem Row.five {w : World} {S : Nat → Prop} {e : TypeId} {u : Value} {n k : Nat} {xs : List Value} (h : Row w S e 5 u n xs) (hk : k < n) : ∃ g cap, u = .slice (some ⟨g, 0, none⟩) n cap ∧ n ≤ cap ∧
    ∃ v0 v1 v2 v3 v4, w.cell? ⟨g, k * 5, none⟩ = some v0 ∧ w.cell? ⟨g, k * 5 + 1, none⟩ = some v1 ∧ w.cell? ⟨g, k * 5 + 2, none⟩ = some v2 ∧ w.cell? ⟨g, k * 5 + 3, none⟩ = some v3 ∧ w.cell? ⟨g, k * 5 + 4, none⟩ = some v4 ∧ ∀ o, w.frozen? ⟨g, o, none⟩ = false := by
  rcases h.1.2 with ⟨_, h0⟩ | ⟨g, cap, cur, e', _, hg, h1, h2, h3, _⟩
  · omega
  · have hc : ∀ o, o < cur.size → w.cell? ⟨g, o, none⟩ = some (cur[o]?.getD undef) := fun o ho => by
      rw [cell_of_row w g o cur _ _ hg, Array.getElem?_eq_getElem ho]; rfl
    have hs : k * 5 + 4 < cur.size := by
      rw [h3]; have : (k + 1) * 5 ≤ cap * 5 := Nat.mul_le_mul_right 5 (by omega)
      omega
    exact ⟨g, cap, e', h1, _, _, _, _, _, hc _ (by omega), hc _ (by omega), hc _ (by omega), hc _ (by omega), hc _ hs, fun o => by simp [World.frozen?, hg]⟩

theorem Fam.self {w : World} {c : Int} {a : Value} {n : Nat} (h : Row w (own a) 26 5 a n (repN c n)) : Fam w c a n a n := by
  refine ⟨h, h, fun g h1 _ => ?_, Nat.le_refl _⟩
  rcases h.1.2 with ⟨rfl, _⟩ | ⟨g', cap, cur, rfl, _⟩
  · simp [own, Value.ownBlock] at h1
  · simp only [own, Value.ownBlock, Option.some.injEq] at h1
    subst h1
    exact ⟨n, n, cap, rfl, rfl, Nat.le_refl _⟩
/-- two families that share nothing -/
structure Two (w wr : World) (a b : Value) (n : Nat) (x y : Value) (m : Nat) : Prop where
  fa : Fam wr (-1) a n x m
  fb : Fam wr (-2) b n y m
  ap : ∀ g, foot a x g → ¬ foot b y g
  on : Only (foot a b) w wr
  ox : ∀ g, own x g → own a g ∨ w.heap.size ≤ g
  oy : ∀ g, own y g → own b g ∨ w.heap.size ≤ g
theorem Fam.lt {w : World} {c : Int} {a v : Value} {la n : Nat} (h : Fam w c a la v n) {g : Nat} (hg : foot a v g) : g < w.heap.size := hg.elim (fun h1 => h.ra.lt h1) (fun h1 => h.rv.lt h1)
/-- the first grows by one, the second as it was -/
structure Odd (w wr : World) (a b : Value) (n : Nat) (x y : Value) (m : Nat) : Prop where
  fa : Fam wr (-1) a n x (m + 1)
  fb : Fam wr (-2) b n y m
  ap : ∀ g, foot a x g → ¬ foot b y g
  on : Only (foot a b) w wr
  ox : ∀ g, own x g → own a g ∨ w.heap.size ≤ g
  oy : ∀ g, own y g → own b g ∨ w.heap.size ≤ g
theorem Two.pushX {w wr : World} {a b x y : Value} {n m : Nat} (h : Two w wr a b n x y m) (ty : TypeId) (hm : m + 1 ≤ 4000000000) :
    ∃ ad cap w', (Builtin.append_ #[33, 33] ty #[x, .slice (some ⟨wr.heap.size, 0, none⟩) 1 1]).run Try.prog (wr.alloc (.cells (CN (-1)).toArray 26)) = .ok (.slice ad (m + 1) cap) w' ∧ Odd w w' a b n (.slice ad (m + 1) cap) y m := by
  have hx : Ext wr (wr.alloc (.cells (CN (-1)).toArray 26)) := (Ext.refl wr).alloc _
  obtain ⟨v', w', hr, hf, ho, hn, ad, cap, rfl⟩ := Fam.push (h.fa.ext hx) wr.heap.size (heap_alloc_new wr _) ty hm
  refine ⟨ad, cap, w', hr, hf, (h.fb.ext hx).kept ho (fun g h1 h2 => h.ap g (.inr h2) h1), ?_, ?_, ?_, h.oy⟩
  · rintro g (h1 | h1) h2
    · exact h.ap g (.inl h1) h2
    · rcases hn g h1 with h3 | h3
      · exact h.ap g (.inr h3) h2
      · have := h.fb.lt h2; simp at h3; omega
  · refine (h.on.ext hx).trans (ho.mono fun g _ h1 => ?_)
    rcases h.ox g h1 with h2 | h2
    · exact .inl (.inl h2)
    · exact .inr h2
  · intro g h1
    rcases hn g h1 with h3 | h3
    · exact h.ox g h3
    · have := h.on.size; simp at h3; exact .inr (by omega)
theorem Two.pushY {w wr : World} {a b x y : Value} {n m : Nat} (h : Odd w wr a b n x y m) (ty : TypeId) (hm : m + 1 ≤ 4000000000) :
    ∃ ad cap w', (Builtin.append_ #[33, 33] ty #[y, .slice (some ⟨wr.heap.size, 0, none⟩) 1 1]).run Try.prog (wr.alloc (.cells (CN (-2)).toArray 26)) = .ok (.slice ad (m + 1) cap) w' ∧ Two w w' a b n x (.slice ad (m + 1) cap) (m + 1) := by
  have hx : Ext wr (wr.alloc (.cells (CN (-2)).toArray 26)) := (Ext.refl wr).alloc _
  obtain ⟨v', w', hr, hf, ho, hn, ad, cap, rfl⟩ := Fam.push (h.fb.ext hx) wr.heap.size (heap_alloc_new wr _) ty hm
  refine ⟨ad, cap, w', hr, (h.fa.ext hx).kept ho (fun g h1 h2 => h.ap g h1 (.inr h2)), hf, ?_, ?_, h.ox, ?_⟩
  · rintro g h2 (h1 | h1)
    · exact h.ap g h2 (.inl h1)
    · rcases hn g h1 with h3 | h3
      · exact h.ap g h2 (.inr h3)
      · have := h.fa.lt h2; simp at h3; omega
  · refine (h.on.ext hx).trans (ho.mono fun g _ h1 => ?_)
    rcases h.oy g h1 with h2 | h2
    · exact .inl (.inr h2)
    · exact .inr h2
  · intro g h1
    rcases hn g h1 with h3 | h3
    · exact h.oy g h3
    · have := h.on.size; simp at h3; exact .inr (by omega)

theorem fam_num {w : World} {S : Nat → Prop} {c : Int} {a : Option Addr} {n cap i : Nat} (h : Row w S 26 5 (.slice a n cap) n (repN c n)) (hi : i < n) :
    ∃ g, a = some ⟨g, 0, none⟩ ∧ n ≤ cap ∧ w.cell? ⟨g, i * 5 + 2, none⟩ = some (.int .i64 c) := by
  have hc := fun g hg => World.ownsRow.cells h.1 (g := g) hg
  rcases h.1.2 with ⟨_, h0⟩ | ⟨g, cap', cur, e, _, hg, h1, _⟩
  · omega
  · cases e
    refine ⟨g, rfl, h1, ?_⟩
    have := hc g rfl (i * 5 + 2) _ (repN_get c n i hi)
    rwa [Addr.add_lit, Nat.zero_add] at this

set_option maxRecDepth 100000 in
set_option maxHeartbeats 4000000 in
theorem apart_any (w : World) (u v : Value) (l : List Tl) (S S' : Nat → Prop) (hu : RowT w S u l) (hv : RowT w S' v l) (hd : ∀ g, own u g → ¬ own v g) (hl : l.length ≤ 1048576) :
    Calls Try.prog 19 #[u, v] w fun x w' => x = .returned (.bool true) ∧ Only (foot u v) w w' := by
  obtain ⟨au, cu, rfl⟩ := row_slice hu
  obtain ⟨av, cv, rfl⟩ := row_slice hv
  obtain ⟨n, hn⟩ : ∃ n, l.length = n := ⟨_, rfl⟩
  have hnh : Hid (l.length = n) := hn
  rw [hn] at hu hv hl hd ⊢
  have huh : Hid (Row w (own (.slice au n cu)) 26 5 (.slice au n cu) n (l.flatMap cT)) := by rw [← hn] at hu ⊢; exact Row.min hu
  have hvh : Hid (Row w (own (.slice av n cv)) 26 5 (.slice av n cv) n (l.flatMap cT)) := by rw [← hn] at hv ⊢; exact Row.min hv
  clear hu hv hn
  go_enter Try.func19, Try.ntmps19
  go_wp2
  go_loopw [5, 13] (fun _ i wr => ∃ k : Nat, k ≤ n ∧ i = .int .i64 k ∧ Row wr (own (.slice au n cu)) 26 5 (.slice au n cu) n (half (-1) l k) ∧ Only (own (.slice au n cu)) w wr) (fun _ i _ => n - (intOf i).toNat)
  case atStart => exact ⟨0, Nat.zero_le _, rfl, by rw [half_zero]; exact huh.out, Only.refl _ _⟩
  case round =>
    obtain ⟨k, hk, rfl, hrow, hx⟩ := hrel
    by_cases hlt : k < n
    · obtain ⟨g, cap, e, hcap, v0, v1, v2, v3, v4, c0, c1, c2, c3, c4, hf⟩ := Row.five hrow hlt
      cases e
      go_wp2
      go_roundw
      case rel =>
        refine ⟨k + 1, hlt, by go_num, ?_, hx.then (Only.setCells wr g (k * 5) (CN (-1)) rfl)⟩
        have := Row.put5 hrow (k * 5) (CN (-1)) (by simp [CN]; omega)
        rw [half_put] at this
        exact this
      case measure => simp [intOf]; omega
    · obtain rfl : k = n := by omega
      have hra : Hid (Row wr (own (.slice au k cu)) 26 5 (.slice au k cu) k (repN (-1) k)) := by
        have h9 := half_full (-1) l
        rw [hnh.out] at h9
        rw [h9] at hrow
        exact hrow
      have hrv : Hid (Row wr (own (.slice av k cv)) 26 5 (.slice av k cv) k (l.flatMap cT)) := hvh.out.kept hx (fun g h1 h2 => hd g h2 h1)
      have hxh : Hid (Only (own (.slice au k cu)) w wr) := hx
      clear hrow hvh huh hx
      obtain ⟨wA, hwA⟩ : ∃ wA, wA = wr := ⟨_, rfl⟩
      subst hwA
      go_wp2
      go_loopw [6, 23] (fun _ i wq => ∃ q : Nat, q ≤ k ∧ i = .int .i64 q ∧ Row wq (own (.slice av k cv)) 26 5 (.slice av k cv) k (half (-2) l q) ∧ Only (own (.slice av k cv)) wA wq) (fun _ i _ => k - (intOf i).toNat)
      case atStart => exact ⟨0, Nat.zero_le _, rfl, by rw [half_zero]; exact hrv.out, Only.refl _ _⟩
      case round =>
        obtain ⟨q, hq, rfl, hrow, hx⟩ := hrel
        by_cases hlt : q < k
        · obtain ⟨g, cap, e, hcap, v0, v1, v2, v3, v4, c0, c1, c2, c3, c4, hf⟩ := Row.five hrow hlt
          cases e
          go_wp2
          go_roundw
          case rel =>
            refine ⟨q + 1, hlt, by go_num, ?_, hx.then (Only.setCells _ g (q * 5) (CN (-2)) rfl)⟩
            have := Row.put5 hrow (q * 5) (CN (-2)) (by simp [CN]; omega)
            rw [half_put] at this
            exact this
          case measure => simp [intOf]; omega
        · obtain rfl : q = k := by omega
          have hrb : Row wr (own (.slice av q cv)) 26 5 (.slice av q cv) q (repN (-2) q) := by
            have h9 := half_full (-2) l
            rw [hnh.out] at h9
            rw [h9] at hrow
            exact hrow
          have hfa : Hid (Fam wr (-1) (.slice au q cu) q (.slice au q cu) q) := Fam.self (hra.out.kept hx hd)
          have hfb : Hid (Fam wr (-2) (.slice av q cv) q (.slice av q cv) q) := Fam.self hrb
          have hon : Hid (Only (foot (.slice au q cu) (.slice av q cv)) w wr) := (hxh.out.mono (fun _ _ h => .inl h)).then (hx.mono (fun _ _ h => .inr h))
          have hdh : Hid (∀ g, own (.slice au q cu) g → ¬ own (.slice av q cv) g) := hd
          clear hrow hrb hx hxh hra hrv hd hnh
          obtain ⟨wB, hwB⟩ : ∃ wB, wB = wr := ⟨_, rfl⟩
          subst hwB
          go_wp2
          go_loopw [7, 8, 33] (fun x y i wq => ∃ (j : Nat) (ax ay : Option Addr) (cx cy : Nat), j ≤ 60 ∧ i = .int .i64 j ∧ x = .slice ax (q + j) cx ∧ y = .slice ay (q + j) cy ∧ Hid (Two w wq (.slice au q cu) (.slice av q cv) q (.slice ax (q + j) cx) (.slice ay (q + j) cy) (q + j))) (fun _ _ i _ => 60 - (intOf i).toNat)
          case atStart => exact ⟨0, au, av, cu, cv, Nat.zero_le _, rfl, rfl, rfl, ⟨hfa.out, hfb.out, fun g h1 h2 => hdh.out g (h1.elim id id) (h2.elim id id), hon.out, fun g h => .inl h, fun g h => .inl h⟩⟩
          case round =>
            obtain ⟨j, ax, ay, cx, cy, hj, rfl, rfl, rfl, htwo⟩ := hrel
            by_cases hlt : j < 60
            · obtain ⟨ax', cx', w1, hr1, ht1⟩ := Two.pushX htwo.out 33 (by omega)
              obtain ⟨ay', cy', w2, hr2, ht2⟩ := Two.pushY ht1 33 (by omega)
              have ht2h : Hid _ := ht2
              clear ht1 ht2
              go_wp2_with (at_builtin; refine Hid.out ?_)
              refine Lib.wpList_append_run _ rfl _ _ _ _ rfl _ _ rfl rfl _ _ hr1 ?_
              go_wp2_with (at_builtin; refine Hid.out ?_)
              refine Lib.wpList_append_run _ rfl _ _ _ _ rfl _ _ rfl rfl _ _ hr2 ?_
              go_wp2
              go_roundw
              case rel => exact ⟨j + 1, ax', ay', cx', cy', by omega, by go_num, rfl, rfl, ht2h.out⟩
              case measure => simp [intOf]; omega
            · obtain rfl : j = 60 := by omega
              have hxs : Hid (∀ i, i < q + 60 → (∃ g, ax = some ⟨g, 0, none⟩ ∧ q + 60 ≤ cx ∧ wr.cell? ⟨g, i * 5 + 2, none⟩ = some (.int .i64 (-1)))) := fun i hi => fam_num htwo.out.fa.rv hi
              have hys : Hid (∀ i, i < q + 60 → (∃ g, ay = some ⟨g, 0, none⟩ ∧ q + 60 ≤ cy ∧ wr.cell? ⟨g, i * 5 + 2, none⟩ = some (.int .i64 (-2)))) := fun i hi => fam_num htwo.out.fb.rv hi
              have has : Hid (∀ i, i < q → (∃ g, au = some ⟨g, 0, none⟩ ∧ q ≤ cu ∧ wr.cell? ⟨g, i * 5 + 2, none⟩ = some (.int .i64 (-1)))) := fun i hi => fam_num htwo.out.fa.ra hi
              have hbs : Hid (∀ i, i < q → (∃ g, av = some ⟨g, 0, none⟩ ∧ q ≤ cv ∧ wr.cell? ⟨g, i * 5 + 2, none⟩ = some (.int .i64 (-2)))) := fun i hi => fam_num htwo.out.fb.ra hi
              have hon : Hid (Only (foot (.slice au q cu) (.slice av q cv)) w wr) := htwo.out.on
              clear htwo
              obtain ⟨N, hN⟩ : ∃ N, q + 60 = N := ⟨_, rfl⟩
              have hN1 : N ≤ 2000000 := by omega
              rw [hN] at hxs hys
              simp only [hN]
              clear hN
              obtain ⟨wC, hwC⟩ : ∃ wC, wC = wr := ⟨_, rfl⟩
              subst hwC
              go_wp2
              go_loopw [9, 46] (fun _ i wq => ∃ p : Nat, p ≤ N ∧ i = .int .i64 p ∧ wC = wq) (fun _ i _ => N - (intOf i).toNat)
              case atStart => exact ⟨0, Nat.zero_le _, rfl, rfl⟩
              case round =>
                obtain ⟨p, hp, rfl, rfl⟩ := hrel
                by_cases hlt : p < N
                · obtain ⟨g, rfl, hgc, hg2⟩ := hxs.out p hlt
                  by_cases hla : p < q
                  · obtain ⟨g', rfl, hgc', hg2'⟩ := has.out p hla
                    go_wp2
                    go_roundw
                    case rel => exact ⟨p + 1, hlt, by go_num, trivial⟩
                    case measure => simp [intOf]; omega
                  · have g1 : decide ((p : Int) < (q : Int)) = false := by simp; omega
                    go_wp2
                    go_roundw
                    case rel => exact ⟨p + 1, hlt, by go_num, trivial⟩
                    case measure => simp [intOf]; omega
                · obtain rfl : p = N := by omega
                  go_wp2
                  go_loopw [10, 72] (fun _ i wq => ∃ r : Nat, r ≤ p ∧ i = .int .i64 r ∧ wC = wq) (fun _ i _ => p - (intOf i).toNat)
                  case atStart => exact ⟨0, Nat.zero_le _, rfl, rfl⟩
                  case round =>
                    obtain ⟨r, hr, rfl, rfl⟩ := hrel
                    by_cases hlt : r < p
                    · obtain ⟨g, rfl, hgc, hg2⟩ := hys.out r hlt
                      by_cases hla : r < q
                      · obtain ⟨g', rfl, hgc', hg2'⟩ := hbs.out r hla
                        go_wp2
                        go_roundw
                        case rel => exact ⟨r + 1, hlt, by go_num, trivial⟩
                        case measure => simp [intOf]; omega
                      · have g1 : decide ((r : Int) < (q : Int)) = false := by simp; omega
                        go_wp2
                        go_roundw
                        case rel => exact ⟨r + 1, hlt, by go_num, trivial⟩
                        case measure => simp [intOf]; omega
                    · go_wp2
                      go_ret
                      exact ⟨rfl, hon.out⟩
end Go.Proofs.Ytjannndndbohaaa
