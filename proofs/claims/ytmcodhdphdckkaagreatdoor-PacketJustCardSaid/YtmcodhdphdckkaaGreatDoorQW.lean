/-
  A filter's bytes (plain), and that the layer lays them, or tells that they are too many.
-/
import Derived.Test.YtmcodhdphdckkaaGreatDoorQL
import Derived.Test.YtmcodhdphdckkaaGreatDoorQR
import Derived.Test.YtmcodhdphdckkaaGreatDoorSa
import Derived.Test.YtmcodhdphdckkaaGreatDoorOrd
namespace Go.Proofs.YtmcodhdphdckkaaGreatDoor

def bText (t : Nat) (s : List UInt8) : List UInt8 := UInt8.ofNat t :: (lenL s.length ++ s)
theorem bText_len (t : Nat) (s : List UInt8) : (bText t s).length = 1 + lenOct s.length + s.length := by simp [bText, lenL_length]; omega
def bSome (t : Nat) (s : List UInt8) : List UInt8 := if s = [] then [] else bText t s
def bMids : List ByteArray → List UInt8
  | [] => []
  | m :: r => bText 129 (byt m) ++ bMids r
def bPieces (a : OwnF) : List UInt8 := bSome 128 (byt a.start) ++ bMids a.ms ++ bSome 130 (byt a.fin)
def bRule (a : OwnF) : List UInt8 := bSome 129 (byt a.rule) ++ bSome 130 (byt a.desc) ++ bText 131 (byt a.value) ++ (if a.dn then bText 132 [255] else [])
/-- the bytes of one filter, given those of its kids -/
def bOne (a : OwnF) (k : List UInt8) : List UInt8 :=
  if a.kind = 0 then bText 160 k else if a.kind = 1 then bText 161 k else if a.kind = 2 then bText 162 k
  else if a.kind = 3 then bText 163 (bText 4 (byt a.desc) ++ bText 4 (byt a.value)) else if a.kind = 5 then bText 165 (bText 4 (byt a.desc) ++ bText 4 (byt a.value)) else if a.kind = 6 then bText 166 (bText 4 (byt a.desc) ++ bText 4 (byt a.value)) else if a.kind = 8 then bText 168 (bText 4 (byt a.desc) ++ bText 4 (byt a.value))
  else if a.kind = 7 then bText 135 (byt a.desc) else if a.kind = 4 then bText 164 (bText 4 (byt a.desc) ++ bText 48 (bPieces a)) else if a.kind = 9 then bText 169 (bRule a) else []
def bKids : FT → List UInt8
  | .nil => []
  | .cons a k r => bOne a (bKids k) ++ bKids r

/-- these bytes are laid behind what there is, or they are too many; so many more may be opened -/
def Lays (m : Nat) (f : Ly → Ly) (b : List UInt8) : Prop := ∀ x : Ly, (x.2 ≠ 0 → (f x).2 = x.2) ∧ (x.2 = 0 → WOk x.1 → x.1.opn.length + m ≤ 80 → (f x).2 = 3 ∨ (f x = (⟨x.1.laid ++ b, x.1.opn⟩, 0) ∧ WOk ⟨x.1.laid ++ b, x.1.opn⟩))
section
variable {m m' : Nat} {f g : Ly → Ly} {b c : List UInt8}
theorem Lays.mono (h : Lays m f b) (hm : m ≤ m') : Lays m' f b := fun x => ⟨(h x).1, fun h1 h2 h3 => (h x).2 h1 h2 (by omega)⟩
theorem Lays.nil (m : Nat) : Lays m (fun x => x) [] := by
  intro x
  obtain ⟨⟨l, o⟩, e⟩ := x
  refine ⟨fun _ => rfl, fun h1 h2 _ => .inr ⟨?_, ?_⟩⟩
  · simp only at h1; subst h1; simp
  · simpa using h2
theorem Lays.then (h : Lays m f b) (k : Lays m g c) : Lays m (fun x => g (f x)) (b ++ c) := by
  intro x
  refine ⟨fun h1 => ?_, fun h1 h2 h3 => ?_⟩
  · have h4 := (h x).1 h1
    show (g (f x)).2 = x.2
    rw [(k (f x)).1 (by rw [h4]; exact h1), h4]
  · rcases (h x).2 h1 h2 h3 with h4 | ⟨h4, h5⟩
    · exact .inl (by show (g (f x)).2 = 3; rw [(k (f x)).1 (by omega), h4])
    · show (g (f x)).2 = 3 ∨ (g (f x) = _ ∧ _)
      rw [h4]
      rcases (k (⟨x.1.laid ++ b, x.1.opn⟩, 0)).2 rfl h5 h3 with h6 | ⟨h6, h7⟩
      · exact .inl h6
      · rw [← List.append_assoc]
        exact .inr ⟨h6, h7⟩
theorem Lays.text (t : Nat) (s : List UInt8) (ht : 64 * (t / 64) + t % 32 = t) (h1 : t < 256) (h2 : t % 32 < 31) : Lays 0 (textY t s) (bText t s) := by
  intro x
  refine ⟨fun h => by rw [textY_no h], fun h hk _ => ?_⟩
  rw [textY_go h]
  have hm : mayB ((t / 64 : Nat) : Int) ((t % 32 : Nat) : Int) = true := by unfold mayB; exact decide_eq_true (by omega)
  have hw := hk.lay ((t / 64 : Nat) : Int) ((t % 32 : Nat) : Int) s
  have hi : itemL (((t / 64 : Nat) : Int)).toNat (((t % 32 : Nat) : Int)).toNat s = bText t s := by
    unfold itemL tagB bText
    rw [Int.toNat_natCast, Int.toNat_natCast, ht]
  unfold layW at hw ⊢
  by_cases he : layE x.1 ((t / 64 : Nat) : Int) ((t % 32 : Nat) : Int) s = 0
  · rw [if_pos he] at hw ⊢
    rw [hi] at hw ⊢
    exact .inr ⟨by rw [he], hw⟩
  · left
    show layE x.1 _ _ s = 3
    unfold layE at he ⊢
    rw [hm] at he ⊢
    simp only [Bool.true_eq_false, if_false] at he ⊢
    split at he
    · rename_i h3; rw [if_pos h3]
    · exact absurd rfl he
theorem Lays.some (t : Nat) (s : List UInt8) (ht : 64 * (t / 64) + t % 32 = t) (h1 : t < 256) (h2 : t % 32 < 31) : Lays 0 (someY t s) (bSome t s) := by
  by_cases hs : s = []
  · have e : someY t s = fun x => x := by funext x; exact if_pos hs
    rw [e, bSome, if_pos hs]
    exact Lays.nil 0
  · have e : someY t s = textY t s := by funext x; exact if_neg hs
    rw [e, bSome, if_neg hs]
    exact Lays.text t s ht h1 h2
theorem take_here (l : List UInt8) (t : UInt8) (b : List UInt8) : (l ++ [t] ++ b).take (l.length + 1) = l ++ [t] ∧ (l ++ [t] ++ b).drop (l.length + 1) = b := by
  have e : (l ++ [t]).length = l.length + 1 := by simp
  exact ⟨by rw [← e, List.take_left], by rw [← e, List.drop_left]⟩
theorem Lays.around (t : Nat) (h : Lays m f b) (ht : 64 * (t / 64) + 32 + t % 32 = t) (h1 : t < 256) (h2 : t % 32 < 31) : Lays (m + 1) (aroundY t f) (bText t b) := by
  intro x
  refine ⟨fun hx => ?_, fun hx hk h3 => ?_⟩
  · unfold aroundY
    rw [openY_no hx]
    have := (h x).1 hx
    rw [closeY_no (by rw [this]; exact hx), this]
  · unfold aroundY
    have hm : mayB ((t / 64 : Nat) : Int) ((t % 32 : Nat) : Int) = true := by unfold mayB; exact decide_eq_true (by omega)
    have hw := hk.opened ((t / 64 : Nat) : Int) ((t % 32 : Nat) : Int)
    have hi : tagM (((t / 64 : Nat) : Int)).toNat (((t % 32 : Nat) : Int)).toNat = UInt8.ofNat t := by
      unfold tagM
      rw [Int.toNat_natCast, Int.toNat_natCast, ht]
    rw [openY_go hx hk]
    unfold openW at hw ⊢
    by_cases he : openE x.1 ((t / 64 : Nat) : Int) ((t % 32 : Nat) : Int) = 0
    · rw [if_pos he] at hw ⊢
      rw [hi] at hw ⊢
      rw [he]
      rcases (h (⟨x.1.laid ++ [UInt8.ofNat t], ⟨x.1.laid.length + 1, by have := hk.low; omega⟩ :: x.1.opn⟩, 0)).2 rfl hw (by simp only [List.length_cons]; omega) with h4 | ⟨h4, h5⟩
      · left
        rw [closeY_no (by rw [h4]; decide), h4]
      · right
        rw [h4, closeY_go rfl]
        have hc := h5.closed
        have e : closeW ⟨x.1.laid ++ [UInt8.ofNat t] ++ b, ⟨x.1.laid.length + 1, by have := hk.low; omega⟩ :: x.1.opn⟩ = ⟨x.1.laid ++ bText t b, x.1.opn⟩ := by
          unfold closeW
          simp only
          rw [(take_here x.1.laid (UInt8.ofNat t) b).1, (take_here x.1.laid (UInt8.ofNat t) b).2]
          have : (x.1.laid ++ [UInt8.ofNat t] ++ b).length - (x.1.laid.length + 1) = b.length := by simp; omega
          rw [this]
          simp [bText, List.append_assoc]
        rw [e] at hc
        refine ⟨?_, hc⟩
        rw [e]
        rfl
    · have h91 : ¬ 80 ≤ x.1.opn.length := by omega
      have h33 : openE x.1 ((t / 64 : Nat) : Int) ((t % 32 : Nat) : Int) = 3 := by
        unfold openE at he ⊢
        rw [hm] at he ⊢
        simp only [Bool.true_eq_false, if_false, h91] at he ⊢
        split at he
        · rename_i h3; rw [if_pos h3]
        · exact absurd rfl he
      left
      rw [h33, if_neg (by decide)]
      have := (h (x.1, 3)).1 (by simp)
      rw [closeY_no (by rw [this]; simp), this]
end
theorem Lays.mids : ∀ (ms : List ByteArray), Lays 0 (fun x => ms.foldl (fun z m => textY 129 (byt m) z) x) (bMids ms)
  | [] => Lays.nil 0
  | m :: r => (Lays.text 129 (byt m) (by decide) (by decide) (by decide)).then (Lays.mids r)
theorem Lays.part (a : OwnF) : Lays 2 (partY a) (bText 164 (bText 4 (byt a.desc) ++ bText 48 (bPieces a))) := by
  unfold partY bPieces
  refine Lays.around 164 (m := 1) (f := fun x => aroundY 48 (fun y => someY 130 (byt a.fin) (a.ms.foldl (fun z m => textY 129 (byt m) z) (someY 128 (byt a.start) y))) (textY 4 (byt a.desc) x)) ?_ (by decide) (by decide) (by decide)
  refine ((Lays.text 4 (byt a.desc) (by decide) (by decide) (by decide)).mono (m' := 1) (by omega)).then ?_
  exact Lays.around 48 (((Lays.some 128 (byt a.start) (by decide) (by decide) (by decide)).then (Lays.mids a.ms)).then (Lays.some 130 (byt a.fin) (by decide) (by decide) (by decide))) (by decide) (by decide) (by decide)
theorem Lays.rule (a : OwnF) : Lays 1 (ruleY a) (bText 169 (bRule a)) := by
  unfold ruleY bRule
  have h3 := ((Lays.some 129 (byt a.rule) (by decide) (by decide) (by decide)).then (Lays.some 130 (byt a.desc) (by decide) (by decide) (by decide))).then (Lays.text 131 (byt a.value) (by decide) (by decide) (by decide))
  refine Lays.around 169 ?_ (by decide) (by decide) (by decide)
  cases a.dn with
  | false => simpa using h3
  | true => exact h3.then (Lays.text 132 [255] (by decide) (by decide) (by decide))
theorem Lays.against (t : Nat) (d v : List UInt8) (ht : 64 * (t / 64) + 32 + t % 32 = t) (h1 : t < 256) (h2 : t % 32 < 31) : Lays 1 (againstY t d v) (bText t (bText 4 d ++ bText 4 v)) :=
  Lays.around t ((Lays.text 4 d (by decide) (by decide) (by decide)).then (Lays.text 4 v (by decide) (by decide) (by decide))) ht h1 h2
theorem Lays.one (a : OwnF) {m : Nat} {f : Ly → Ly} {b : List UInt8} (hm : 1 ≤ m) (h : Lays m f b) : Lays (m + 1) (oneY a f) (bOne a b) := by
  by_cases k0 : a.kind = 0
  · rw [show oneY a f = aroundY 160 f from by funext x; unfold oneY; rw [k0]; rfl, show bOne a b = bText 160 b by unfold bOne; rw [k0]; rfl]
    exact (Lays.around 160 h (by decide) (by decide) (by decide)).mono (by omega)
  · by_cases k1 : a.kind = 1
    · rw [show oneY a f = aroundY 161 f from by funext x; unfold oneY; rw [k1]; rfl, show bOne a b = bText 161 b by unfold bOne; rw [k1]; rfl]
      exact (Lays.around 161 h (by decide) (by decide) (by decide)).mono (by omega)
    · by_cases k2 : a.kind = 2
      · rw [show oneY a f = aroundY 162 f from by funext x; unfold oneY; rw [k2]; rfl, show bOne a b = bText 162 b by unfold bOne; rw [k2]; rfl]
        exact (Lays.around 162 h (by decide) (by decide) (by decide)).mono (by omega)
      · by_cases k3 : a.kind = 3
        · rw [show oneY a f = againstY 163 (byt a.desc) (byt a.value) from by funext x; unfold oneY; rw [k3]; rfl, show bOne a b = bText 163 (bText 4 (byt a.desc) ++ bText 4 (byt a.value)) by unfold bOne; rw [k3]; rfl]
          exact (Lays.against 163 _ _ (by decide) (by decide) (by decide)).mono (by omega)
        · by_cases k5 : a.kind = 5
          · rw [show oneY a f = againstY 165 (byt a.desc) (byt a.value) from by funext x; unfold oneY; rw [k5]; rfl, show bOne a b = bText 165 (bText 4 (byt a.desc) ++ bText 4 (byt a.value)) by unfold bOne; rw [k5]; rfl]
            exact (Lays.against 165 _ _ (by decide) (by decide) (by decide)).mono (by omega)
          · by_cases k6 : a.kind = 6
            · rw [show oneY a f = againstY 166 (byt a.desc) (byt a.value) from by funext x; unfold oneY; rw [k6]; rfl, show bOne a b = bText 166 (bText 4 (byt a.desc) ++ bText 4 (byt a.value)) by unfold bOne; rw [k6]; rfl]
              exact (Lays.against 166 _ _ (by decide) (by decide) (by decide)).mono (by omega)
            · by_cases k8 : a.kind = 8
              · rw [show oneY a f = againstY 168 (byt a.desc) (byt a.value) from by funext x; unfold oneY; rw [k8]; rfl, show bOne a b = bText 168 (bText 4 (byt a.desc) ++ bText 4 (byt a.value)) by unfold bOne; rw [k8]; rfl]
                exact (Lays.against 168 _ _ (by decide) (by decide) (by decide)).mono (by omega)
              · by_cases k7 : a.kind = 7
                · rw [show oneY a f = textY 135 (byt a.desc) from by funext x; unfold oneY; rw [k7]; rfl, show bOne a b = bText 135 (byt a.desc) by unfold bOne; rw [k7]; rfl]
                  exact (Lays.text 135 _ (by decide) (by decide) (by decide)).mono (by omega)
                · by_cases k4 : a.kind = 4
                  · rw [show oneY a f = partY a from by funext x; unfold oneY; rw [k4]; rfl, show bOne a b = bText 164 (bText 4 (byt a.desc) ++ bText 48 (bPieces a)) by unfold bOne; rw [k4]; rfl]
                    exact (Lays.part a).mono (by omega)
                  · by_cases k9 : a.kind = 9
                    · rw [show oneY a f = ruleY a from by funext x; unfold oneY; rw [k9]; rfl, show bOne a b = bText 169 (bRule a) by unfold bOne; rw [k9]; rfl]
                      exact (Lays.rule a).mono (by omega)
                    · rw [show oneY a f = fun x => x from by funext x; unfold oneY; simp only [k0, k1, k2, k3, k4, k5, k6, k7, k8, k9, if_false], show bOne a b = [] by unfold bOne; simp only [k0, k1, k2, k3, k4, k5, k6, k7, k8, k9, if_false]]
                      exact Lays.nil _
theorem chk1_level {a : OwnF} {kids : FT} {L n d : Nat} (h0 : (chk1 a kids L n d).1 = 0) : L ≤ 64 ∧ upN a n ≤ 65536 ∧ longO a = false ∧ mayO a kids.len = true ∧ chk1 a kids L n d = chk kids (L + 1) (upN a n) (max d L) := by
  by_cases h1 : 64 < L
  · rw [chk1_deep h1] at h0; simp at h0
  · by_cases h2 : 65536 < upN a n ∨ longO a = true
    · rw [chk1_long h1 h2] at h0; simp at h0
    · by_cases h3 : mayO a kids.len = false
      · rw [chk1_not h1 h2 h3] at h0; simp at h0
      · refine ⟨by omega, by omega, ?_, by simpa using h3, chk1_go h1 h2 h3⟩
        cases hl : longO a
        · rfl
        · exact absurd (.inr hl) h2
theorem chk_two {a : OwnF} {k r : FT} {L n d : Nat} (h : (chk (.cons a k r) L n d).1 = 0) : (chk1 a k L n d).1 = 0 ∧ chk (.cons a k r) L n d = chk r L (chk1 a k L n d).2.1 (chk1 a k L n d).2.2 := by
  rw [chk_cons] at h ⊢
  by_cases h0 : (chk1 a k L n d).1 = 0
  · exact ⟨h0, if_neg (fun k => k h0)⟩
  · rw [if_pos h0] at h; exact absurd h h0
theorem lays_kids : ∀ (x : FT) (L n d : Nat), (chk x L n d).1 = 0 → Lays (67 - L) (kidsY x) (bKids x)
  | .nil, _, _, _, _ => Lays.nil _
  | .cons a k r, L, n, d, h => by
    obtain ⟨h0, h1⟩ := chk_two h
    rw [h1] at h
    obtain ⟨h2, h3, h4, h5, h6⟩ := chk1_level h0
    rw [h6] at h0
    have hk := lays_kids k (L + 1) _ _ h0
    have ho := Lays.one a (m := 66 - L) (by omega) (hk.mono (by omega))
    exact (ho.mono (by omega)).then (lays_kids r L _ _ h)
/-- a filter that may be is laid -/
theorem lays_one {a : OwnF} {k : FT} (h : (checkL a k).1 = 0) : Lays 66 (oneY a (kidsY k)) (bOne a (bKids k)) := by
  unfold checkL at h
  by_cases h0 : (chk1 a k 1 0 0).1 = 0
  · obtain ⟨h2, h3, h4, h5, h6⟩ := chk1_level h0
    rw [h6] at h0
    exact Lays.one a (m := 65) (by omega) (lays_kids k 2 _ _ h0)
  · rw [if_neg h0] at h; exact absurd h h0
/-- what Encode answers -/
theorem encL_is (a : OwnF) (k : FT) : encL a k = ([], (checkL a k).1) ∧ (checkL a k).1 ≠ 0 ∨ (checkL a k).1 = 0 ∧ (encL a k = ([], 3) ∨ encL a k = (bOne a (bKids k), 0) ∧ (bOne a (bKids k)).length ≤ 1048576) := by
  by_cases h : (checkL a k).1 = 0
  · right
    refine ⟨h, ?_⟩
    have hp : putY a k ⟨[], []⟩ = oneY a (kidsY k) (⟨[], []⟩, 0) := by unfold putY; rw [if_pos h]
    unfold encL
    rw [hp]
    rcases (lays_one h (⟨[], []⟩, 0)).2 rfl ⟨by decide, by decide, trivial⟩ (by decide) with h1 | ⟨h1, h2⟩
    · rw [if_neg (by rw [h1]; decide), h1]
      exact .inl rfl
    · rw [h1]
      simp only [List.nil_append, if_true]
      by_cases hb : 1048576 < (bOne a (bKids k)).length
      · rw [if_pos hb]; exact .inl rfl
      · rw [if_neg hb]; exact .inr ⟨rfl, by omega⟩
  · left
    have hp : putY a k ⟨[], []⟩ = (⟨[], []⟩, (checkL a k).1) := by unfold putY; rw [if_neg h]
    unfold encL
    rw [hp]
    simp only [h, if_false]
    exact ⟨trivial, h⟩
end Go.Proofs.YtmcodhdphdckkaaGreatDoor

/-
  What is written is read as it was (plain).
-/
namespace Go.Proofs.YtmcodhdphdckkaaGreatDoor

theorem bindR_ok {α β : Type} (a : α) (k : α → Rs β) : bindR (.ok a) k = k a := rfl
/-- at the place i of l there are the bytes b -/
def Has (l : List UInt8) (i : Nat) (b : List UInt8) : Prop := ∃ pre post, l = pre ++ (b ++ post) ∧ pre.length = i
theorem has_app {l b c : List UInt8} {i : Nat} (h : Has l i (b ++ c)) : Has l i b ∧ Has l (i + b.length) c := by
  obtain ⟨pre, post, rfl, rfl⟩ := h
  exact ⟨⟨pre, c ++ post, by simp [List.append_assoc], rfl⟩, ⟨pre ++ b, post, by simp [List.append_assoc], by simp⟩⟩
theorem has_len {l b : List UInt8} {i : Nat} (h : Has l i b) : i + b.length ≤ l.length := by
  obtain ⟨pre, post, rfl, rfl⟩ := h
  simp only [List.length_append]; omega
theorem has_drop {l b : List UInt8} {i : Nat} (h : Has l i b) : ∃ post, l.drop i = b ++ post := by
  obtain ⟨pre, post, rfl, rfl⟩ := h
  exact ⟨post, List.drop_left⟩
theorem has_cut {l b : List UInt8} {i : Nat} (h : Has l i b) : cutB l i (i + b.length) = b := by
  obtain ⟨post, hp⟩ := has_drop h
  unfold cutB
  rw [List.drop_take, hp, show i + b.length - i = b.length by omega, List.take_left]
theorem has_more {l b : List UInt8} {i e : Nat} (h : Has l i b) (he : i + b.length ≤ e) : ∃ r, cutB l i e = b ++ r := by
  obtain ⟨post, hp⟩ := has_drop h
  unfold cutB
  rw [List.drop_take, hp, List.take_append]
  exact ⟨_, by rw [List.take_of_length_le (by omega)]⟩
def mkIx (t i n : Nat) : Ix := ⟨⟨t / 64, t / 32 % 2 == 1, t % 32, i + 1 + lenOct n, i + 1 + lenOct n + n⟩, i, i + 1 + lenOct n⟩
theorem ofNat_toNat (t : Nat) (h : t < 256) : (UInt8.ofNat t).toNat = t := by simp; omega
theorem has_item {l s : List UInt8} {t i e : Nat} (h : Has l i (bText t s)) (ht : t < 256) (h31 : t % 32 ≠ 31) (hs : s.length < 67108864) (he : i + (bText t s).length ≤ e) (hl : e ≤ l.length) :
    itemR l (i : Int) (e : Int) = .ok (mkIx t i s.length) ∧ bAt l i = t ∧ Has l (i + 1 + lenOct s.length) s := by
  refine ⟨?_, ?_, ?_⟩
  · obtain ⟨r, hr⟩ := has_more h he
    have hH : headL l (i : Int) (e : Int) = (⟨t / 64, t / 32 % 2 == 1, t % 32, i + 1 + lenOct s.length, i + 1 + lenOct s.length + s.length⟩, 0) := by
      unfold headL
      rw [if_pos ⟨by omega, by omega, by omega⟩, Int.toNat_natCast, Int.toNat_natCast, hr]
      have e1 : bText t s ++ r = UInt8.ofNat t :: (lenL s.length ++ (s ++ r)) := by simp [bText, List.append_assoc]
      rw [e1]
      unfold headB
      simp only
      rw [ofNat_toNat t ht, bodyLen_lenL s.length (s ++ r) (by simp) (Nat.lt_trans hs (by decide))]
      simp [h31]
    unfold itemR
    rw [hH]
    rfl
  · obtain ⟨pre, post, rfl, rfl⟩ := h
    unfold bAt
    simp [bText]
    omega
  · have e1 : bText t s = (UInt8.ofNat t :: lenL s.length) ++ s := rfl
    rw [e1] at h
    have := (has_app h).2
    simp only [List.length_cons, lenL_length] at this
    rw [show i + 1 + lenOct s.length = i + (lenOct s.length + 1) by omega]
    exact this
/-- what is left of an item's body -/
structure Body (l : List UInt8) (x : Ix) (b : List UInt8) : Prop where
  has : Has l x.next b
  til : x.next + b.length = x.t.til
theorem Body.len {l b : List UInt8} {x : Ix} (h : Body l x b) : x.t.til ≤ l.length := by have := has_len h.has; have := h.til; omega
theorem Body.no {l : List UInt8} {x : Ix} (h : Body l x []) : x.left = false := by have := h.til; unfold Ix.left; simp at this ⊢; omega
theorem Body.yes {l b : List UInt8} {x : Ix} (h : Body l x b) (hb : 0 < b.length) : x.left = true := by have := h.til; unfold Ix.left; simp; omega
theorem Body.end {l : List UInt8} {x : Ix} (h : Body l x []) : endR l x = .ok () := by unfold endR; rw [h.no]; rfl
theorem Body.item {l s c : List UInt8} {x : Ix} {t : Nat} (h : Body l x (bText t s ++ c)) (ht : t < 256) (h31 : t % 32 ≠ 31) (hs : s.length < 67108864) :
    x.left = true ∧ itemR l (x.next : Int) (x.t.til : Int) = .ok (mkIx t x.next s.length) ∧ bAt l x.next = t ∧ Body l (mkIx t x.next s.length) s ∧ Body l (x.to (mkIx t x.next s.length).t.til) c ∧ (mkIx t x.next s.length).t.til = x.next + (bText t s).length := by
  have hn := bText_len t s
  obtain ⟨h1, h2⟩ := has_app h.has
  have h3 := h.til
  rw [List.length_append] at h3
  obtain ⟨k1, k2, k3⟩ := has_item h1 ht h31 hs (e := x.t.til) (by omega) h.len
  refine ⟨h.yes (by rw [List.length_append]; omega), k1, k2, ⟨k3, rfl⟩, ⟨?_, ?_⟩, ?_⟩
  · show Has l (x.next + 1 + lenOct s.length + s.length) c
    rw [show x.next + 1 + lenOct s.length + s.length = x.next + (bText t s).length by omega]
    exact h2
  · show x.next + 1 + lenOct s.length + s.length + c.length = x.t.til
    omega
  · show x.next + 1 + lenOct s.length + s.length = _
    omega
theorem Body.take {l s c : List UInt8} {x : Ix} {t : Nat} (h : Body l x (bText t s ++ c)) (ht : t < 256) (h31 : t % 32 ≠ 31) (hs : s.length < 67108864) : takeR l x t = .ok (mkIx t x.next s.length) := by
  obtain ⟨h1, h2, h3, -⟩ := h.item ht h31 hs
  unfold takeR
  rw [h1, h2]
  simp only [if_true]
  rw [if_pos (by show bAt l x.next = t; exact h3)]
theorem Body.comes {l s c : List UInt8} {x : Ix} {t : Nat} (h : Body l x (bText t s ++ c)) (ht : t < 256) (h31 : t % 32 ≠ 31) (hs : s.length < 67108864) (u : Nat) : comesR l x u = .ok (t == u) := by
  obtain ⟨h1, h2, h3, -⟩ := h.item ht h31 hs
  unfold comesR
  rw [h1, h2]
  simp only [if_true]
  show Except.ok (bAt l x.next == u) = _
  rw [h3]
theorem Body.text {l s : List UInt8} {t i : Nat} (h : Body l (mkIx t i s.length) s) (hs : s.length ≤ 65536) (hc : t / 32 % 2 ≠ 1) : textR l (mkIx t i s.length) = .ok s := by
  unfold textR
  rw [if_neg (by show ¬ 65536 < i + 1 + lenOct s.length + s.length - (i + 1 + lenOct s.length); omega), if_neg (by show ¬ (t / 32 % 2 == 1) = true; simp [hc])]
  exact congrArg Except.ok (has_cut h.has)
theorem against_back {l d v : List UInt8} {x : Ix} (k : Int) (h : Body l x (bText 4 d ++ bText 4 v)) (hd : d.length ≤ 65536) (hv : v.length ≤ 65536) : againstR l x k = checkedR { ownK k with desc := str d, value := str v } .nil x.at_ := by
  obtain ⟨-, -, -, b1, b2, -⟩ := h.item (by decide) (by decide) (by omega)
  rw [← List.append_nil (bText 4 v)] at b2
  obtain ⟨-, -, -, b3, b4, -⟩ := b2.item (by decide) (by decide) (by omega)
  unfold againstR
  rw [h.take (by decide) (by decide) (by omega)]
  rw [bindR_ok]
  rw [b1.text hd (by decide)]
  rw [bindR_ok]
  rw [b2.take (by decide) (by decide) (by omega)]
  rw [bindR_ok]
  rw [b3.text hv (by decide)]
  rw [bindR_ok]
  rw [show x.to (mkIx 4 (x.to (mkIx 4 x.next d.length).t.til).next v.length).t.til = (x.to (mkIx 4 x.next d.length).t.til).to (mkIx 4 (x.to (mkIx 4 x.next d.length).t.til).next v.length).t.til from rfl, b4.end]
  rfl
/-- what follows does not begin with that tag -/
def Other (c : List UInt8) (u : Nat) : Prop := c = [] ∨ ∃ t s r, c = bText t s ++ r ∧ t ≠ u ∧ t < 256 ∧ t % 32 ≠ 31 ∧ s.length < 67108864
theorem Body.other {l c : List UInt8} {x : Ix} {u : Nat} (h : Body l x c) (ho : Other c u) : comesR l x u = .ok false := by
  rcases ho with rfl | ⟨t, s, r, rfl, h1, h2, h3, h4⟩
  · unfold comesR; rw [h.no]; rfl
  · rw [h.comes h2 h3 h4]; simp [h1]
theorem other_some {t u : Nat} {s c : List UInt8} (h1 : t ≠ u) (h2 : t < 256) (h3 : t % 32 ≠ 31) (h4 : s.length < 67108864) (h : Other c u) : Other (bSome t s ++ c) u := by
  unfold bSome
  split
  · exact h
  · exact .inr ⟨t, s, c, rfl, h1, h2, h3, h4⟩
theorem Ix.to_to (x : Ix) (n m : Nat) : (x.to n).to m = x.to m := rfl
theorem Ix.to_self (x : Ix) : x.to x.next = x := rfl
theorem opt_back {l s c : List UInt8} {x : Ix} {u : Nat} (h : Body l x (bSome u s ++ c)) (hu : u < 256) (h31 : u % 32 ≠ 31) (hc : u / 32 % 2 ≠ 1) (hs : s.length ≤ 65536) (ho : Other c u) : ∃ n, optR l x u = .ok (s, n) ∧ Body l (x.to n) c := by
  unfold optR
  by_cases h0 : s = []
  · subst h0
    rw [bSome, if_pos rfl, List.nil_append] at h
    rw [h.other ho]
    exact ⟨x.next, rfl, h⟩
  · rw [bSome, if_neg h0] at h
    obtain ⟨-, -, -, b1, b2, -⟩ := h.item hu h31 (by omega)
    rw [h.comes hu h31 (by omega)]
    rw [bindR_ok, beq_self_eq_true, if_pos rfl]
    rw [h.take hu h31 (by omega)]
    rw [bindR_ok]
    rw [b1.text hs hc]
    exact ⟨_, rfl, b2⟩
theorem last_back {l s : List UInt8} {x : Ix} (h : Body l x (bSome 130 s)) (hs : s.length ≤ 65536) : ∃ n, lastR l x = .ok (s, n) ∧ Body l (x.to n) [] := by
  unfold lastR
  by_cases h0 : s = []
  · subst h0
    rw [bSome, if_pos rfl] at h
    rw [h.no]
    exact ⟨x.next, rfl, h⟩
  · rw [bSome, if_neg h0, ← List.append_nil (bText 130 s)] at h
    obtain ⟨h1, -, -, b1, b2, -⟩ := h.item (by decide) (by decide) (by omega)
    rw [h1]
    simp only [if_true]
    rw [h.take (by decide) (by decide) (by omega)]
    rw [bindR_ok]
    rw [b1.text hs (by decide)]
    exact ⟨_, rfl, b2⟩
theorem mids_back {l c : List UInt8} (ho : Other c 129) : ∀ (ms : List ByteArray) (g : Nat) (x : Ix) (acc : List ByteArray), Body l x (bMids ms ++ c) → ms.length < g → (∀ m ∈ ms, m.size ≤ 65536 ∧ m.size ≠ 0) → ∃ n, midsA l g x acc = .ok (acc ++ ms, n) ∧ Body l (x.to n) c
  | [], g + 1, x, acc, h, _, _ => by
    rw [bMids, List.nil_append] at h
    unfold midsA
    rw [h.other ho]
    exact ⟨x.next, by simp [bindR], h⟩
  | m :: r, g + 1, x, acc, h, hg, hm => by
    rw [bMids, List.append_assoc] at h
    have hsz := hm m (List.mem_cons_self ..)
    have hbl : (byt m).length = m.size := byt_length m
    obtain ⟨-, -, -, b1, b2, -⟩ := h.item (by decide) (by decide) (by omega)
    unfold midsA
    rw [h.comes (by decide) (by decide) (by omega)]
    rw [bindR_ok, beq_self_eq_true, if_pos rfl]
    rw [h.take (by decide) (by decide) (by omega)]
    rw [bindR_ok]
    rw [b1.text (by omega) (by decide)]
    rw [bindR_ok]
    rw [if_neg (by intro e; rw [e] at hbl; simp at hbl; omega), str_byt]
    obtain ⟨n, e, hb⟩ := mids_back ho r g _ (acc ++ [m]) b2 (by simp at hg; omega) (fun k hk => hm k (List.mem_cons_of_mem _ hk))
    exact ⟨n, by rw [e]; simp, hb⟩
theorem bMids_len (ms : List ByteArray) : ms.length ≤ (bMids ms).length := by
  induction ms with
  | nil => simp
  | cons m r ih => rw [bMids, List.length_append, bText_len]; simp; omega
theorem pieces_back {l : List UInt8} {x : Ix} {a : OwnF} (h : Body l x (bPieces a)) (hs : smallO a) (hp : piecesB a.start a.ms a.fin = true) : piecesR l x = .ok (byt a.start, a.ms, byt a.fin) := by
  obtain ⟨s1, s2, s3, s4, s5, s6⟩ := hs
  have l3 : (byt a.start).length = a.start.size := byt_length _
  have l4 : (byt a.fin).length = a.fin.size := byt_length _
  unfold piecesB anyE at hp
  simp only [Bool.and_eq_true, Bool.or_eq_true, Bool.not_eq_true', decide_eq_false_iff_not, decide_eq_true_eq, List.any_eq_false, decide_eq_true_eq] at hp
  obtain ⟨hp1, hp2⟩ := hp
  unfold bPieces at h
  have hpos : 0 < (bSome 128 (byt a.start) ++ bMids a.ms ++ bSome 130 (byt a.fin)).length := by
    have hx : ∀ t (s : List UInt8), s.length ≠ 0 → 0 < (bSome t s).length := fun t s k => by
      unfold bSome
      rw [if_neg (by intro e; rw [e] at k; simp at k), bText_len]
      omega
    simp only [List.length_append]
    have := bMids_len a.ms
    rcases hp1 with (k | k) | k
    · have := hx 128 (byt a.start) (by omega); omega
    · omega
    · have := hx 130 (byt a.fin) (by omega); omega
  have hleft := h.yes hpos
  rw [List.append_assoc] at h
  have hoth : Other (bSome 130 (byt a.fin)) 129 := by
    have := other_some (t := 130) (u := 129) (s := byt a.fin) (c := []) (by decide) (by decide) (by decide) (by omega) (.inl rfl)
    rwa [List.append_nil] at this
  have hoth1 : Other (bMids a.ms ++ bSome 130 (byt a.fin)) 128 := by
    cases hm : a.ms with
    | nil =>
      have := other_some (t := 130) (u := 128) (s := byt a.fin) (c := []) (by decide) (by decide) (by decide) (by omega) (.inl rfl)
      rw [List.append_nil] at this
      simpa [bMids] using this
    | cons m r => exact .inr ⟨129, byt m, bMids r ++ bSome 130 (byt a.fin), by simp [bMids, List.append_assoc], by decide, by decide, by decide, by rw [byt_length]; have := s6 m (by rw [hm]; exact List.mem_cons_self ..); omega⟩
  have hms : a.ms.length < x.t.til + 1 := by
    have := h.til
    simp only [List.length_append] at this
    have := bMids_len a.ms
    omega
  obtain ⟨n1, e1, b1⟩ := opt_back h (by decide) (by decide) (by decide) (by omega) hoth1
  obtain ⟨n2, e2, b2⟩ := mids_back hoth a.ms (x.t.til + 1) _ [] b1 hms (fun m hm => ⟨s6 m hm, hp2 m hm⟩)
  obtain ⟨n3, e3, b3⟩ := last_back b2 (by omega)
  have e1' : firstR l x = .ok (byt a.start, n1) := e1
  unfold piecesR needR
  rw [hleft]
  rw [if_pos rfl, bindR_ok]
  rw [e1']
  rw [bindR_ok]
  rw [e2]
  rw [bindR_ok]
  rw [show x.to n2 = (x.to n1).to n2 from rfl, e3]
  rw [bindR_ok]
  rw [show x.to n3 = ((x.to n1).to n2).to n3 from rfl, b3.end, List.nil_append]
  rfl
theorem rule_back {l : List UInt8} {x : Ix} {a : OwnF} (h : Body l x (bRule a)) (hs : smallO a) : ruleR l x = .ok ⟨9, a.desc, a.value, ⟨#[]⟩, [], ⟨#[]⟩, a.rule, a.dn⟩ := by
  obtain ⟨s1, s2, s3, s4, s5, s6⟩ := hs
  have l1 : (byt a.desc).length = a.desc.size := byt_length _
  have l2 : (byt a.value).length = a.value.size := byt_length _
  have l5 : (byt a.rule).length = a.rule.size := byt_length _
  unfold bRule at h
  rw [List.append_assoc, List.append_assoc] at h
  have ho1 : Other (bText 131 (byt a.value) ++ if a.dn then bText 132 [255] else []) 130 := .inr ⟨131, byt a.value, _, rfl, by decide, by decide, by decide, by omega⟩
  have ho0 : Other (bText 131 (byt a.value) ++ if a.dn then bText 132 [255] else []) 129 := .inr ⟨131, byt a.value, _, rfl, by decide, by decide, by decide, by omega⟩
  obtain ⟨n1, e1, b1⟩ := opt_back h (by decide) (by decide) (by decide) (by omega) (other_some (by decide) (by decide) (by decide) (by omega) ho0)
  obtain ⟨n2, e2, b2⟩ := opt_back b1 (by decide) (by decide) (by decide) (by omega) ho1
  obtain ⟨-, -, -, b3, b4, -⟩ := b2.item (by decide) (by decide) (by omega)
  have e3 := b2.take (by decide) (by decide) (by omega)
  have e4 := b3.text (by omega) (by decide)
  generalize hy : mkIx 131 ((x.to n1).to n2).next (byt a.value).length = y at e3 e4 b4
  have e5 : ∃ n, dnR l (x.to y.t.til) = .ok (a.dn, n) ∧ Body l (x.to n) [] := by
    unfold dnR
    cases hd : a.dn with
    | false =>
      rw [hd] at b4
      have b5 : Body l (x.to y.t.til) [] := b4
      rw [b5.no]
      exact ⟨_, rfl, b5⟩
    | true =>
      rw [hd] at b4
      have b5 : Body l (x.to y.t.til) (bText 132 [255] ++ []) := by rw [List.append_nil]; exact b4
      obtain ⟨h1, -, -, b6, b7, -⟩ := b5.item (by decide) (by decide) (by decide)
      rw [h1]
      simp only [if_true]
      rw [b5.take (by decide) (by decide) (by decide)]
      rw [bindR_ok]
      have hf : flagR l (mkIx 132 (x.to y.t.til).next [(255 : UInt8)].length) = .ok true := by
        unfold flagR
        have hcut := has_cut b6.has
        rw [if_neg (by show ¬ (132 / 32 % 2 == 1) = true; decide)]
        have hcut' : cutB l (mkIx 132 (x.to y.t.til).next [(255 : UInt8)].length).t.fro (mkIx 132 (x.to y.t.til).next [(255 : UInt8)].length).t.til = [255] := hcut
        rw [hcut', if_pos (.inl rfl)]
        rfl
      rw [hf]
      exact ⟨_, rfl, b7⟩
  obtain ⟨n5, e5, b5⟩ := e5
  unfold ruleR
  rw [e1]
  rw [bindR_ok]
  rw [e2]
  rw [bindR_ok]
  rw [show x.to n2 = (x.to n1).to n2 from rfl, e3]
  rw [bindR_ok]
  rw [e4]
  rw [bindR_ok]
  rw [e5]
  rw [bindR_ok]
  rw [b5.end]
  simp only [str_byt]
  rfl
theorem part_back {l : List UInt8} {x : Ix} {a : OwnF} (h : Body l x (bText 4 (byt a.desc) ++ bText 48 (bPieces a))) (hs : smallO a) (hp : piecesB a.start a.ms a.fin = true) (hb : (bPieces a).length < 67108864) : partR l x = .ok ⟨4, a.desc, ⟨#[]⟩, a.start, a.ms, a.fin, ⟨#[]⟩, false⟩ := by
  have hs1 := hs.1
  have l1 : (byt a.desc).length = a.desc.size := byt_length _
  obtain ⟨-, -, -, b1, b2, -⟩ := h.item (by decide) (by decide) (by omega)
  rw [← List.append_nil (bText 48 (bPieces a))] at b2
  obtain ⟨-, -, -, b3, b4, -⟩ := b2.item (by decide) (by decide) (by omega)
  unfold partR
  rw [h.take (by decide) (by decide) (by omega), bindR_ok, b1.text (by omega) (by decide), bindR_ok, b2.take (by decide) (by decide) (by omega), bindR_ok, pieces_back b3 hs hp, bindR_ok,
    show x.to (mkIx 48 (x.to (mkIx 4 x.next (byt a.desc).length).t.til).next (bPieces a).length).t.til = (x.to (mkIx 4 x.next (byt a.desc).length).t.til).to (mkIx 48 (x.to (mkIx 4 x.next (byt a.desc).length).t.til).next (bPieces a).length).t.til from rfl, b4.end, bindR_ok]
  unfold partO
  rw [if_neg, str_byt, str_byt, str_byt]
  simp only
  rintro ⟨k1, k2, k3⟩
  unfold piecesB at hp
  rw [k2, (byt_nil _).mp k1, (byt_nil _).mp k3] at hp
  simp at hp
theorem size_nil {s : ByteArray} (h : s.size = 0) : s = ⟨#[]⟩ := by
  have : byt s = [] := (byt_nil s).mpr h
  rw [← str_byt s, this]
  rfl
/-- what a part that may be is -/
theorem may_is {a : OwnF} {n : Nat} (h : mayO a n = true) :
    ((a.kind = 0 ∨ a.kind = 1) ∧ 0 < n ∧ a = ownK a.kind) ∨ (a.kind = 2 ∧ n = 1 ∧ a = ownK 2) ∨ ((a.kind = 3 ∨ a.kind = 5 ∨ a.kind = 6 ∨ a.kind = 8) ∧ n = 0 ∧ a = { ownK a.kind with desc := a.desc, value := a.value }) ∨ (a.kind = 7 ∧ n = 0 ∧ a = { ownK 7 with desc := a.desc })
    ∨ (a.kind = 4 ∧ n = 0 ∧ a = ⟨4, a.desc, ⟨#[]⟩, a.start, a.ms, a.fin, ⟨#[]⟩, false⟩ ∧ piecesB a.start a.ms a.fin = true) ∨ (a.kind = 9 ∧ n = 0 ∧ a = ⟨9, a.desc, a.value, ⟨#[]⟩, [], ⟨#[]⟩, a.rule, a.dn⟩) := by
  obtain ⟨kind, desc, value, start, ms, fin, rule, dn⟩ := a
  unfold mayO mayF rightF restF OwnF.f9 at h
  simp only at h
  have hz : (⟨#[]⟩ : ByteArray).size = 0 := rfl
  have hms : ∀ l : List ByteArray, l.length = 0 → l = [] := fun l hl => List.length_eq_zero_iff.mp hl
  by_cases k0 : kind = 0 ∨ kind = 1
  · left
    simp only [if_pos k0, bareB, Bool.and_eq_true, decide_eq_true_eq, Bool.not_eq_true'] at h
    obtain ⟨h1, ⟨⟨h2, -⟩, h3⟩, h4⟩ := h
    refine ⟨k0, h1, ?_⟩
    rw [size_nil (s := desc) (by omega), size_nil (s := value) (by omega), size_nil (s := start) (by omega), size_nil (s := fin) (by omega), size_nil (s := rule) (by omega), hms ms h3, h4]
    rfl
  · right
    by_cases k2 : kind = 2
    · left
      simp only [if_neg k0, if_pos k2, bareB, Bool.and_eq_true, decide_eq_true_eq, Bool.not_eq_true'] at h
      obtain ⟨h1, ⟨⟨h2, -⟩, h3⟩, h4⟩ := h
      refine ⟨k2, h1, ?_⟩
      rw [size_nil (s := desc) (by omega), size_nil (s := value) (by omega), size_nil (s := start) (by omega), size_nil (s := fin) (by omega), size_nil (s := rule) (by omega), hms ms h3, h4, k2]
      rfl
    · right
      by_cases k3 : kind = 3 ∨ kind = 5 ∨ kind = 6 ∨ kind = 8
      · left
        simp only [if_neg k0, if_neg k2, if_pos k3, bareB, Bool.and_eq_true, decide_eq_true_eq, Bool.not_eq_true', hz] at h
        obtain ⟨h1, ⟨⟨h2, h5⟩, h3⟩, h4⟩ := h
        refine ⟨k3, h5, ?_⟩
        rw [size_nil (s := start) (by omega), size_nil (s := fin) (by omega), size_nil (s := rule) (by omega), hms ms h3, h4]
        rfl
      · right
        by_cases k7 : kind = 7
        · left
          simp only [if_neg k0, if_neg k2, if_neg k3, if_pos k7, bareB, Bool.and_eq_true, decide_eq_true_eq, Bool.not_eq_true', hz] at h
          obtain ⟨h1, ⟨⟨h2, h5⟩, h3⟩, h4⟩ := h
          refine ⟨k7, h5, ?_⟩
          rw [size_nil (s := value) (by omega), size_nil (s := start) (by omega), size_nil (s := fin) (by omega), size_nil (s := rule) (by omega), hms ms h3, h4, k7]
          rfl
        · right
          by_cases k4 : kind = 4
          · left
            simp only [if_neg k0, if_neg k2, if_neg k3, if_neg k7, if_pos k4, bareB, Bool.and_eq_true, decide_eq_true_eq, Bool.not_eq_true', hz] at h
            obtain ⟨⟨h1, h6⟩, ⟨⟨h2, h5⟩, -⟩, h4⟩ := h
            refine ⟨k4, h5, ?_, h6⟩
            rw [size_nil (s := value) (by omega), size_nil (s := rule) (by omega), h4, k4]
          · right
            by_cases k9 : kind = 9
            · simp only [if_neg k0, if_neg k2, if_neg k3, if_neg k7, if_neg k4, if_pos k9, bareB, Bool.and_eq_true, decide_eq_true_eq, Bool.not_eq_true', hz] at h
              obtain ⟨h1, ⟨⟨h2, h5⟩, h3⟩, -⟩ := h
              refine ⟨k9, h5, ?_⟩
              rw [size_nil (s := start) (by omega), size_nil (s := fin) (by omega), hms ms h3, k9]
            · simp [if_neg k0, if_neg k2, if_neg k3, if_neg k7, if_neg k4, if_neg k9] at h
theorem check_alone {a : OwnF} (h1 : longO a = false) (h2 : mayO a 0 = true) : (checkL a .nil).1 = 0 := by
  have : (chk1 a .nil 1 0 0).1 = 0 := by
    rw [chk1_go (by omega) (fun k => k.elim (fun k => by unfold upN at k; split at k <;> omega) (fun k => by rw [h1] at k; exact absurd k (by decide))) (by show ¬ mayO a 0 = false; rw [h2]; decide)]
    rfl
  unfold checkL
  rw [if_pos this]
  exact this
end Go.Proofs.YtmcodhdphdckkaaGreatDoor

/-
  What is written is read as it was: filters of any size (plain).
-/
namespace Go.Proofs.YtmcodhdphdckkaaGreatDoor

def ofFT : FT → List (OwnF × FT)
  | .nil => []
  | .cons a k r => (a, k) :: ofFT r
theorem toFT_of : ∀ r : FT, toFT (ofFT r) = r
  | .nil => rfl
  | .cons a k r => by rw [ofFT, toFT, toFT_of r]
theorem len_zero {k : FT} (h : k.len = 0) : k = .nil := by
  cases k with
  | nil => rfl
  | cons _ _ _ => simp [FT.len] at h
/-- one filter's bytes are one item -/
theorem bOne_item {a : OwnF} {n : Nat} (h : mayO a n = true) (b : List UInt8) : ∃ t s, bOne a b = bText t s ∧ t < 256 ∧ t % 32 ≠ 31 := by
  unfold bOne
  rcases may_is h with ⟨k | k, _⟩ | ⟨k, _⟩ | ⟨k | k | k | k, _⟩ | ⟨k, _⟩ | ⟨k, _⟩ | ⟨k, _⟩ <;> rw [k] <;> exact ⟨_, _, rfl, by decide, by decide⟩
theorem bOne_pos {a : OwnF} {n : Nat} (h : mayO a n = true) (b : List UInt8) : 1 ≤ (bOne a b).length := by
  obtain ⟨t, s, e, -⟩ := bOne_item h b
  rw [e, bText_len]
  omega
theorem bKids_len : ∀ (r : FT) (L n d : Nat), (chk r L n d).1 = 0 → r.len ≤ (bKids r).length
  | .nil, _, _, _, _ => Nat.zero_le _
  | .cons a k r, L, n, d, h => by
    obtain ⟨h0, h1⟩ := chk_two h
    rw [h1] at h
    obtain ⟨-, -, -, h5, -⟩ := chk1_level h0
    have := bKids_len r L _ _ h
    have := bOne_pos h5 (bKids k)
    rw [bKids, List.length_append, FT.len]
    omega
/-- what a reader of one filter does with filters of the level L that were written -/
def ReadsK (l : List UInt8) (K : KF) (L : Nat) : Prop := ∀ (a : OwnF) (k : FT) (n d i e : Nat), (chk1 a k L n d).1 = 0 → Has l i (bOne a (bKids k)) → i + (bOne a (bKids k)).length ≤ e → e ≤ l.length → K (i : Int) (e : Int) n = .ok ⟨a, k, i + (bOne a (bKids k)).length, (chk1 a k L n d).2.1⟩
theorem kidsA_back {l : List UInt8} {K : KF} {L : Nat} (hK : ReadsK l K L) : ∀ (r : FT) (g : Nat) (x : Ix) (n d : Nat) (acc : List (OwnF × FT)), (chk r L n d).1 = 0 → Body l x (bKids r) → r.len ≤ g → kidsA K g x n acc = .ok (acc ++ ofFT r, (chk r L n d).2.1)
  | .nil, 0, x, n, d, acc, _, _, _ => by rw [ofFT, List.append_nil]; rfl
  | .nil, g + 1, x, n, d, acc, _, hb, _ => by
    have := Body.no (show Body l x [] from hb)
    unfold kidsA
    rw [this, ofFT, List.append_nil]
    rfl
  | .cons a k r, 0, x, n, d, acc, _, _, hg => by simp [FT.len] at hg
  | .cons a k r, g + 1, x, n, d, acc, h, hb, hg => by
    obtain ⟨h0, h1⟩ := chk_two h
    obtain ⟨-, -, -, h5, -⟩ := chk1_level h0
    rw [h1] at h ⊢
    have hp := bOne_pos h5 (bKids k)
    rw [bKids] at hb
    obtain ⟨b1, b2⟩ := has_app hb.has
    have ht := hb.til
    rw [List.length_append] at ht
    have hl := hb.len
    have hk := hK a k n d x.next x.t.til h0 b1 (by omega) hl
    unfold kidsA
    rw [hb.yes (by rw [List.length_append]; omega), if_pos rfl, hk, bindR_ok]
    have := kidsA_back hK r g (x.to (x.next + (bOne a (bKids k)).length)) _ (chk1 a k L n d).2.2 (acc ++ [(a, k)]) h ⟨b2, by show x.next + (bOne a (bKids k)).length + (bKids r).length = x.t.til; omega⟩ (by rw [FT.len] at hg; omega)
    rw [this]
    simp [ofFT]
theorem kids_back {l : List UInt8} {K : KF} {L : Nat} (hK : ReadsK l K L) (r : FT) (x : Ix) (n d : Nat) (h : (chk r L n d).1 = 0) (hb : Body l x (bKids r)) (hp : 0 < r.len) : kidsR K x n = .ok (ofFT r, (chk r L n d).2.1) := by
  cases r with
  | nil => simp [FT.len] at hp
  | cons a k r =>
    obtain ⟨h0, h1⟩ := chk_two h
    obtain ⟨-, -, -, h5, -⟩ := chk1_level h0
    rw [h1] at h ⊢
    have hp := bOne_pos h5 (bKids k)
    rw [bKids] at hb
    obtain ⟨b1, b2⟩ := has_app hb.has
    have ht := hb.til
    rw [List.length_append] at ht
    have hl := hb.len
    have hk := hK a k n d x.next x.t.til h0 b1 (by omega) hl
    have hlen := bKids_len r L _ _ h
    unfold kidsR kidR needR
    rw [hb.yes (by rw [List.length_append]; omega), if_pos rfl, bindR_ok, hk, bindR_ok]
    have := kidsA_back hK r (x.t.til + 1) (x.to (x.next + (bOne a (bKids k)).length)) _ (chk1 a k L n d).2.2 [(a, k)] h ⟨b2, by show x.next + (bOne a (bKids k)).length + (bKids r).length = x.t.til; omega⟩ (by omega)
    rw [this]
    rfl
theorem only_back {l : List UInt8} {K : KF} {L : Nat} (hK : ReadsK l K L) (r : FT) (x : Ix) (n d : Nat) (h : (chk r L n d).1 = 0) (hb : Body l x (bKids r)) (hp : r.len = 1) : onlyR K l x n = .ok (ofFT r, (chk r L n d).2.1) := by
  cases r with
  | nil => simp [FT.len] at hp
  | cons a k r =>
    obtain rfl : r = .nil := len_zero (by rw [FT.len] at hp; omega)
    obtain ⟨h0, h1⟩ := chk_two h
    obtain ⟨-, -, -, h5, -⟩ := chk1_level h0
    rw [h1] at h ⊢
    have hp := bOne_pos h5 (bKids k)
    rw [bKids] at hb
    obtain ⟨b1, b2⟩ := has_app hb.has
    have ht := hb.til
    rw [List.length_append] at ht
    have hl := hb.len
    have hk := hK a k n d x.next x.t.til h0 b1 (by omega) hl
    have be : Body l (x.to (x.next + (bOne a (bKids k)).length)) [] := ⟨b2, by show x.next + (bOne a (bKids k)).length + 0 = x.t.til; simp [bKids] at ht; omega⟩
    unfold onlyR kidR needR
    rw [hb.yes (by rw [List.length_append]; omega), if_pos rfl, bindR_ok, hk, bindR_ok, be.end, bindR_ok]
    rfl
/-- one filter is read -/
theorem filter_back {l : List UInt8} {K : KF} {L : Nat} (hl : l.length < 67108864) (hK : ReadsK l K (L + 1)) (a : OwnF) (kids : FT) (n d i : Nat) (h0 : (chk1 a kids L n d).1 = 0) (hh : Has l i (bOne a (bKids kids))) :
    ∃ t s, bOne a (bKids kids) = bText t s ∧ t < 256 ∧ t % 32 ≠ 31 ∧ (t = 162 ↔ a.kind = 2) ∧ (bAt l i = t → Body l (mkIx t i s.length) s → filterR K l (mkIx t i s.length) (upN a n) = .ok (a, kids, (chk1 a kids L n d).2.1)) := by
  have hsm := chk1_small h0
  obtain ⟨hs, -⟩ := hsm
  obtain ⟨-, -, h3, h5, h6⟩ := chk1_level h0
  rw [h6] at h0 ⊢
  have hlen := has_len hh
  obtain ⟨s1, s2, s3, s4, s5, s6⟩ := id hs
  have l1 : (byt a.desc).length = a.desc.size := byt_length _
  have l2 : (byt a.value).length = a.value.size := byt_length _
  rcases may_is h5 with ⟨hk, hn, ha⟩ | ⟨hk, hn, ha⟩ | ⟨hk, hn, ha⟩ | ⟨hk, hn, ha⟩ | ⟨hk, hn, ha, hp⟩ | ⟨hk, hn, ha⟩
  · rcases hk with hk | hk
    · refine ⟨160, bKids kids, by unfold bOne; rw [hk]; rfl, by decide, by decide, by rw [hk]; decide, fun hb hB => ?_⟩
      have hb' : bAt l (mkIx 160 i (bKids kids).length).at_ = 160 := hb
      unfold filterR
      rw [if_pos hb', kids_back hK kids _ _ _ h0 hB hn, bindR_ok, toFT_of]
      rw [ha, hk]
    · refine ⟨161, bKids kids, by unfold bOne; rw [hk]; rfl, by decide, by decide, by rw [hk]; decide, fun hb hB => ?_⟩
      have hb' : bAt l (mkIx 161 i (bKids kids).length).at_ = 161 := hb
      unfold filterR
      rw [if_neg (by rw [hb']; decide), if_pos hb', kids_back hK kids _ _ _ h0 hB hn, bindR_ok, toFT_of]
      rw [ha, hk]
  · refine ⟨162, bKids kids, by unfold bOne; rw [hk]; rfl, by decide, by decide, by rw [hk]; decide, fun hb hB => ?_⟩
    have hb' : bAt l (mkIx 162 i (bKids kids).length).at_ = 162 := hb
    unfold filterR
    rw [if_neg (by rw [hb']; decide), if_neg (by rw [hb']; decide), if_pos hb', only_back hK kids _ _ _ h0 hB hn, bindR_ok, toFT_of]
    rw [ha]
  · obtain rfl := len_zero hn
    rw [hn] at h5
    have hca := check_alone h3 h5
    have hag : ∀ (x : Ix) (k : Int), k = a.kind → Body l x (bText 4 (byt a.desc) ++ bText 4 (byt a.value)) → againstR l x k = .ok a := fun x k hk hB => by
      rw [against_back k hB (by omega) (by omega), str_byt, str_byt, hk, ← ha]
      unfold checkedR
      rw [if_pos hca]
    rcases hk with hk | hk | hk | hk
    · refine ⟨163, bText 4 (byt a.desc) ++ bText 4 (byt a.value), by unfold bOne; rw [hk]; rfl, by decide, by decide, by rw [hk]; decide, fun hb hB => ?_⟩
      have hb' : bAt l (mkIx 163 i (bText 4 (byt a.desc) ++ bText 4 (byt a.value)).length).at_ = 163 := hb
      unfold filterR
      rw [if_neg (by rw [hb']; decide), if_neg (by rw [hb']; decide), if_neg (by rw [hb']; decide), if_pos hb', hag _ 3 hk.symm hB, bindR_ok]
      rfl
    · refine ⟨165, bText 4 (byt a.desc) ++ bText 4 (byt a.value), by unfold bOne; rw [hk]; rfl, by decide, by decide, by rw [hk]; decide, fun hb hB => ?_⟩
      have hb' : bAt l (mkIx 165 i (bText 4 (byt a.desc) ++ bText 4 (byt a.value)).length).at_ = 165 := hb
      unfold filterR
      rw [if_neg (by rw [hb']; decide), if_neg (by rw [hb']; decide), if_neg (by rw [hb']; decide), if_neg (by rw [hb']; decide), if_pos hb', hag _ 5 hk.symm hB, bindR_ok]
      rfl
    · refine ⟨166, bText 4 (byt a.desc) ++ bText 4 (byt a.value), by unfold bOne; rw [hk]; rfl, by decide, by decide, by rw [hk]; decide, fun hb hB => ?_⟩
      have hb' : bAt l (mkIx 166 i (bText 4 (byt a.desc) ++ bText 4 (byt a.value)).length).at_ = 166 := hb
      unfold filterR
      rw [if_neg (by rw [hb']; decide), if_neg (by rw [hb']; decide), if_neg (by rw [hb']; decide), if_neg (by rw [hb']; decide), if_neg (by rw [hb']; decide), if_pos hb', hag _ 6 hk.symm hB, bindR_ok]
      rfl
    · refine ⟨168, bText 4 (byt a.desc) ++ bText 4 (byt a.value), by unfold bOne; rw [hk]; rfl, by decide, by decide, by rw [hk]; decide, fun hb hB => ?_⟩
      have hb' : bAt l (mkIx 168 i (bText 4 (byt a.desc) ++ bText 4 (byt a.value)).length).at_ = 168 := hb
      unfold filterR
      rw [if_neg (by rw [hb']; decide), if_neg (by rw [hb']; decide), if_neg (by rw [hb']; decide), if_neg (by rw [hb']; decide), if_neg (by rw [hb']; decide), if_neg (by rw [hb']; decide), if_pos hb', hag _ 8 hk.symm hB, bindR_ok]
      rfl
  · obtain rfl := len_zero hn
    rw [hn] at h5
    have hca := check_alone h3 h5
    refine ⟨135, byt a.desc, by unfold bOne; rw [hk]; rfl, by decide, by decide, by rw [hk]; decide, fun hb hB => ?_⟩
    have hb' : bAt l (mkIx 135 i (byt a.desc).length).at_ = 135 := hb
    unfold filterR
    rw [if_neg (by rw [hb']; decide), if_neg (by rw [hb']; decide), if_neg (by rw [hb']; decide), if_neg (by rw [hb']; decide), if_neg (by rw [hb']; decide), if_neg (by rw [hb']; decide), if_neg (by rw [hb']; decide), if_pos hb', hB.text (by omega) (by decide), bindR_ok, str_byt, ← ha]
    unfold checkedR
    rw [if_pos hca, bindR_ok]
    rfl
  · obtain rfl := len_zero hn
    rw [hn] at h5
    have hca := check_alone h3 h5
    have he : bOne a (bKids .nil) = bText 164 (bText 4 (byt a.desc) ++ bText 48 (bPieces a)) := by unfold bOne; rw [hk]; rfl
    have hpl : (bPieces a).length < 67108864 := by
      rw [he, bText_len, List.length_append, bText_len, bText_len] at hlen
      omega
    refine ⟨164, bText 4 (byt a.desc) ++ bText 48 (bPieces a), he, by decide, by decide, by rw [hk]; decide, fun hb hB => ?_⟩
    have hb' : bAt l (mkIx 164 i (bText 4 (byt a.desc) ++ bText 48 (bPieces a)).length).at_ = 164 := hb
    unfold filterR
    rw [if_neg (by rw [hb']; decide), if_neg (by rw [hb']; decide), if_neg (by rw [hb']; decide), if_neg (by rw [hb']; decide), if_neg (by rw [hb']; decide), if_neg (by rw [hb']; decide), if_neg (by rw [hb']; decide), if_neg (by rw [hb']; decide), if_pos hb', part_back hB hs hp hpl, bindR_ok, ← ha]
    unfold checkedR
    rw [if_pos hca, bindR_ok]
    rfl
  · obtain rfl := len_zero hn
    rw [hn] at h5
    have hca := check_alone h3 h5
    refine ⟨169, bRule a, by unfold bOne; rw [hk]; rfl, by decide, by decide, by rw [hk]; decide, fun hb hB => ?_⟩
    have hb' : bAt l (mkIx 169 i (bRule a).length).at_ = 169 := hb
    unfold filterR
    rw [if_neg (by rw [hb']; decide), if_neg (by rw [hb']; decide), if_neg (by rw [hb']; decide), if_neg (by rw [hb']; decide), if_neg (by rw [hb']; decide), if_neg (by rw [hb']; decide), if_neg (by rw [hb']; decide), if_neg (by rw [hb']; decide), if_neg (by rw [hb']; decide), if_pos hb', rule_back hB hs, bindR_ok, ← ha]
    unfold checkedR
    rw [if_pos hca, bindR_ok]
    rfl
theorem path_back {l : List UInt8} (hl : l.length < 67108864) : ∀ f L, L + f = 65 → ReadsK l (pathR l f) L
  | 0, L, hf => fun a k n d i e h0 => by
    obtain ⟨h1, -⟩ := chk1_level h0
    omega
  | f + 1, L, hf => fun a k n d i e h0 hh he hel => by
    obtain ⟨-, h2, -⟩ := chk1_level h0
    obtain ⟨t, s, e1, e2, e3, e4, e5⟩ := filter_back hl (path_back hl f (L + 1) (by omega)) a k n d i h0 hh
    rw [e1] at hh he ⊢
    have hlen := has_len hh
    have hn := bText_len t s
    obtain ⟨k1, k2, k3⟩ := has_item hh e2 e3 (by omega) he hel
    have hu : upP l (mkIx t i s.length) n = upN a n := by
      have hb' : bAt l (mkIx t i s.length).at_ = t := k2
      unfold upP upN
      rw [hb']
      by_cases hk : a.kind = 2
      · rw [if_pos (e4.mpr hk), if_pos hk]
      · rw [if_neg (fun h => hk (e4.mp h)), if_neg hk]
    simp only [pathR]
    rw [k1, bindR_ok, hu, if_neg (by omega), e5 k2 ⟨k3, rfl⟩, bindR_ok]
    rw [show (mkIx t i s.length).t.til = i + (bText t s).length by show i + 1 + lenOct s.length + s.length = _; omega]
/-- a filter that may be, and is not too long, is read as it was written -/
theorem decode_back {a : OwnF} {k : FT} (h : (checkL a k).1 = 0) (hl : (bOne a (bKids k)).length ≤ 1048576) : decodeR (bOne a (bKids k)) = .ok (a, k) := by
  have h0 : (chk1 a k 1 0 0).1 = 0 := by
    unfold checkL at h
    split at h
    · assumption
    · rename_i h0; exact absurd h h0
  have hp := path_back (l := bOne a (bKids k)) (by omega) 64 1 (by omega) a k 0 0 0 (bOne a (bKids k)).length h0 ⟨[], [], by simp, rfl⟩ (by omega) (by omega)
  unfold decodeR takeT
  rw [if_neg (by omega)]
  have hp' : pathR (bOne a (bKids k)) 64 0 ((bOne a (bKids k)).length : Int) 0 = _ := hp
  rw [hp', bindR_ok]
  simp
end Go.Proofs.YtmcodhdphdckkaaGreatDoor

/-
  rosterlaw11.same of two filters: the lists (written by gen/mksame2.py).
-/
namespace Go.Proofs.YtmcodhdphdckkaaGreatDoor
open Go.RowKit Go.Shelf

theorem FtCells.here {w : World} {b : OwnF} {k r : FT} {g o : Nat} (h : FtCells w (.cons b k r) g o) : ∃ f : F9, FOwn w f b ∧ FKids w f k ∧ (∀ j (h : j < f.arr.size), w.cell? ⟨g, o + j, none⟩ = some f.arr[j]) ∧ FtCells w r g (o + 9) := by
  obtain ⟨⟨f, h1, h2, h3, h4, h5, h6⟩, hr⟩ := h
  exact ⟨f, h1, ⟨h3, h4, h5, h6⟩, h2, hr⟩
theorem take_next {l m : List ByteArray} {k : Nat} (h1 : k < l.length) (h2 : k < m.length) (h : l.take k = m.take k) (e : l[k] = m[k]) : l.take (k + 1) = m.take (k + 1) := by
  rw [List.take_succ_eq_append_getElem h1, List.take_succ_eq_append_getElem h2, h, e]
theorem not_same {p : Prop} [Decidable p] (h : ¬ p) : Ending.returned (.bool false) = Ending.returned (.bool (decide p)) := by rw [decide_eq_false h]
theorem is_same {p : Prop} [Decidable p] (h : p) : Ending.returned (.bool true) = Ending.returned (.bool (decide p)) := by rw [decide_eq_true h]
theorem own_eq {w : World} {f g : F9} {a b : OwnF} (h : FOwn w f a) (k : FOwn w g b) (hh : headQ f g = true) (hm : a.ms = b.ms) : a = b := by
  obtain ⟨h1, h2, h3, h4, h5, h6, h7, _, _, _, _⟩ := h
  obtain ⟨k1, k2, k3, k4, k5, k6, k7, _, _, _, _⟩ := k
  simp only [headQ, Bool.and_eq_true, decide_eq_true_eq] at hh
  obtain ⟨⟨⟨⟨⟨⟨⟨⟨e1, e2⟩, e3⟩, e4⟩, e5⟩, e6⟩, e7⟩, _⟩, _⟩ := hh
  cases a; cases b
  simp only at *
  simp only [OwnF.mk.injEq]
  exact ⟨by rw [← h1, ← k1, e1], by rw [← h2, ← k2, e2], by rw [← h3, ← k3, e3], by rw [← h4, ← k4, e4], hm, by rw [← h5, ← k5, e5], by rw [← h6, ← k6, e6], by rw [← h7, ← k7, e7]⟩
theorem head_of {w : World} {f g : F9} {a : OwnF} {kids : FT} (h : FOwn w f a) (k : FOwn w g a) (h2 : FKids w f kids) (k2 : FKids w g kids) : headQ f g = true := by
  simp only [headQ, Bool.and_eq_true, decide_eq_true_eq]
  refine ⟨⟨⟨⟨⟨⟨⟨⟨?_, ?_⟩, ?_⟩, ?_⟩, ?_⟩, ?_⟩, ?_⟩, ?_⟩, ?_⟩
  · rw [h.kind, k.kind]
  · rw [h.desc, k.desc]
  · rw [h.value, k.value]
  · rw [h.start, k.start]
  · rw [h.fin, k.fin]
  · rw [h.rule, k.rule]
  · rw [h.dn, k.dn]
  · rw [h.mn, k.mn]
  · rw [h2.1, k2.1]

set_option maxRecDepth 100000 in
set_option maxHeartbeats 8000000 in
theorem same_step (a : OwnF) (kids : FT) (hall : SameAll kids) : SameSpec a kids := by
  intro w f g b l ho hk ho2 hk2
  by_cases hh : headQ f g = true
  case neg =>
    refine (same_not w f g (by simpa using hh)).mono ?_
    rintro _ w' ⟨rfl, x⟩
    refine ⟨not_same ?_, x⟩
    rintro ⟨rfl, rfl⟩
    exact hh (head_of ho ho2 hk hk2)
  have heq := own_eq ho ho2 hh
  have hmx : Tryz.prog.follows Departure.mixedOrders = true := by kernel_rfl
  have hmix := hmx
  clear hmx
  have hm := ho.mids
  have hm2 := ho2.mids
  clear ho ho2
  obtain ⟨kind, ka, kn, kc, desc, value, start, ma, mn, mc, fin, rule, dn⟩ := f
  obtain ⟨kind2, ka2, kn2, kc2, desc2, value2, start2, ma2, mn2, mc2, fin2, rule2, dn2⟩ := g
  simp only [headQ, Bool.and_eq_true, decide_eq_true_eq] at hh
  obtain ⟨⟨⟨⟨⟨⟨⟨⟨rfl, rfl⟩, rfl⟩, rfl⟩, rfl⟩, rfl⟩, rfl⟩, rfl⟩, rfl⟩ := hh
  simp only [F9.arr, F9.mids] at hm hm2 ⊢
  have hneq : Hid (∀ k (h1 : k < a.ms.length) (h2 : k < b.ms.length), a.ms[k] ≠ b.ms[k] → ¬ (a = b ∧ kids = l)) := fun k h1 h2 hne e => by obtain ⟨rfl, _⟩ := e; exact hne rfl
  have heqh : Hid (a.ms = b.ms → a = b) := heq
  clear heq
  have hkh : Hid (FKids w ⟨kind, ka, kn, kc, desc, value, start, ma, mn, mc, fin, rule, dn⟩ kids) := hk
  have hkh2 : Hid (FKids w ⟨kind, ka2, kn, kc2, desc, value, start, ma2, mn, mc2, fin, rule, dn⟩ l) := hk2
  have hallh : Hid (SameAll kids) := hall
  clear hk hk2 hall
  obtain ⟨hl1, hl2, hl3⟩ := hm.len
  obtain ⟨hl4, hl5, hl6⟩ := hm2.len
  have hmn : mn ≤ 9223372036854775807 := by unfold maxLen at hl3; omega
  have hlh : Hid (mn = a.ms.length ∧ mn = b.ms.length) := ⟨hl1, hl4⟩
  clear hl1 hl2 hl3 hl4 hl5 hl6
  have f0 : FlT (w.alloc (.cells #[.int .i8 kind, .slice ka kn kc, .string desc, .string value, .string start, .slice ma mn mc, .string fin, .string rule, .bool dn] 28)) w.heap.size ⟨kind, ka, kn, kc, desc, value, start, ma, mn, mc, fin, rule, dn⟩ := heap_alloc_new _ _
  have x0 := (Ext.refl w).alloc (.cells #[.int .i8 kind, .slice ka kn kc, .string desc, .string value, .string start, .slice ma mn mc, .string fin, .string rule, .bool dn] 28)
  have g1 : FlT ((w.alloc (.cells #[.int .i8 kind, .slice ka kn kc, .string desc, .string value, .string start, .slice ma mn mc, .string fin, .string rule, .bool dn] 28)).alloc (.cells #[.int .i8 kind, .slice ka2 kn kc2, .string desc, .string value, .string start, .slice ma2 mn mc2, .string fin, .string rule, .bool dn] 28)) (w.alloc (.cells #[.int .i8 kind, .slice ka kn kc, .string desc, .string value, .string start, .slice ma mn mc, .string fin, .string rule, .bool dn] 28)).heap.size ⟨kind, ka2, kn, kc2, desc, value, start, ma2, mn, mc2, fin, rule, dn⟩ := heap_alloc_new _ _
  have x1 := (Ext.refl (w.alloc (.cells #[.int .i8 kind, .slice ka kn kc, .string desc, .string value, .string start, .slice ma mn mc, .string fin, .string rule, .bool dn] 28))).alloc (.cells #[.int .i8 kind, .slice ka2 kn kc2, .string desc, .string value, .string start, .slice ma2 mn mc2, .string fin, .string rule, .bool dn] 28)
  rw [World.size_alloc] at g1
  have f1 := f0.ext x1
  have x2 := x0.trans x1
  go_enter Tryz.func14, Tryz.ntmps14
  go_upto_region 1 with fail
  clear f0 x0 x1
  generalize (w.alloc (.cells #[.int .i8 kind, .slice ka kn kc, .string desc, .string value, .string start, .slice ma mn mc, .string fin, .string rule, .bool dn] 28)).alloc (.cells #[.int .i8 kind, .slice ka2 kn kc2, .string desc, .string value, .string start, .slice ma2 mn mc2, .string fin, .string rule, .bool dn] 28) = w1 at f1 g1 x2 ⊢
  generalize w.heap.size = H at f1 g1 ⊢
  generalize H + 1 = H2 at f1 g1 ⊢
  obtain ⟨c0, c1, c2, c3, c4, c5, c6, c7, c8, fz⟩ := f1.cells
  simp only at c0 c1 c2 c3 c4 c5 c6 c7 c8
  obtain ⟨d0, d1, d2, d3, d4, d5, d6, d7, d8, dz⟩ := g1.cells
  simp only at d0 d1 d2 d3 d4 d5 d6 d7 d8
  go_upto_region 4 with fail
  clear c0 c1 c2 c3 c4 c5 c6 c7 c8 fz d0 d1 d2 d3 d4 d5 d6 d7 d8 dz
  go_loopw [5, 75] (fun _ i wr => ∃ (k : Nat), i = .int .i64 k ∧ k ≤ mn ∧ Hid (a.ms.take k = b.ms.take k) ∧ Ext w wr ∧ FlT wr H ⟨kind, ka, kn, kc, desc, value, start, ma, mn, mc, fin, rule, dn⟩ ∧ FlT wr H2 ⟨kind, ka2, kn, kc2, desc, value, start, ma2, mn, mc2, fin, rule, dn⟩) (fun _ i _ => mn - (intOf i).toNat)
  case atStart => exact ⟨0, rfl, Nat.zero_le _, rfl, x2, f1, g1⟩
  case round =>
    obtain ⟨k, rfl, hk, hT, xw, fr, gr⟩ := hrel
    clear f1 g1 x2
    obtain ⟨_, c1, _, _, _, c5, _, _, _, _⟩ := fr.cells
    obtain ⟨_, d1, _, _, _, d5, _, _, _, _⟩ := gr.cells
    simp only at c1 c5 d1 d5
    by_cases hlt : k < mn
    · have hlt' : (k : Int) < (mn : Int) := by omega
      have hk1 : k < a.ms.length := by have := hlh.out.1; omega
      have hk2 : k < b.ms.length := by have := hlh.out.2; omega
      obtain ⟨g3, o3, rfl, hc⟩ := (hm.ext xw).at k hk1
      obtain ⟨g4, o4, rfl, hd⟩ := (hm2.ext xw).at k hk2
      clear c1 d1
      by_cases hs : a.ms[k] = b.ms[k]
      · have hTn : Hid (a.ms.take (k + 1) = b.ms.take (k + 1)) := take_next hk1 hk2 hT.out hs
        rw [← hs] at hd
        generalize a.ms[k] = s at *
        clear hs hT hk1 hk2
        go_upto_region 6 with fail
        go_region_held3 (fun W => W.cell? ⟨H, 5, none⟩ = some (.slice (some ⟨g3, o3, none⟩) mn mc) ∧ W.cell? ⟨H2, 5, none⟩ = some (.slice (some ⟨g4, o4, none⟩) mn mc2) ∧ W.cell? ⟨g3, o3 + k, none⟩ = some (.string s) ∧ W.cell? ⟨g4, o4 + k, none⟩ = some (.string s)) (go_keep) ((fail))
        have y1 := (Ext.refl wr).drew
        have xw1 := xw.trans y1
        have fr1 := fr.ext y1
        have gr1 := gr.ext y1
        clear y1 xw fr gr c5 d5 hc hd
        generalize wr.drew = wr1 at xw1 fr1 gr1 ⊢
        go_wp2
        go_roundw
        case rel => exact ⟨k + 1, by go_num, by omega, hTn, xw1, fr1, gr1⟩
        case measure => simp [intOf]; omega
      · have hno : Hid (¬ (a = b ∧ kids = l)) := hneq.out k hk1 hk2 hs
        have hq : (a.ms[k].toList == b.ms[k].toList) = false := by rw [txt_ne]; simpa using hs
        generalize a.ms[k] = s at *
        generalize b.ms[k] = s2 at *
        clear hs hT hk1 hk2
        go_upto_region 6 with fail
        go_region_held3 (fun W => W.cell? ⟨H, 5, none⟩ = some (.slice (some ⟨g3, o3, none⟩) mn mc) ∧ W.cell? ⟨H2, 5, none⟩ = some (.slice (some ⟨g4, o4, none⟩) mn mc2) ∧ W.cell? ⟨g3, o3 + k, none⟩ = some (.string s) ∧ W.cell? ⟨g4, o4 + k, none⟩ = some (.string s2)) (go_keep) ((fail))
        have xw1 := xw.drew
        clear xw fr gr c5 d5 hc hd
        generalize wr.drew = wr1 at xw1 ⊢
        go_wp2
        go_ret
        exact ⟨by first | rw [← Bool.decide_and, decide_eq_false hno.out]; rfl | rw [decide_eq_false hno.out]; rfl, xw1⟩
    · have hlt' : ¬ (k : Int) < (mn : Int) := by omega
      have hab : Hid (a = b) := heqh.out (by have h := hT.out; rw [List.take_of_length_le (by have := hlh.out.1; omega), List.take_of_length_le (by have := hlh.out.2; omega)] at h; exact h)
      clear hneq heqh hm hm2 hT hlh
      obtain ⟨hkn, hkc, hkm, hkk⟩ := hkh.out
      obtain ⟨hkn2, _, _, hkk2⟩ := hkh2.out
      simp only at hkn hkc hkm hkk hkn2 hkk2
      have hknh : Hid (kn = kids.len ∧ kn = l.len) := ⟨hkn, hkn2⟩
      have hknb : kn ≤ 9223372036854775807 := by unfold maxLen at hkm; omega
      have hkkh : Hid (kids.len = 0 ∨ ∃ g' o', ka = some ⟨g', o', none⟩ ∧ FtCells w kids g' o') := hkk
      have hkkh2 : Hid (l.len = 0 ∨ ∃ g' o', ka2 = some ⟨g', o', none⟩ ∧ FtCells w l g' o') := hkk2
      clear hkk hkk2 hkn hkc hkm hkn2 hkh hkh2 c5 d5
      go_upto_region 10 with fail
      clear c1 d1
      go_loopw [6, 93] (fun _ i wq => ∃ (j : Nat) (r s : FT), i = .int .i64 j ∧ j ≤ kn ∧ Hid (j + r.len = kn) ∧ Hid (j + s.len = kn) ∧ Hid (SameAll r) ∧ Hid (r.len = 0 ∨ ∃ g' o', ka = some ⟨g', o', none⟩ ∧ FtCells w r g' (o' + 9 * j)) ∧ Hid (s.len = 0 ∨ ∃ g' o', ka2 = some ⟨g', o', none⟩ ∧ FtCells w s g' (o' + 9 * j)) ∧ Hid (kids = l ↔ r = s) ∧ Ext w wq ∧ FlT wq H ⟨kind, ka, kn, kc, desc, value, start, ma, mn, mc, fin, rule, dn⟩ ∧ FlT wq H2 ⟨kind, ka2, kn, kc2, desc, value, start, ma2, mn, mc2, fin, rule, dn⟩) (fun _ i _ => kn - (intOf i).toNat)
      case atStart => exact ⟨0, kids, l, rfl, Nat.zero_le _, by show _ = _; have := hknh.out.1; omega, by show _ = _; have := hknh.out.2; omega, hallh, hkkh, hkkh2, Iff.rfl, xw, fr, gr⟩
      case round =>
        clear xw fr gr hkkh hkkh2 hallh hk hlt hlt'
        obtain ⟨k, r, s, rfl, hk, hkr, hks, hA, hF, hG, hI, xw, fr, gr⟩ := hrel
        obtain ⟨_, c1, _, _, _, _, _, _, _, _⟩ := fr.cells
        obtain ⟨_, d1, _, _, _, _, _, _, _, _⟩ := gr.cells
        simp only at c1 d1
        by_cases hlt : k < kn
        · have hlt' : (k : Int) < (kn : Int) := by omega
          obtain ⟨b3, k3, r3, rfl⟩ : ∃ a kids rest, r = .cons a kids rest := FT.pos (by have := hkr.out; omega)
          obtain ⟨b4, k4, r4, rfl⟩ : ∃ a kids rest, s = .cons a kids rest := FT.pos (by have := hks.out; omega)
          obtain ⟨g3, o3, rfl, hce⟩ : ∃ g' o', ka = some ⟨g', o', none⟩ ∧ FtCells w (.cons b3 k3 r3) g' (o' + 9 * k) := by
            rcases hF.out with h | h
            · simp [FT.len] at h
            · exact h
          obtain ⟨g4, o4, rfl, hcf⟩ : ∃ g' o', ka2 = some ⟨g', o', none⟩ ∧ FtCells w (.cons b4 k4 r4) g' (o' + 9 * k) := by
            rcases hG.out with h | h
            · simp [FT.len] at h
            · exact h
          obtain ⟨f3, w3, v3, u3, t3⟩ := hce.here
          obtain ⟨f4, w4, v4, u4, t4⟩ := hcf.here
          have hcall := fun W (x : Ext w W) => hA.out.1 W f3 f4 b4 k4 (w3.ext x) (v3.ext x) (w4.ext x) (v4.ext x)
          obtain ⟨kind3, ka3, kn3, kc3, desc3, value3, start3, ma3, mn3, mc3, fin3, rule3, dn3⟩ := f3
          obtain ⟨kind4, ka4, kn4, kc4, desc4, value4, start4, ma4, mn4, mc4, fin4, rule4, dn4⟩ := f4
          have e30 := xw.cell (u3 0 (by simp [F9.arr]))
          have e31 := xw.cell (u3 1 (by simp [F9.arr]))
          have e32 := xw.cell (u3 2 (by simp [F9.arr]))
          have e33 := xw.cell (u3 3 (by simp [F9.arr]))
          have e34 := xw.cell (u3 4 (by simp [F9.arr]))
          have e35 := xw.cell (u3 5 (by simp [F9.arr]))
          have e36 := xw.cell (u3 6 (by simp [F9.arr]))
          have e37 := xw.cell (u3 7 (by simp [F9.arr]))
          have e38 := xw.cell (u3 8 (by simp [F9.arr]))
          simp only [F9.arr, List.getElem_toArray, List.getElem_cons_zero, List.getElem_cons_succ, Nat.add_zero] at e30 e31 e32 e33 e34 e35 e36 e37 e38
          rw [show o3 + 9 * k = o3 + k * 9 by omega] at e30 e31 e32 e33 e34 e35 e36 e37 e38
          have e40 := xw.cell (u4 0 (by simp [F9.arr]))
          have e41 := xw.cell (u4 1 (by simp [F9.arr]))
          have e42 := xw.cell (u4 2 (by simp [F9.arr]))
          have e43 := xw.cell (u4 3 (by simp [F9.arr]))
          have e44 := xw.cell (u4 4 (by simp [F9.arr]))
          have e45 := xw.cell (u4 5 (by simp [F9.arr]))
          have e46 := xw.cell (u4 6 (by simp [F9.arr]))
          have e47 := xw.cell (u4 7 (by simp [F9.arr]))
          have e48 := xw.cell (u4 8 (by simp [F9.arr]))
          simp only [F9.arr, List.getElem_toArray, List.getElem_cons_zero, List.getElem_cons_succ, Nat.add_zero] at e40 e41 e42 e43 e44 e45 e46 e47 e48
          rw [show o4 + 9 * k = o4 + k * 9 by omega] at e40 e41 e42 e43 e44 e45 e46 e47 e48
          simp only [F9.arr] at hcall
          have t3h : Hid (FtCells w r3 g3 (o3 + 9 * k + 9)) := t3
          have t4h : Hid (FtCells w r4 g4 (o4 + 9 * k + 9)) := t4
          have hAr : Hid (SameAll r3) := hA.out.2
          have hlen3 : Hid (k + 1 + r3.len = kn) := by show _ = _; have := hkr.out; simp only [FT.len] at this; omega
          have hlen4 : Hid (k + 1 + r4.len = kn) := by show _ = _; have := hks.out; simp only [FT.len] at this; omega
          have hIy : Hid ((b3 = b4 ∧ k3 = k4) → (kids = l ↔ r3 = r4)) := fun e => by obtain ⟨rfl, rfl⟩ := e; rw [hI.out]; simp
          have hIn : Hid (¬ (b3 = b4 ∧ k3 = k4) → ¬ (a = b ∧ kids = l)) := fun e h => e (by have := hI.out.1 h.2; simp only [FT.cons.injEq] at this; exact ⟨this.1, this.2.1⟩)
          clear hce hcf t3 t4 u3 u4 w3 w4 v3 v4 hA hF hG hI hkr hks
          go_upto_region 12 with fail
          have xw1 := xw.drew
          have fr1 := fr.drew
          have gr1 := gr.drew
          have hC2 := hcall _ xw1
          have hS1 : wr.drew.cell? ⟨H, 1, none⟩ = some (.slice (some ⟨g3, o3, none⟩) kn kc) ∧ wr.drew.cell? ⟨H2, 1, none⟩ = some (.slice (some ⟨g4, o4, none⟩) kn kc2) ∧ wr.drew.cell? ⟨g3, o3 + k * 9, none⟩ = some (.int .i8 kind3) ∧ wr.drew.cell? ⟨g3, o3 + k * 9 + 1, none⟩ = some (.slice ka3 kn3 kc3) ∧ wr.drew.cell? ⟨g3, o3 + k * 9 + 2, none⟩ = some (.string desc3) ∧ wr.drew.cell? ⟨g3, o3 + k * 9 + 3, none⟩ = some (.string value3) ∧ wr.drew.cell? ⟨g3, o3 + k * 9 + 4, none⟩ = some (.string start3) ∧ wr.drew.cell? ⟨g3, o3 + k * 9 + 5, none⟩ = some (.slice ma3 mn3 mc3) ∧ wr.drew.cell? ⟨g3, o3 + k * 9 + 6, none⟩ = some (.string fin3) ∧ wr.drew.cell? ⟨g3, o3 + k * 9 + 7, none⟩ = some (.string rule3) ∧ wr.drew.cell? ⟨g3, o3 + k * 9 + 8, none⟩ = some (.bool dn3) ∧ wr.drew.cell? ⟨g4, o4 + k * 9, none⟩ = some (.int .i8 kind4) ∧ wr.drew.cell? ⟨g4, o4 + k * 9 + 1, none⟩ = some (.slice ka4 kn4 kc4) ∧ wr.drew.cell? ⟨g4, o4 + k * 9 + 2, none⟩ = some (.string desc4) ∧ wr.drew.cell? ⟨g4, o4 + k * 9 + 3, none⟩ = some (.string value4) ∧ wr.drew.cell? ⟨g4, o4 + k * 9 + 4, none⟩ = some (.string start4) ∧ wr.drew.cell? ⟨g4, o4 + k * 9 + 5, none⟩ = some (.slice ma4 mn4 mc4) ∧ wr.drew.cell? ⟨g4, o4 + k * 9 + 6, none⟩ = some (.string fin4) ∧ wr.drew.cell? ⟨g4, o4 + k * 9 + 7, none⟩ = some (.string rule4) ∧ wr.drew.cell? ⟨g4, o4 + k * 9 + 8, none⟩ = some (.bool dn4) := ⟨c1, d1, e30, e31, e32, e33, e34, e35, e36, e37, e38, e40, e41, e42, e43, e44, e45, e46, e47, e48⟩
          clear c1 d1 e30 e31 e32 e33 e34 e35 e36 e37 e38 e40 e41 e42 e43 e44 e45 e46 e47 e48 xw fr gr hcall
          by_cases hz : b3 = b4 ∧ k3 = k4
          · rw [decide_eq_true hz] at hC2
            have hIr := hIy.out hz
            clear hz hIy hIn
            go_region_held3 (fun W => W.cell? ⟨H, 1, none⟩ = some (.slice (some ⟨g3, o3, none⟩) kn kc) ∧ W.cell? ⟨H2, 1, none⟩ = some (.slice (some ⟨g4, o4, none⟩) kn kc2) ∧ W.cell? ⟨g3, o3 + k * 9, none⟩ = some (.int .i8 kind3) ∧ W.cell? ⟨g3, o3 + k * 9 + 1, none⟩ = some (.slice ka3 kn3 kc3) ∧ W.cell? ⟨g3, o3 + k * 9 + 2, none⟩ = some (.string desc3) ∧ W.cell? ⟨g3, o3 + k * 9 + 3, none⟩ = some (.string value3) ∧ W.cell? ⟨g3, o3 + k * 9 + 4, none⟩ = some (.string start3) ∧ W.cell? ⟨g3, o3 + k * 9 + 5, none⟩ = some (.slice ma3 mn3 mc3) ∧ W.cell? ⟨g3, o3 + k * 9 + 6, none⟩ = some (.string fin3) ∧ W.cell? ⟨g3, o3 + k * 9 + 7, none⟩ = some (.string rule3) ∧ W.cell? ⟨g3, o3 + k * 9 + 8, none⟩ = some (.bool dn3) ∧ W.cell? ⟨g4, o4 + k * 9, none⟩ = some (.int .i8 kind4) ∧ W.cell? ⟨g4, o4 + k * 9 + 1, none⟩ = some (.slice ka4 kn4 kc4) ∧ W.cell? ⟨g4, o4 + k * 9 + 2, none⟩ = some (.string desc4) ∧ W.cell? ⟨g4, o4 + k * 9 + 3, none⟩ = some (.string value4) ∧ W.cell? ⟨g4, o4 + k * 9 + 4, none⟩ = some (.string start4) ∧ W.cell? ⟨g4, o4 + k * 9 + 5, none⟩ = some (.slice ma4 mn4 mc4) ∧ W.cell? ⟨g4, o4 + k * 9 + 6, none⟩ = some (.string fin4) ∧ W.cell? ⟨g4, o4 + k * 9 + 7, none⟩ = some (.string rule4) ∧ W.cell? ⟨g4, o4 + k * 9 + 8, none⟩ = some (.bool dn4)) (first | exact hS1 | exact hS2 | go_keep) ((go_at_call 14; refine hC2.mono ?_; rintro _ wr2 ⟨rfl, y2⟩; have hS2 : wr2.cell? ⟨H, 1, none⟩ = some (.slice (some ⟨g3, o3, none⟩) kn kc) ∧ wr2.cell? ⟨H2, 1, none⟩ = some (.slice (some ⟨g4, o4, none⟩) kn kc2) ∧ wr2.cell? ⟨g3, o3 + k * 9, none⟩ = some (.int .i8 kind3) ∧ wr2.cell? ⟨g3, o3 + k * 9 + 1, none⟩ = some (.slice ka3 kn3 kc3) ∧ wr2.cell? ⟨g3, o3 + k * 9 + 2, none⟩ = some (.string desc3) ∧ wr2.cell? ⟨g3, o3 + k * 9 + 3, none⟩ = some (.string value3) ∧ wr2.cell? ⟨g3, o3 + k * 9 + 4, none⟩ = some (.string start3) ∧ wr2.cell? ⟨g3, o3 + k * 9 + 5, none⟩ = some (.slice ma3 mn3 mc3) ∧ wr2.cell? ⟨g3, o3 + k * 9 + 6, none⟩ = some (.string fin3) ∧ wr2.cell? ⟨g3, o3 + k * 9 + 7, none⟩ = some (.string rule3) ∧ wr2.cell? ⟨g3, o3 + k * 9 + 8, none⟩ = some (.bool dn3) ∧ wr2.cell? ⟨g4, o4 + k * 9, none⟩ = some (.int .i8 kind4) ∧ wr2.cell? ⟨g4, o4 + k * 9 + 1, none⟩ = some (.slice ka4 kn4 kc4) ∧ wr2.cell? ⟨g4, o4 + k * 9 + 2, none⟩ = some (.string desc4) ∧ wr2.cell? ⟨g4, o4 + k * 9 + 3, none⟩ = some (.string value4) ∧ wr2.cell? ⟨g4, o4 + k * 9 + 4, none⟩ = some (.string start4) ∧ wr2.cell? ⟨g4, o4 + k * 9 + 5, none⟩ = some (.slice ma4 mn4 mc4) ∧ wr2.cell? ⟨g4, o4 + k * 9 + 6, none⟩ = some (.string fin4) ∧ wr2.cell? ⟨g4, o4 + k * 9 + 7, none⟩ = some (.string rule4) ∧ wr2.cell? ⟨g4, o4 + k * 9 + 8, none⟩ = some (.bool dn4) := ⟨y2.cell hS1.1, y2.cell hS1.2.1, y2.cell hS1.2.2.1, y2.cell hS1.2.2.2.1, y2.cell hS1.2.2.2.2.1, y2.cell hS1.2.2.2.2.2.1, y2.cell hS1.2.2.2.2.2.2.1, y2.cell hS1.2.2.2.2.2.2.2.1, y2.cell hS1.2.2.2.2.2.2.2.2.1, y2.cell hS1.2.2.2.2.2.2.2.2.2.1, y2.cell hS1.2.2.2.2.2.2.2.2.2.2.1, y2.cell hS1.2.2.2.2.2.2.2.2.2.2.2.1, y2.cell hS1.2.2.2.2.2.2.2.2.2.2.2.2.1, y2.cell hS1.2.2.2.2.2.2.2.2.2.2.2.2.2.1, y2.cell hS1.2.2.2.2.2.2.2.2.2.2.2.2.2.2.1, y2.cell hS1.2.2.2.2.2.2.2.2.2.2.2.2.2.2.2.1, y2.cell hS1.2.2.2.2.2.2.2.2.2.2.2.2.2.2.2.2.1, y2.cell hS1.2.2.2.2.2.2.2.2.2.2.2.2.2.2.2.2.2.1, y2.cell hS1.2.2.2.2.2.2.2.2.2.2.2.2.2.2.2.2.2.2.1, y2.cell hS1.2.2.2.2.2.2.2.2.2.2.2.2.2.2.2.2.2.2.2⟩))
            have xw2 := xw1.trans y2
            have fr2 := fr1.ext y2
            have gr2 := gr1.ext y2
            clear hS1 hS2 hC2 y2 xw1 fr1 gr1
            go_wp2
            go_roundw
            case rel => exact ⟨k + 1, r3, r4, by go_num, by omega, hlen3, hlen4, hAr, .inr ⟨g3, o3, rfl, by rw [show o3 + 9 * (k + 1) = o3 + 9 * k + 9 by omega]; exact t3h.out⟩, .inr ⟨g4, o4, rfl, by rw [show o4 + 9 * (k + 1) = o4 + 9 * k + 9 by omega]; exact t4h.out⟩, hIr, xw2, fr2, gr2⟩
            case measure => simp [intOf]; omega
          · rw [decide_eq_false hz] at hC2
            have hno := hIn.out hz
            have hnoh : Hid _ := hno
            clear hz hIy hIn hno
            go_region_held3 (fun W => W.cell? ⟨H, 1, none⟩ = some (.slice (some ⟨g3, o3, none⟩) kn kc) ∧ W.cell? ⟨H2, 1, none⟩ = some (.slice (some ⟨g4, o4, none⟩) kn kc2) ∧ W.cell? ⟨g3, o3 + k * 9, none⟩ = some (.int .i8 kind3) ∧ W.cell? ⟨g3, o3 + k * 9 + 1, none⟩ = some (.slice ka3 kn3 kc3) ∧ W.cell? ⟨g3, o3 + k * 9 + 2, none⟩ = some (.string desc3) ∧ W.cell? ⟨g3, o3 + k * 9 + 3, none⟩ = some (.string value3) ∧ W.cell? ⟨g3, o3 + k * 9 + 4, none⟩ = some (.string start3) ∧ W.cell? ⟨g3, o3 + k * 9 + 5, none⟩ = some (.slice ma3 mn3 mc3) ∧ W.cell? ⟨g3, o3 + k * 9 + 6, none⟩ = some (.string fin3) ∧ W.cell? ⟨g3, o3 + k * 9 + 7, none⟩ = some (.string rule3) ∧ W.cell? ⟨g3, o3 + k * 9 + 8, none⟩ = some (.bool dn3) ∧ W.cell? ⟨g4, o4 + k * 9, none⟩ = some (.int .i8 kind4) ∧ W.cell? ⟨g4, o4 + k * 9 + 1, none⟩ = some (.slice ka4 kn4 kc4) ∧ W.cell? ⟨g4, o4 + k * 9 + 2, none⟩ = some (.string desc4) ∧ W.cell? ⟨g4, o4 + k * 9 + 3, none⟩ = some (.string value4) ∧ W.cell? ⟨g4, o4 + k * 9 + 4, none⟩ = some (.string start4) ∧ W.cell? ⟨g4, o4 + k * 9 + 5, none⟩ = some (.slice ma4 mn4 mc4) ∧ W.cell? ⟨g4, o4 + k * 9 + 6, none⟩ = some (.string fin4) ∧ W.cell? ⟨g4, o4 + k * 9 + 7, none⟩ = some (.string rule4) ∧ W.cell? ⟨g4, o4 + k * 9 + 8, none⟩ = some (.bool dn4)) (first | exact hS1 | exact hS2 | go_keep) ((go_at_call 14; refine hC2.mono ?_; rintro _ wr2 ⟨rfl, y2⟩; have hS2 : wr2.cell? ⟨H, 1, none⟩ = some (.slice (some ⟨g3, o3, none⟩) kn kc) ∧ wr2.cell? ⟨H2, 1, none⟩ = some (.slice (some ⟨g4, o4, none⟩) kn kc2) ∧ wr2.cell? ⟨g3, o3 + k * 9, none⟩ = some (.int .i8 kind3) ∧ wr2.cell? ⟨g3, o3 + k * 9 + 1, none⟩ = some (.slice ka3 kn3 kc3) ∧ wr2.cell? ⟨g3, o3 + k * 9 + 2, none⟩ = some (.string desc3) ∧ wr2.cell? ⟨g3, o3 + k * 9 + 3, none⟩ = some (.string value3) ∧ wr2.cell? ⟨g3, o3 + k * 9 + 4, none⟩ = some (.string start3) ∧ wr2.cell? ⟨g3, o3 + k * 9 + 5, none⟩ = some (.slice ma3 mn3 mc3) ∧ wr2.cell? ⟨g3, o3 + k * 9 + 6, none⟩ = some (.string fin3) ∧ wr2.cell? ⟨g3, o3 + k * 9 + 7, none⟩ = some (.string rule3) ∧ wr2.cell? ⟨g3, o3 + k * 9 + 8, none⟩ = some (.bool dn3) ∧ wr2.cell? ⟨g4, o4 + k * 9, none⟩ = some (.int .i8 kind4) ∧ wr2.cell? ⟨g4, o4 + k * 9 + 1, none⟩ = some (.slice ka4 kn4 kc4) ∧ wr2.cell? ⟨g4, o4 + k * 9 + 2, none⟩ = some (.string desc4) ∧ wr2.cell? ⟨g4, o4 + k * 9 + 3, none⟩ = some (.string value4) ∧ wr2.cell? ⟨g4, o4 + k * 9 + 4, none⟩ = some (.string start4) ∧ wr2.cell? ⟨g4, o4 + k * 9 + 5, none⟩ = some (.slice ma4 mn4 mc4) ∧ wr2.cell? ⟨g4, o4 + k * 9 + 6, none⟩ = some (.string fin4) ∧ wr2.cell? ⟨g4, o4 + k * 9 + 7, none⟩ = some (.string rule4) ∧ wr2.cell? ⟨g4, o4 + k * 9 + 8, none⟩ = some (.bool dn4) := ⟨y2.cell hS1.1, y2.cell hS1.2.1, y2.cell hS1.2.2.1, y2.cell hS1.2.2.2.1, y2.cell hS1.2.2.2.2.1, y2.cell hS1.2.2.2.2.2.1, y2.cell hS1.2.2.2.2.2.2.1, y2.cell hS1.2.2.2.2.2.2.2.1, y2.cell hS1.2.2.2.2.2.2.2.2.1, y2.cell hS1.2.2.2.2.2.2.2.2.2.1, y2.cell hS1.2.2.2.2.2.2.2.2.2.2.1, y2.cell hS1.2.2.2.2.2.2.2.2.2.2.2.1, y2.cell hS1.2.2.2.2.2.2.2.2.2.2.2.2.1, y2.cell hS1.2.2.2.2.2.2.2.2.2.2.2.2.2.1, y2.cell hS1.2.2.2.2.2.2.2.2.2.2.2.2.2.2.1, y2.cell hS1.2.2.2.2.2.2.2.2.2.2.2.2.2.2.2.1, y2.cell hS1.2.2.2.2.2.2.2.2.2.2.2.2.2.2.2.2.1, y2.cell hS1.2.2.2.2.2.2.2.2.2.2.2.2.2.2.2.2.2.1, y2.cell hS1.2.2.2.2.2.2.2.2.2.2.2.2.2.2.2.2.2.2.1, y2.cell hS1.2.2.2.2.2.2.2.2.2.2.2.2.2.2.2.2.2.2.2⟩))
            have xw2 := xw1.trans y2
            have fr2 := fr1.ext y2
            have gr2 := gr1.ext y2
            clear hS1 hS2 hC2 y2 xw1 fr1 gr1
            go_wp2
            go_ret
            exact ⟨by first | rw [← Bool.decide_and, decide_eq_false hnoh.out]; rfl | rw [decide_eq_false hnoh.out]; rfl, xw2⟩
        · have hlt' : ¬ (k : Int) < (kn : Int) := by omega
          have hyes : Hid (a = b ∧ kids = l) := by
            refine ⟨hab.out, hI.out.2 ?_⟩
            have h1 := hkr.out
            have h2 := hks.out
            cases r with
            | nil => cases s with
              | nil => rfl
              | cons _ _ _ => simp only [FT.len] at h1 h2; omega
            | cons _ _ _ => simp only [FT.len] at h1; omega
          clear hI hF hG hA c1 d1 hkr hks
          go_wp2
          go_ret
          exact ⟨by first | rw [← Bool.decide_and, decide_eq_true hyes.out]; rfl | rw [decide_eq_true hyes.out]; rfl, xw⟩
theorem same_all : ∀ x : FT, SameAll x
  | .nil => trivial
  | .cons a kids rest => ⟨same_step a kids (same_all kids), same_all rest⟩
/-- two filters of any size -/
theorem same_any (w : World) (u v : Value) (a b : OwnF) (kids l : FT) (hu : FV w u a kids) (hv : FV w v b l) : Calls Tryz.prog 14 #[u, v] w fun e w' => e = .returned (.bool (decide (a = b ∧ kids = l))) ∧ Ext w w' := by
  obtain ⟨f, rfl, h1, h2⟩ := hu
  obtain ⟨g, rfl, h3, h4⟩ := hv
  exact same_step a kids (same_all kids) w f g b l h1 h2 h3 h4
end Go.Proofs.YtmcodhdphdckkaaGreatDoor

/-
  works: a filter is written and read (written by gen/mkwk.py).
-/
namespace Go.Proofs.YtmcodhdphdckkaaGreatDoor
open Go.RowKit Go.Shelf

def cnS : ByteArray := ⟨#[99, 110]⟩
def aW : OwnF := ownK 0
def kW : FT := .cons { ownK 3 with desc := cnS, value := ⟨#[97]⟩ } .nil (.cons (ownK 2) (.cons { ownK 7 with desc := cnS } .nil .nil) .nil)
def bW : List UInt8 := [160, 15, 163, 7, 4, 2, 99, 110, 4, 1, 97, 162, 4, 135, 2, 99, 110]
theorem checkW : (checkL aW kW).1 = 0 := by decide
theorem bytesW : bOne aW (bKids kW) = bW := by decide
theorem putW : putY aW kW ⟨[], []⟩ = (⟨bW, []⟩, 0) := by decide
theorem encW : encL aW kW = (bW, 0) := by unfold encL; rw [putW]; rfl
theorem decW : decodeR bW = .ok (aW, kW) := by rw [← bytesW]; exact decode_back checkW (by rw [bytesW]; decide)
theorem take_back {a : OwnF} {k : FT} (h : (checkL a k).1 = 0) (hl : (bOne a (bKids k)).length ≤ 1048576) : takeT (bOne a (bKids k)) 0 ((bOne a (bKids k)).length : Int) = .ok ⟨a, k, (bOne a (bKids k)).length, (chk1 a k 1 0 0).2.1⟩ := by
  have h0 : (chk1 a k 1 0 0).1 = 0 := by
    unfold checkL at h
    split at h
    · assumption
    · rename_i h0; exact absurd h h0
  have hp := path_back (l := bOne a (bKids k)) (by omega) 64 1 (by omega) a k 0 0 0 (bOne a (bKids k)).length h0 ⟨[], [], by simp, rfl⟩ (by omega) (by omega)
  unfold takeT
  rw [if_neg (by omega)]
  have hp' : pathR (bOne a (bKids k)) 64 0 ((bOne a (bKids k)).length : Int) 0 = _ := hp
  rw [hp', Nat.zero_add]
theorem takeW : takeT bW 0 17 = .ok ⟨aW, kW, 17, (chk1 aW kW 1 0 0).2.1⟩ := by
  have := take_back checkW (by rw [bytesW]; decide)
  rw [bytesW] at this
  exact this
theorem nine {P : Nat → Prop} (h0 : P 0) (h1 : P 1) (h2 : P 2) (h3 : P 3) (h4 : P 4) (h5 : P 5) (h6 : P 6) (h7 : P 7) (h8 : P 8) (j : Nat) (h : j < 9) : P j := by
  rcases (show j = 0 ∨ j = 1 ∨ j = 2 ∨ j = 3 ∨ j = 4 ∨ j = 5 ∨ j = 6 ∨ j = 7 ∨ j = 8 by omega) with rfl | rfl | rfl | rfl | rfl | rfl | rfl | rfl | rfl <;> assumption
theorem own_plain (w : World) (k : Int) (hk : 0 ≤ k ∧ k ≤ 9) (ka : Option Addr) (kn kc : Nat) (d v : ByteArray) (hd : d.size ≤ 65536) (hv : v.size ≤ 65536) : FOwn w ⟨k, ka, kn, kc, d, v, ⟨#[]⟩, none, 0, 0, ⟨#[]⟩, ⟨#[]⟩, false⟩ { ownK k with desc := d, value := v } :=
  ⟨rfl, rfl, rfl, rfl, rfl, rfl, rfl, ⟨by show d.size ≤ _; omega, by show v.size ≤ _; omega, Nat.zero_le _, Nat.zero_le _, Nat.zero_le _⟩, ssl_nil rfl (Nat.zero_le _), fun s hs => (by cases hs), by show -128 ≤ k ∧ k ≤ 127; omega⟩
def fW (m : Nat) : F9 := ⟨0, some ⟨m, 0, none⟩, 2, 2, ⟨#[]⟩, ⟨#[]⟩, ⟨#[]⟩, none, 0, 0, ⟨#[]⟩, ⟨#[]⟩, false⟩
/-- the law's filter in memory -/
theorem worksF {w : World} {n m : Nat} (hb : w.heap[n]? = some (.cells #[.int .i8 7, .slice none 0 0, .string ⟨#[99, 110]⟩, .string ⟨#[]⟩, .string ⟨#[]⟩, .slice none 0 0, .string ⟨#[]⟩, .string ⟨#[]⟩, .bool false] 28 (0, 0))) (hc : w.heap[m]? = some (.cells #[.int .i8 3, .slice none 0 0, .string ⟨#[99, 110]⟩, .string ⟨#[97]⟩, .string ⟨#[]⟩, .slice none 0 0, .string ⟨#[]⟩, .string ⟨#[]⟩, .bool false, .int .i8 2, .slice (some ⟨n, 0, none⟩) 1 1, .string ⟨#[]⟩, .string ⟨#[]⟩, .string ⟨#[]⟩, .slice none 0 0, .string ⟨#[]⟩, .string ⟨#[]⟩, .bool false] 28 (0, 0))) : FOwn w (fW m) aW ∧ FKids w (fW m) kW := by
  refine ⟨own_plain w 0 (by omega) _ _ _ _ _ (Nat.zero_le _) (Nat.zero_le _), rfl, Nat.le_refl _, by show 2 ≤ maxLen; decide, .inr ⟨m, 0, rfl, ?_⟩⟩
  refine ⟨⟨⟨3, none, 0, 0, ⟨#[99, 110]⟩, ⟨#[97]⟩, ⟨#[]⟩, none, 0, 0, ⟨#[]⟩, ⟨#[]⟩, false⟩, own_plain w 3 (by omega) _ _ _ _ _ (by decide) (by decide), ?_, rfl, Nat.le_refl _, Nat.zero_le _, .inl rfl⟩,
    ⟨⟨2, some ⟨n, 0, none⟩, 1, 1, ⟨#[]⟩, ⟨#[]⟩, ⟨#[]⟩, none, 0, 0, ⟨#[]⟩, ⟨#[]⟩, false⟩, own_plain w 2 (by omega) _ _ _ _ _ (Nat.zero_le _) (Nat.zero_le _), ?_, rfl, Nat.le_refl _, by show 1 ≤ maxLen; decide, .inr ⟨n, 0, rfl, ⟨⟨7, none, 0, 0, ⟨#[99, 110]⟩, ⟨#[]⟩, ⟨#[]⟩, none, 0, 0, ⟨#[]⟩, ⟨#[]⟩, false⟩, own_plain w 7 (by omega) _ _ _ _ _ (by decide) (Nat.zero_le _), ?_, rfl, Nat.le_refl _, Nat.zero_le _, .inl rfl⟩, trivial⟩⟩, trivial⟩
  all_goals
    intro j hj
    revert hj
    rw [cell_of_row _ _ _ _ _ _ (by assumption)]
    intro hj
    have hj' : j < 9 := hj
    rcases (show j = 0 ∨ j = 1 ∨ j = 2 ∨ j = 3 ∨ j = 4 ∨ j = 5 ∨ j = 6 ∨ j = 7 ∨ j = 8 by omega) with rfl | rfl | rfl | rfl | rfl | rfl | rfl | rfl | rfl <;> rfl

set_option maxRecDepth 100000 in
set_option maxHeartbeats 8000000 in
theorem works_any (w : World) : Calls Tryz.prog 8 #[] w fun e w' => e = .returned (.bool true) ∧ Ext w w' := by
  obtain ⟨n, hn⟩ : ∃ n, n = w.heap.size := ⟨_, rfl⟩
  obtain ⟨m, hm⟩ : ∃ m, m = n + 1 := ⟨_, rfl⟩
  have e1 := (Ext.refl w).alloc (.cells #[.int .i8 7, .slice none 0 0, .string ⟨#[99, 110]⟩, .string ⟨#[]⟩, .string ⟨#[]⟩, .slice none 0 0, .string ⟨#[]⟩, .string ⟨#[]⟩, .bool false] 28)
  have e2 := (Ext.refl (w.alloc (.cells #[.int .i8 7, .slice none 0 0, .string ⟨#[99, 110]⟩, .string ⟨#[]⟩, .string ⟨#[]⟩, .slice none 0 0, .string ⟨#[]⟩, .string ⟨#[]⟩, .bool false] 28))).alloc (.cells #[.int .i8 3, .slice none 0 0, .string ⟨#[99, 110]⟩, .string ⟨#[97]⟩, .string ⟨#[]⟩, .slice none 0 0, .string ⟨#[]⟩, .string ⟨#[]⟩, .bool false, .int .i8 2, .slice (some ⟨n, 0, none⟩) 1 1, .string ⟨#[]⟩, .string ⟨#[]⟩, .string ⟨#[]⟩, .slice none 0 0, .string ⟨#[]⟩, .string ⟨#[]⟩, .bool false] 28)
  have e3 := (Ext.refl ((w.alloc (.cells #[.int .i8 7, .slice none 0 0, .string ⟨#[99, 110]⟩, .string ⟨#[]⟩, .string ⟨#[]⟩, .slice none 0 0, .string ⟨#[]⟩, .string ⟨#[]⟩, .bool false] 28)).alloc (.cells #[.int .i8 3, .slice none 0 0, .string ⟨#[99, 110]⟩, .string ⟨#[97]⟩, .string ⟨#[]⟩, .slice none 0 0, .string ⟨#[]⟩, .string ⟨#[]⟩, .bool false, .int .i8 2, .slice (some ⟨n, 0, none⟩) 1 1, .string ⟨#[]⟩, .string ⟨#[]⟩, .string ⟨#[]⟩, .slice none 0 0, .string ⟨#[]⟩, .string ⟨#[]⟩, .bool false] 28))).alloc (.cells #[.int .i8 0, .slice (some ⟨m, 0, none⟩) 2 2, .string ⟨#[]⟩, .string ⟨#[]⟩, .string ⟨#[]⟩, .slice none 0 0, .string ⟨#[]⟩, .string ⟨#[]⟩, .bool false] 28)
  have q1 : (w.alloc (.cells #[.int .i8 7, .slice none 0 0, .string ⟨#[99, 110]⟩, .string ⟨#[]⟩, .string ⟨#[]⟩, .slice none 0 0, .string ⟨#[]⟩, .string ⟨#[]⟩, .bool false] 28)).heap[w.heap.size]? = some (.cells #[.int .i8 7, .slice none 0 0, .string ⟨#[99, 110]⟩, .string ⟨#[]⟩, .string ⟨#[]⟩, .slice none 0 0, .string ⟨#[]⟩, .string ⟨#[]⟩, .bool false] 28 (0, 0)) := heap_alloc_new _ _
  have q2 : ((w.alloc (.cells #[.int .i8 7, .slice none 0 0, .string ⟨#[99, 110]⟩, .string ⟨#[]⟩, .string ⟨#[]⟩, .slice none 0 0, .string ⟨#[]⟩, .string ⟨#[]⟩, .bool false] 28)).alloc (.cells #[.int .i8 3, .slice none 0 0, .string ⟨#[99, 110]⟩, .string ⟨#[97]⟩, .string ⟨#[]⟩, .slice none 0 0, .string ⟨#[]⟩, .string ⟨#[]⟩, .bool false, .int .i8 2, .slice (some ⟨n, 0, none⟩) 1 1, .string ⟨#[]⟩, .string ⟨#[]⟩, .string ⟨#[]⟩, .slice none 0 0, .string ⟨#[]⟩, .string ⟨#[]⟩, .bool false] 28)).heap[(w.alloc (.cells #[.int .i8 7, .slice none 0 0, .string ⟨#[99, 110]⟩, .string ⟨#[]⟩, .string ⟨#[]⟩, .slice none 0 0, .string ⟨#[]⟩, .string ⟨#[]⟩, .bool false] 28)).heap.size]? = some (.cells #[.int .i8 3, .slice none 0 0, .string ⟨#[99, 110]⟩, .string ⟨#[97]⟩, .string ⟨#[]⟩, .slice none 0 0, .string ⟨#[]⟩, .string ⟨#[]⟩, .bool false, .int .i8 2, .slice (some ⟨n, 0, none⟩) 1 1, .string ⟨#[]⟩, .string ⟨#[]⟩, .string ⟨#[]⟩, .slice none 0 0, .string ⟨#[]⟩, .string ⟨#[]⟩, .bool false] 28 (0, 0)) := heap_alloc_new _ _
  have q3 : (((w.alloc (.cells #[.int .i8 7, .slice none 0 0, .string ⟨#[99, 110]⟩, .string ⟨#[]⟩, .string ⟨#[]⟩, .slice none 0 0, .string ⟨#[]⟩, .string ⟨#[]⟩, .bool false] 28)).alloc (.cells #[.int .i8 3, .slice none 0 0, .string ⟨#[99, 110]⟩, .string ⟨#[97]⟩, .string ⟨#[]⟩, .slice none 0 0, .string ⟨#[]⟩, .string ⟨#[]⟩, .bool false, .int .i8 2, .slice (some ⟨n, 0, none⟩) 1 1, .string ⟨#[]⟩, .string ⟨#[]⟩, .string ⟨#[]⟩, .slice none 0 0, .string ⟨#[]⟩, .string ⟨#[]⟩, .bool false] 28)).alloc (.cells #[.int .i8 0, .slice (some ⟨m, 0, none⟩) 2 2, .string ⟨#[]⟩, .string ⟨#[]⟩, .string ⟨#[]⟩, .slice none 0 0, .string ⟨#[]⟩, .string ⟨#[]⟩, .bool false] 28)).heap[((w.alloc (.cells #[.int .i8 7, .slice none 0 0, .string ⟨#[99, 110]⟩, .string ⟨#[]⟩, .string ⟨#[]⟩, .slice none 0 0, .string ⟨#[]⟩, .string ⟨#[]⟩, .bool false] 28)).alloc (.cells #[.int .i8 3, .slice none 0 0, .string ⟨#[99, 110]⟩, .string ⟨#[97]⟩, .string ⟨#[]⟩, .slice none 0 0, .string ⟨#[]⟩, .string ⟨#[]⟩, .bool false, .int .i8 2, .slice (some ⟨n, 0, none⟩) 1 1, .string ⟨#[]⟩, .string ⟨#[]⟩, .string ⟨#[]⟩, .slice none 0 0, .string ⟨#[]⟩, .string ⟨#[]⟩, .bool false] 28)).heap.size]? = some (.cells #[.int .i8 0, .slice (some ⟨m, 0, none⟩) 2 2, .string ⟨#[]⟩, .string ⟨#[]⟩, .string ⟨#[]⟩, .slice none 0 0, .string ⟨#[]⟩, .string ⟨#[]⟩, .bool false] 28 (0, 0)) := heap_alloc_new _ _
  have q4 := (e2.trans e3).block _ (by simp only [World.size_alloc]; omega) |>.trans q1
  have q5 := (e3.block _ (by simp only [World.size_alloc]; omega)).trans q2
  simp only [World.size_alloc, ← hn, ← hm] at q4 q5 q3
  have hF := worksF q4 q5
  have hD : FlT (((w.alloc (.cells #[.int .i8 7, .slice none 0 0, .string ⟨#[99, 110]⟩, .string ⟨#[]⟩, .string ⟨#[]⟩, .slice none 0 0, .string ⟨#[]⟩, .string ⟨#[]⟩, .bool false] 28)).alloc (.cells #[.int .i8 3, .slice none 0 0, .string ⟨#[99, 110]⟩, .string ⟨#[97]⟩, .string ⟨#[]⟩, .slice none 0 0, .string ⟨#[]⟩, .string ⟨#[]⟩, .bool false, .int .i8 2, .slice (some ⟨n, 0, none⟩) 1 1, .string ⟨#[]⟩, .string ⟨#[]⟩, .string ⟨#[]⟩, .slice none 0 0, .string ⟨#[]⟩, .string ⟨#[]⟩, .bool false] 28)).alloc (.cells #[.int .i8 0, .slice (some ⟨m, 0, none⟩) 2 2, .string ⟨#[]⟩, .string ⟨#[]⟩, .string ⟨#[]⟩, .slice none 0 0, .string ⟨#[]⟩, .string ⟨#[]⟩, .bool false] 28)) (m + 1) (fW m) := q3
  have x3 := (e1.trans e2).trans e3
  clear q1 q2 q3 q4 q5 e1 e2 e3
  subst hm
  subst hn
  go_enter Tryz.func8, Tryz.ntmps8
  go_upto_region 2 with fail
  generalize World.alloc (World.alloc (World.alloc w _) _) _ = w3 at hF hD x3 ⊢
  have hE := Encode_any w3 (fW (w.heap.size + 1)) aW kW hF.1 hF.2
  rw [encW] at hE
  simp only [fW, F9.arr] at hE
  have hS : Hid (∀ W, Ext w3 W → FOwn W (fW (w.heap.size + 1)) aW ∧ FKids W (fW (w.heap.size + 1)) kW) := fun W y => ⟨hF.1.ext y, hF.2.ext y⟩
  obtain ⟨c0, c1, c2, c3, c4, c5, c6, c7, c8, cz⟩ := hD.cells
  simp only [fW] at c0 c1 c2 c3 c4 c5 c6 c7 c8
  clear hF
  go_wp2_with fail
  go_at_call 22
  refine hE.mono ?_
  rintro _ w4 ⟨u, rfl, r4, x4⟩
  have hsl := r4.sl
  obtain ⟨ua, uc, hu0, -⟩ := id r4.sl
  have hu : u = .slice ua 17 uc := hu0
  clear hu0
  subst hu
  have hcv := hsl.conv (Ext.refl w4)
  rw [show str bW = ⟨#[160, 15, 163, 7, 4, 2, 99, 110, 4, 1, 97, 162, 4, 135, 2, 99, 110]⟩ from rfl] at hcv
  have hDc := Decode_any w4 _ bW hsl (by decide)
  have hcvh : Hid (∀ W, Ext w4 W → (convert 22 9 (.slice ua 17 uc)).run Tryz.prog W = .ok (.string ⟨#[160, 15, 163, 7, 4, 2, 99, 110, 4, 1, 97, 162, 4, 135, 2, 99, 110]⟩) W) := fun W y => hsl.conv y
  have hslh : Hid (Sl w4 (.slice ua 17 uc) bW) := hsl
  clear hE r4 c0 c1 c2 c3 c4 c5 c6 c7 c8 cz hsl
  try dsimp only
  go_wp2_with fail
  go_at_call 9
  refine hDc.mono ?_
  rintro _ w5 ⟨x5, hd5⟩
  rw [decW] at hd5
  obtain ⟨fg, rfl, hg5⟩ := hd5
  obtain ⟨gO, gK⟩ := hg5.self
  obtain ⟨kG, kaG, knG, kcG, dG, vG, sG, maG, mnG, mcG, eG, rG, bG⟩ := fg
  simp only [F9.arr]
  clear hDc hcv hg5
  have hG : Hid (∀ W, Ext w5 W → FOwn W ⟨kG, kaG, knG, kcG, dG, vG, sG, maG, mnG, mcG, eG, rG, bG⟩ aW ∧ FKids W ⟨kG, kaG, knG, kcG, dG, vG, sG, maG, mnG, mcG, eG, rG, bG⟩ kW) := fun W y => ⟨gO.ext y, gK.ext y⟩
  have g6 : FlT (w5.alloc (.cells #[.int .i8 kG, .slice kaG knG kcG, .string dG, .string vG, .string sG, .slice maG mnG mcG, .string eG, .string rG, .bool bG] 28)) w5.heap.size ⟨kG, kaG, knG, kcG, dG, vG, sG, maG, mnG, mcG, eG, rG, bG⟩ := heap_alloc_new _ _
  have y6 := (Ext.refl w5).alloc (.cells #[.int .i8 kG, .slice kaG knG kcG, .string dG, .string vG, .string sG, .slice maG mnG mcG, .string eG, .string rG, .bool bG] 28)
  have y46 : Ext w4 (w5.alloc (.cells #[.int .i8 kG, .slice kaG knG kcG, .string dG, .string vG, .string sG, .slice maG mnG mcG, .string eG, .string rG, .bool bG] 28)) := x5.trans y6
  have D6 := (hD.ext x4).ext y46
  have y56h : Hid (Ext w5 (w5.alloc (.cells #[.int .i8 kG, .slice kaG knG kcG, .string dG, .string vG, .string sG, .slice maG mnG mcG, .string eG, .string rG, .bool bG] 28))) := y6
  try dsimp only
  clear gO gK y6
  go_upto_region 6 with fail
  generalize w5.alloc _ = w6 at g6 y46 D6 y56h ⊢
  have hT := Take_any w6 (.slice ua 17 uc) bW 0 17 (hslh.out.ext y46) (by decide) (by decide) (by decide)
  go_wp2_with fail
  go_at_call 18
  refine hT.mono ?_
  rintro _ w7 ⟨x7, ht7⟩
  rw [takeW] at ht7
  obtain ⟨fh, rfl, hh7⟩ := ht7
  obtain ⟨hO, hK⟩ := hh7.self
  obtain ⟨kH, kaH, knH, kcH, dH, vH, sH, maH, mnH, mcH, eH, rH, bH⟩ := fh
  simp only [F9.arr]
  simp only at hO hK
  clear hT hh7
  have hH : Hid (∀ W, Ext w7 W → FOwn W ⟨kH, kaH, knH, kcH, dH, vH, sH, maH, mnH, mcH, eH, rH, bH⟩ aW ∧ FKids W ⟨kH, kaH, knH, kcH, dH, vH, sH, maH, mnH, mcH, eH, rH, bH⟩ kW) := fun W y => ⟨hO.ext y, hK.ext y⟩
  have h8 : FlT (w7.alloc (.cells #[.int .i8 kH, .slice kaH knH kcH, .string dH, .string vH, .string sH, .slice maH mnH mcH, .string eH, .string rH, .bool bH] 28)) w7.heap.size ⟨kH, kaH, knH, kcH, dH, vH, sH, maH, mnH, mcH, eH, rH, bH⟩ := heap_alloc_new _ _
  have y8 := (Ext.refl w7).alloc (.cells #[.int .i8 kH, .slice kaH knH kcH, .string dH, .string vH, .string sH, .slice maH mnH mcH, .string eH, .string rH, .bool bH] 28)
  have y68 : Ext w6 (w7.alloc (.cells #[.int .i8 kH, .slice kaH knH kcH, .string dH, .string vH, .string sH, .slice maH mnH mcH, .string eH, .string rH, .bool bH] 28)) := x7.trans y8
  have y78h : Hid (Ext w7 (w7.alloc (.cells #[.int .i8 kH, .slice kaH knH kcH, .string dH, .string vH, .string sH, .slice maH mnH mcH, .string eH, .string rH, .bool bH] 28))) := y8
  try dsimp only
  clear hO hK y8
  go_upto_region 7 with fail
  generalize w7.alloc _ = w8 at h8 y68 y78h ⊢
  have hN := New_any w8
  go_wp2_with fail
  go_at_call 24
  refine hN.mono ?_
  rintro _ w9 ⟨p, rfl, ⟨pa, rfl⟩, hw9, x9⟩
  have y89 := y68.trans x9
  have D9 := D6.ext y89
  have hP := Put_any w9 (fun k => w8.heap.size ≤ k) (.pointer (some pa)) ⟨[], []⟩ (fW (w.heap.size + 1)) aW kW hw9 ⟨by decide, by decide, trivial⟩ (fun W3 o => hS.out W3 ((x4.trans (y46.trans y89)).then o (fun g hg => Nat.le_trans (x4.trans (y46.trans y68)).size hg)))
  rw [putW] at hP
  simp only [fW, F9.arr] at hP
  obtain ⟨c0, c1, c2, c3, c4, c5, c6, c7, c8, cz⟩ := D9.cells
  simp only [fW] at c0 c1 c2 c3 c4 c5 c6 c7 c8
  clear hN hw9
  try dsimp only
  go_wp2_with fail
  go_at_call 30
  refine hP.mono ?_
  rintro _ wa ⟨rfl, hwa, hka, oa⟩
  have ya : Ext w8 wa := x9.then oa (fun g hg => hg)
  have hB := Bytes_any wa _ (.pointer (some pa)) ⟨bW, []⟩ hwa hka.low
  rw [show bytesE ⟨bW, []⟩ = 0 from rfl, if_pos rfl] at hB
  clear c0 c1 c2 c3 c4 c5 c6 c7 c8 cz hP hwa hka D9 oa
  try dsimp only
  go_wp2_with fail
  go_at_call 35
  refine hB.mono ?_
  rintro _ wb ⟨u2, rfl, rb, xb⟩
  obtain ⟨ub, ud, hu0, -⟩ := id rb.sl
  have hu : u2 = .slice ub 17 ud := hu0
  clear hu0
  subst hu
  have y8b := ya.trans xb
  have y4b := y46.trans (y68.trans y8b)
  have z1 := D6.ext (y68.trans y8b)
  have z2 := g6.ext (y68.trans y8b)
  have z3 := h8.ext y8b
  have v1 := hS.out wb (x4.trans y4b)
  have v2 := hG.out wb (y56h.out.trans (y68.trans y8b))
  have v3 := hH.out wb (y78h.out.trans y8b)
  have s1 := same_any wb _ _ aW aW kW kW ⟨_, rfl, v2.1, v2.2⟩ ⟨_, rfl, v1.1, v1.2⟩
  rw [decide_eq_true (show aW = aW ∧ kW = kW from ⟨rfl, rfl⟩)] at s1
  have s2 := fun W (y : Ext wb W) => same_any W _ _ aW aW kW kW ⟨_, rfl, v3.1.ext y, v3.2.ext y⟩ ⟨_, rfl, v1.1.ext y, v1.2.ext y⟩
  simp only at s2
  simp only [fW, F9.arr] at s1 s2
  have hcv2 : Hid (∀ W, Ext wb W → (convert 22 9 (.slice ub 17 ud)).run Tryz.prog W = .ok (.string ⟨#[160, 15, 163, 7, 4, 2, 99, 110, 4, 1, 97, 162, 4, 135, 2, 99, 110]⟩) W) := fun W y => rb.sl.conv y
  have hcv1 : Hid (∀ W, Ext wb W → (convert 22 9 (.slice ua 17 uc)).run Tryz.prog W = .ok (.string ⟨#[160, 15, 163, 7, 4, 2, 99, 110, 4, 1, 97, 162, 4, 135, 2, 99, 110]⟩) W) := fun W y => hcvh.out W (y4b.trans y)
  obtain ⟨c0, c1, c2, c3, c4, c5, c6, c7, c8, cz⟩ := z1.cells
  obtain ⟨d0, d1, d2, d3, d4, d5, d6, d7, d8, dz⟩ := z2.cells
  simp only [fW] at c0 c1 c2 c3 c4 c5 c6 c7 c8 d0 d1 d2 d3 d4 d5 d6 d7 d8
  have xw : Ext w wb := x3.trans (x4.trans y4b)
  clear v1 v2 v3 hB rb hcvh hslh hS hG hH y56h y78h D6 g6 h8 hD cz dz y4b y8b y89 y68 y46 ya xb x7 x9 x5 x4 x3
  try dsimp only
  go_wp2_with fail
  go_at_call 14
  refine s1.mono ?_
  rintro _ wc ⟨rfl, xc⟩
  have z4 := z1.ext xc
  have z5 := z3.ext xc
  clear c0 c1 c2 c3 c4 c5 c6 c7 c8 d0 d1 d2 d3 d4 d5 d6 d7 d8 s1 z1 z2 z3
  obtain ⟨c0, c1, c2, c3, c4, c5, c6, c7, c8, cz⟩ := z4.cells
  obtain ⟨d0, d1, d2, d3, d4, d5, d6, d7, d8, dz⟩ := z5.cells
  simp only [fW] at c0 c1 c2 c3 c4 c5 c6 c7 c8 d0 d1 d2 d3 d4 d5 d6 d7 d8
  have s3 := s2 _ xc
  try dsimp only
  go_wp2_with fail
  go_at_call 14
  refine s3.mono ?_
  rintro _ we ⟨rfl, xe⟩
  have xce := xc.trans xe
  have k1 := hcv1.out _ xce
  have k2 := hcv2.out _ xce
  have xw2 := xw.trans xce
  clear c0 c1 c2 c3 c4 c5 c6 c7 c8 d0 d1 d2 d3 d4 d5 d6 d7 d8 s2 s3 z4 z5 hcv1 hcv2 cz dz
  try dsimp only
  go_wp2
  go_ret
  exact ⟨rfl, xw2⟩
end Go.Proofs.YtmcodhdphdckkaaGreatDoor

/-
  What is read may be (plain).
-/
namespace Go.Proofs.YtmcodhdphdckkaaGreatDoor

theorem bindR_is {α β : Type} {o : Rs α} {k : α → Rs β} {b : β} (h : bindR o k = .ok b) : ∃ a, o = .ok a ∧ k a = .ok b := by
  cases o with
  | error e => cases h
  | ok a => exact ⟨a, rfl, h⟩
theorem checkedR_is {a b : OwnF} {k : FT} {n : Nat} (h : checkedR a k n = .ok b) : b = a ∧ (checkL a k).1 = 0 := by
  unfold checkedR at h
  split at h
  · rename_i h0; cases h; exact ⟨rfl, h0⟩
  · cases h
theorem alone_is {a : OwnF} (h : (checkL a .nil).1 = 0) : longO a = false ∧ mayO a 0 = true := by
  have h0 : (chk1 a .nil 1 0 0).1 = 0 := by
    unfold checkL at h
    split at h
    · assumption
    · rename_i h0; exact absurd h h0
  obtain ⟨-, -, h3, h4, -⟩ := chk1_level h0
  exact ⟨h3, h4⟩
/-- an append behind a list of filters -/
def snocFT : FT → OwnF → FT → FT
  | .nil, a, k => .cons a k .nil
  | .cons b j r, a, k => .cons b j (snocFT r a k)
theorem toFT_snoc (l : List (OwnF × FT)) (a : OwnF) (k : FT) : toFT (l ++ [(a, k)]) = snocFT (toFT l) a k := by
  induction l with
  | nil => rfl
  | cons x l ih => obtain ⟨b, j⟩ := x; simp [toFT, snocFT, ih]
theorem chk_snoc : ∀ (r : FT) (a : OwnF) (k : FT) (L n d : Nat), (chk r L n d).1 = 0 → (chk1 a k L (chk r L n d).2.1 (chk r L n d).2.2).1 = 0 → (chk (snocFT r a k) L n d).1 = 0 ∧ (chk (snocFT r a k) L n d).2.1 = (chk1 a k L (chk r L n d).2.1 (chk r L n d).2.2).2.1
  | .nil, a, k, L, n, d, _, h => by
    have h' : (chk1 a k L n d).1 = 0 := h
    rw [snocFT, chk_cons, if_neg (fun e => e h')]
    exact ⟨rfl, rfl⟩
  | .cons b j r, a, k, L, n, d, h, h1 => by
    obtain ⟨h2, h3⟩ := chk_two h
    rw [h3] at h h1 ⊢
    have := chk_snoc r a k L _ _ h h1
    rw [snocFT, chk_cons, if_neg (fun e => e h2)]
    exact this
/-- the count does not hang on the depth so far -/
theorem chk_d : ∀ (r : FT) (L n d e : Nat), (chk r L n d).1 = (chk r L n e).1 ∧ (chk r L n d).2.1 = (chk r L n e).2.1
  | .nil, L, n, d, e => ⟨rfl, rfl⟩
  | .cons a k r, L, n, d, e => by
    have hk := chk_d k (L + 1) (upN a n) (max d L) (max e L)
    have h1 : (chk1 a k L n d).1 = (chk1 a k L n e).1 ∧ (chk1 a k L n d).2.1 = (chk1 a k L n e).2.1 := by
      unfold chk1
      split
      · exact ⟨rfl, rfl⟩
      · split
        · exact ⟨rfl, rfl⟩
        · split
          · exact ⟨rfl, rfl⟩
          · exact hk
    rw [chk_cons, chk_cons]
    by_cases h0 : (chk1 a k L n d).1 = 0
    · rw [if_neg (fun e => e h0), if_neg (fun e => e (h1.1 ▸ h0)), h1.2]
      exact chk_d r L _ _ _
    · rw [if_pos h0, if_pos (h1.1 ▸ h0)]
      exact h1
theorem chk1_d (a : OwnF) (k : FT) (L n d e : Nat) : (chk1 a k L n d).1 = (chk1 a k L n e).1 ∧ (chk1 a k L n d).2.1 = (chk1 a k L n e).2.1 := by
  unfold chk1
  split
  · exact ⟨rfl, rfl⟩
  · split
    · exact ⟨rfl, rfl⟩
    · split
      · exact ⟨rfl, rfl⟩
      · exact chk_d k (L + 1) (upN a n) (max d L) (max e L)
/-- what a reader of one filter of the level L tells, may be -/
def TellsK (K : KF) (L : Nat) : Prop := ∀ (i e : Int) (n : Nat) (r : PR), K i e n = .ok r → ∀ d, (chk1 r.a r.k L n d).1 = 0 ∧ (chk1 r.a r.k L n d).2.1 = r.p
theorem kidsA_tell {K : KF} {L : Nat} (hK : TellsK K L) (n : Nat) : ∀ (g : Nat) (x : Ix) (p : Nat) (acc : List (OwnF × FT)) (o : List (OwnF × FT) × Nat), kidsA K g x p acc = .ok o → (∀ d, (chk (toFT acc) L n d).1 = 0 ∧ (chk (toFT acc) L n d).2.1 = p) → acc ≠ [] → (∀ d, (chk (toFT o.1) L n d).1 = 0 ∧ (chk (toFT o.1) L n d).2.1 = o.2) ∧ o.1 ≠ []
  | 0, x, p, acc, o, h, ha, hn => by
    unfold kidsA at h
    cases h
    exact ⟨ha, hn⟩
  | g + 1, x, p, acc, o, h, ha, hn => by
    unfold kidsA at h
    split at h
    · obtain ⟨r, h1, h2⟩ := bindR_is h
      refine kidsA_tell hK n g _ _ _ o h2 (fun d => ?_) (by simp)
      rw [toFT_snoc]
      have hr := hK _ _ _ r h1 (chk (toFT acc) L n d).2.2
      rw [← (ha d).2] at hr
      have := chk_snoc (toFT acc) r.a r.k L n d (ha d).1 hr.1
      exact ⟨this.1, this.2.trans hr.2⟩
    · cases h
      exact ⟨ha, hn⟩
theorem one_tell {K : KF} {L : Nat} (hK : TellsK K L) {i e : Int} {n : Nat} {r : PR} (h : K i e n = .ok r) (d : Nat) : (chk (toFT [(r.a, r.k)]) L n d).1 = 0 ∧ (chk (toFT [(r.a, r.k)]) L n d).2.1 = r.p := by
  have hr := hK _ _ _ r h d
  show (chk (.cons r.a r.k .nil) L n d).1 = 0 ∧ (chk (.cons r.a r.k .nil) L n d).2.1 = r.p
  rw [chk_cons, if_neg (fun e => e hr.1)]
  exact ⟨rfl, hr.2⟩
theorem kids_tell {K : KF} {L : Nat} (hK : TellsK K L) {x : Ix} {n : Nat} {o : List (OwnF × FT) × Nat} (h : kidsR K x n = .ok o) : (∀ d, (chk (toFT o.1) L n d).1 = 0 ∧ (chk (toFT o.1) L n d).2.1 = o.2) ∧ 0 < (toFT o.1).len := by
  unfold kidsR kidR at h
  obtain ⟨r, h1, h2⟩ := bindR_is h
  obtain ⟨_, _, h3⟩ := bindR_is h1
  have := kidsA_tell hK n _ _ _ _ o h2 (one_tell hK h3) (by simp)
  exact ⟨this.1, by rw [toFT_len]; exact List.length_pos_iff.mpr this.2⟩
theorem only_tell {K : KF} {L : Nat} (hK : TellsK K L) {l : List UInt8} {x : Ix} {n : Nat} {o : List (OwnF × FT) × Nat} (h : onlyR K l x n = .ok o) : (∀ d, (chk (toFT o.1) L n d).1 = 0 ∧ (chk (toFT o.1) L n d).2.1 = o.2) ∧ (toFT o.1).len = 1 := by
  unfold onlyR kidR at h
  obtain ⟨r, h1, h2⟩ := bindR_is h
  obtain ⟨_, _, h3⟩ := bindR_is h1
  obtain ⟨_, _, h4⟩ := bindR_is h2
  cases h4
  exact ⟨one_tell hK h3, rfl⟩
/-- one part behind which nothing is wrong -/
theorem chk1_ok {a : OwnF} {k : FT} {L n : Nat} {p : Nat} (hL : L ≤ 64) (hn : upN a n ≤ 65536) (h3 : longO a = false) (h4 : mayO a k.len = true) (hk : ∀ d, (chk k (L + 1) (upN a n) d).1 = 0 ∧ (chk k (L + 1) (upN a n) d).2.1 = p) (d : Nat) : (chk1 a k L n d).1 = 0 ∧ (chk1 a k L n d).2.1 = p := by
  rw [chk1_go (by omega) (fun e => e.elim (fun e => by omega) (fun e => by rw [h3] at e; exact absurd e (by decide))) (by rw [h4]; decide)]
  exact hk _
theorem item_tell {a : OwnF} {L n : Nat} (hL : L ≤ 64) (hn : n + 1 ≤ 65536) (hk : a.kind ≠ 2) (h : (checkL a .nil).1 = 0) (d : Nat) : (chk1 a .nil L n d).1 = 0 ∧ (chk1 a .nil L n d).2.1 = n + 1 := by
  obtain ⟨h3, h4⟩ := alone_is h
  have hu : upN a n = n + 1 := by unfold upN; rw [if_neg hk]
  exact chk1_ok (k := .nil) hL (by omega) h3 h4 (fun d => ⟨rfl, hu⟩) d
theorem against_kind {l : List UInt8} {x : Ix} {k : Int} {a : OwnF} (h : againstR l x k = .ok a) : a.kind = k ∧ (checkL a .nil).1 = 0 := by
  unfold againstR at h
  obtain ⟨_, _, h⟩ := bindR_is h
  obtain ⟨_, _, h⟩ := bindR_is h
  obtain ⟨_, _, h⟩ := bindR_is h
  obtain ⟨_, _, h⟩ := bindR_is h
  obtain ⟨_, _, h⟩ := bindR_is h
  obtain ⟨e, h'⟩ := checkedR_is h
  subst e
  exact ⟨rfl, h'⟩
theorem part_kind {l : List UInt8} {x : Ix} {a : OwnF} (h : partR l x = .ok a) : a.kind ≠ 2 := by
  unfold partR at h
  obtain ⟨_, _, h⟩ := bindR_is h
  obtain ⟨_, _, h⟩ := bindR_is h
  obtain ⟨_, _, h⟩ := bindR_is h
  obtain ⟨_, _, h⟩ := bindR_is h
  obtain ⟨_, _, h⟩ := bindR_is h
  cases h
  unfold partO
  split
  · show (7 : Int) ≠ 2; decide
  · show (4 : Int) ≠ 2; decide
theorem rule_kind {l : List UInt8} {x : Ix} {a : OwnF} (h : ruleR l x = .ok a) : a.kind ≠ 2 := by
  unfold ruleR at h
  obtain ⟨_, _, h⟩ := bindR_is h
  obtain ⟨_, _, h⟩ := bindR_is h
  obtain ⟨_, _, h⟩ := bindR_is h
  obtain ⟨_, _, h⟩ := bindR_is h
  obtain ⟨_, _, h⟩ := bindR_is h
  obtain ⟨_, _, h⟩ := bindR_is h
  cases h
  show (9 : Int) ≠ 2
  decide
theorem filter_tell {K : KF} {l : List UInt8} {L : Nat} (hL : L ≤ 64) (hK : TellsK K (L + 1)) {x : Ix} {n : Nat} {o : OwnF × FT × Nat} (hn : upP l x n ≤ 65536) (h : filterR K l x (upP l x n) = .ok o) (d : Nat) : (chk1 o.1 o.2.1 L n d).1 = 0 ∧ (chk1 o.1 o.2.1 L n d).2.1 = o.2.2 := by
  unfold filterR at h
  by_cases t0 : bAt l x.at_ = 160
  · rw [if_pos t0] at h
    obtain ⟨r, h1, h2⟩ := bindR_is h
    cases h2
    obtain ⟨h3, h4⟩ := kids_tell hK h1
    have hu : upP l x n = upN (ownK 0) n := by unfold upP upN; rw [if_neg (by rw [t0]; decide), if_neg (by decide)]
    rw [hu] at h3 hn
    exact chk1_ok hL hn (by decide) (by unfold mayO mayF rightF restF bareB OwnF.f9 ownK; simp; exact ⟨h4, rfl⟩) h3 d
  · rw [if_neg t0] at h
    by_cases t1 : bAt l x.at_ = 161
    · rw [if_pos t1] at h
      obtain ⟨r, h1, h2⟩ := bindR_is h
      cases h2
      obtain ⟨h3, h4⟩ := kids_tell hK h1
      have hu : upP l x n = upN (ownK 1) n := by unfold upP upN; rw [if_neg (by rw [t1]; decide), if_neg (by decide)]
      rw [hu] at h3 hn
      exact chk1_ok hL hn (by decide) (by unfold mayO mayF rightF restF bareB OwnF.f9 ownK; simp; exact ⟨h4, rfl⟩) h3 d
    · rw [if_neg t1] at h
      by_cases t2 : bAt l x.at_ = 162
      · rw [if_pos t2] at h
        obtain ⟨r, h1, h2⟩ := bindR_is h
        cases h2
        obtain ⟨h3, h4⟩ := only_tell hK h1
        have hu : upP l x n = upN (ownK 2) n := by unfold upP upN; rw [if_pos t2, if_pos (by decide)]
        rw [hu] at h3 hn
        exact chk1_ok hL hn (by decide) (by rw [h4]; decide) h3 d
      · rw [if_neg t2] at h
        have hu : upP l x n = n + 1 := by unfold upP; rw [if_neg t2]
        rw [hu] at h hn
        have hag : ∀ k : Int, k ≠ 2 → (bindR (againstR l x k) fun a => .ok (a, FT.nil, n + 1)) = .ok o → (chk1 o.1 o.2.1 L n d).1 = 0 ∧ (chk1 o.1 o.2.1 L n d).2.1 = o.2.2 := fun k hk h => by
          obtain ⟨r, h1, h2⟩ := bindR_is h
          cases h2
          obtain ⟨h3, h4⟩ := against_kind h1
          exact item_tell hL hn (by rw [h3]; exact hk) h4 d
        have hck : ∀ (b : OwnF), b.kind ≠ 2 → (bindR (checkedR b .nil x.at_) fun a => .ok (a, FT.nil, n + 1)) = .ok o → (chk1 o.1 o.2.1 L n d).1 = 0 ∧ (chk1 o.1 o.2.1 L n d).2.1 = o.2.2 := fun b hk h => by
          obtain ⟨r, h1, h2⟩ := bindR_is h
          cases h2
          obtain ⟨rfl, h4⟩ := checkedR_is h1
          exact item_tell hL hn hk h4 d
        split at h
        · exact hag 3 (by decide) h
        · split at h
          · exact hag 5 (by decide) h
          · split at h
            · exact hag 6 (by decide) h
            · split at h
              · exact hag 8 (by decide) h
              · split at h
                · obtain ⟨s, _, h⟩ := bindR_is h
                  exact hck _ (by show (7 : Int) ≠ 2; decide) h
                · split at h
                  · obtain ⟨b, hb, h⟩ := bindR_is h
                    exact hck b (part_kind hb) h
                  · split at h
                    · obtain ⟨b, hb, h⟩ := bindR_is h
                      exact hck b (rule_kind hb) h
                    · cases h
theorem path_tell (l : List UInt8) : ∀ f L, L + f = 65 → TellsK (pathR l f) L
  | 0, L, _ => fun i e n r h => by
    simp only [pathR] at h
    obtain ⟨_, _, h⟩ := bindR_is h
    cases h
  | f + 1, L, hf => fun i e n r h d => by
    simp only [pathR] at h
    obtain ⟨x, _, h⟩ := bindR_is h
    split at h
    · cases h
    · rename_i hp
      obtain ⟨o, h1, h⟩ := bindR_is h
      cases h
      exact filter_tell (by omega) (path_tell l f (L + 1) (by omega)) (by omega) h1 d
/-- what Decode tells may be -/
theorem decode_may {l : List UInt8} {a : OwnF} {k : FT} (h : decodeR l = .ok (a, k)) : (checkL a k).1 = 0 := by
  unfold decodeR takeT at h
  obtain ⟨r, h1, h2⟩ := bindR_is h
  split at h2
  · cases h2
  · cases h2
    split at h1
    · cases h1
    · have := (path_tell l 64 1 (by omega) _ _ _ r h1 0).1
      unfold checkL
      rw [if_pos this]
      exact this
end Go.Proofs.YtmcodhdphdckkaaGreatDoor
