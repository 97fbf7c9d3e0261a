/-
  A filter's bytes (plain), and that the layer lays them, or tells that they are too many.
-/
import Derived.Test.YtdcfiphffbgocaaGreatDoorQL
namespace Go.Proofs.YtdcfiphffbgocaaGreatDoor

def bText (t : Nat) (s : List UInt8) : List UInt8 := UInt8.ofNat t :: (lenL s.length ++ s)
theorem bText_len (t : Nat) (s : List UInt8) : (bText t s).length = 1 + lenOct s.length + s.length := by simp [bText, lenL_length]; omega
def bSome (t : Nat) (s : List UInt8) : List UInt8 := if s = [] then [] else bText t s
def bMids : List ByteArray → List UInt8
  | [] => []
  | m :: r => bText 129 (byt m) ++ bMids r
def bPieces (a : OwnF) : List UInt8 := bSome 128 (byt a.start) ++ bMids a.ms ++ bSome 130 (byt a.fin)
def bRule (a : OwnF) : List UInt8 := bSome 129 (byt a.rule) ++ bSome 130 (byt a.desc) ++ bText 131 (byt a.value) ++ (if a.dn then bText 132 [255] else [])
/-- the bytes of one filter, given those of its kids -/
def bOne (a : OwnF) (k : List UInt8) : List UInt8 :=
  if a.kind = 0 then bText 160 k else if a.kind = 1 then bText 161 k else if a.kind = 2 then bText 162 k
  else if a.kind = 3 then bText 163 (bText 4 (byt a.desc) ++ bText 4 (byt a.value)) else if a.kind = 5 then bText 165 (bText 4 (byt a.desc) ++ bText 4 (byt a.value)) else if a.kind = 6 then bText 166 (bText 4 (byt a.desc) ++ bText 4 (byt a.value)) else if a.kind = 8 then bText 168 (bText 4 (byt a.desc) ++ bText 4 (byt a.value))
  else if a.kind = 7 then bText 135 (byt a.desc) else if a.kind = 4 then bText 164 (bText 4 (byt a.desc) ++ bText 48 (bPieces a)) else if a.kind = 9 then bText 169 (bRule a) else []
def bKids : FT → List UInt8
  | .nil => []
  | .cons a k r => bOne a (bKids k) ++ bKids r

/-- these bytes are laid behind what there is, or they are too many; so many more may be opened -/
def Lays (m : Nat) (f : Ly → Ly) (b : List UInt8) : Prop := ∀ x : Ly, (x.2 ≠ 0 → (f x).2 = x.2) ∧ (x.2 = 0 → WOk x.1 → x.1.opn.length + m ≤ 80 → (f x).2 = 3 ∨ (f x = (⟨x.1.laid ++ b, x.1.opn⟩, 0) ∧ WOk ⟨x.1.laid ++ b, x.1.opn⟩))
section
variable {m m' : Nat} {f g : Ly → Ly} {b c : List UInt8}
theorem Lays.mono (h : Lays m f b) (hm : m ≤ m') : Lays m' f b := fun x => ⟨(h x).1, fun h1 h2 h3 => (h x).2 h1 h2 (by omega)⟩
theorem Lays.nil (m : Nat) : Lays m (fun x => x) [] := by
  intro x
  obtain ⟨⟨l, o⟩, e⟩ := x
  refine ⟨fun _ => rfl, fun h1 h2 _ => .inr ⟨?_, ?_⟩⟩
  · simp only at h1; subst h1; simp
  · simpa using h2
theorem Lays.then (h : Lays m f b) (k : Lays m g c) : Lays m (fun x => g (f x)) (b ++ c) := by
  intro x
  refine ⟨fun h1 => ?_, fun h1 h2 h3 => ?_⟩
  · have h4 := (h x).1 h1
    show (g (f x)).2 = x.2
    rw [(k (f x)).1 (by rw [h4]; exact h1), h4]
  · rcases (h x).2 h1 h2 h3 with h4 | ⟨h4, h5⟩
    · exact .inl (by show (g (f x)).2 = 3; rw [(k (f x)).1 (by omega), h4])
    · show (g (f x)).2 = 3 ∨ (g (f x) = _ ∧ _)
      rw [h4]
      rcases (k (⟨x.1.laid ++ b, x.1.opn⟩, 0)).2 rfl h5 h3 with h6 | ⟨h6, h7⟩
      · exact .inl h6
      · rw [← List.append_assoc]
        exact .inr ⟨h6, h7⟩
theorem Lays.text (t : Nat) (s : List UInt8) (ht : 64 * (t / 64) + t % 32 = t) (h1 : t < 256) (h2 : t % 32 < 31) : Lays 0 (textY t s) (bText t s) := by
  intro x
  refine ⟨fun h => by rw [textY_no h], fun h hk _ => ?_⟩
  rw [textY_go h]
  have hm : mayB ((t / 64 : Nat) : Int) ((t % 32 : Nat) : Int) = true := by unfold mayB; exact decide_eq_true (by omega)
  have hw := hk.lay ((t / 64 : Nat) : Int) ((t % 32 : Nat) : Int) s
  have hi : itemL (((t / 64 : Nat) : Int)).toNat (((t % 32 : Nat) : Int)).toNat s = bText t s := by
    unfold itemL tagB bText
    rw [Int.toNat_natCast, Int.toNat_natCast, ht]
  unfold layW at hw ⊢
  by_cases he : layE x.1 ((t / 64 : Nat) : Int) ((t % 32 : Nat) : Int) s = 0
  · rw [if_pos he] at hw ⊢
    rw [hi] at hw ⊢
    exact .inr ⟨by rw [he], hw⟩
  · left
    show layE x.1 _ _ s = 3
    unfold layE at he ⊢
    rw [hm] at he ⊢
    simp only [Bool.true_eq_false, if_false] at he ⊢
    split at he
    · rename_i h3; rw [if_pos h3]
    · exact absurd rfl he
theorem Lays.some (t : Nat) (s : List UInt8) (ht : 64 * (t / 64) + t % 32 = t) (h1 : t < 256) (h2 : t % 32 < 31) : Lays 0 (someY t s) (bSome t s) := by
  by_cases hs : s = []
  · have e : someY t s = fun x => x := by funext x; exact if_pos hs
    rw [e, bSome, if_pos hs]
    exact Lays.nil 0
  · have e : someY t s = textY t s := by funext x; exact if_neg hs
    rw [e, bSome, if_neg hs]
    exact Lays.text t s ht h1 h2
theorem take_here (l : List UInt8) (t : UInt8) (b : List UInt8) : (l ++ [t] ++ b).take (l.length + 1) = l ++ [t] ∧ (l ++ [t] ++ b).drop (l.length + 1) = b := by
  have e : (l ++ [t]).length = l.length + 1 := by simp
  exact ⟨by rw [← e, List.take_left], by rw [← e, List.drop_left]⟩
theorem Lays.around (t : Nat) (h : Lays m f b) (ht : 64 * (t / 64) + 32 + t % 32 = t) (h1 : t < 256) (h2 : t % 32 < 31) : Lays (m + 1) (aroundY t f) (bText t b) := by
  intro x
  refine ⟨fun hx => ?_, fun hx hk h3 => ?_⟩
  · unfold aroundY
    rw [openY_no hx]
    have := (h x).1 hx
    rw [closeY_no (by rw [this]; exact hx), this]
  · unfold aroundY
    have hm : mayB ((t / 64 : Nat) : Int) ((t % 32 : Nat) : Int) = true := by unfold mayB; exact decide_eq_true (by omega)
    have hw := hk.opened ((t / 64 : Nat) : Int) ((t % 32 : Nat) : Int)
    have hi : tagM (((t / 64 : Nat) : Int)).toNat (((t % 32 : Nat) : Int)).toNat = UInt8.ofNat t := by
      unfold tagM
      rw [Int.toNat_natCast, Int.toNat_natCast, ht]
    rw [openY_go hx hk]
    unfold openW at hw ⊢
    by_cases he : openE x.1 ((t / 64 : Nat) : Int) ((t % 32 : Nat) : Int) = 0
    · rw [if_pos he] at hw ⊢
      rw [hi] at hw ⊢
      rw [he]
      rcases (h (⟨x.1.laid ++ [UInt8.ofNat t], ⟨x.1.laid.length + 1, by have := hk.low; omega⟩ :: x.1.opn⟩, 0)).2 rfl hw (by simp only [List.length_cons]; omega) with h4 | ⟨h4, h5⟩
      · left
        rw [closeY_no (by rw [h4]; decide), h4]
      · right
        rw [h4, closeY_go rfl]
        have hc := h5.closed
        have e : closeW ⟨x.1.laid ++ [UInt8.ofNat t] ++ b, ⟨x.1.laid.length + 1, by have := hk.low; omega⟩ :: x.1.opn⟩ = ⟨x.1.laid ++ bText t b, x.1.opn⟩ := by
          unfold closeW
          simp only
          rw [(take_here x.1.laid (UInt8.ofNat t) b).1, (take_here x.1.laid (UInt8.ofNat t) b).2]
          have : (x.1.laid ++ [UInt8.ofNat t] ++ b).length - (x.1.laid.length + 1) = b.length := by simp; omega
          rw [this]
          simp [bText, List.append_assoc]
        rw [e] at hc
        refine ⟨?_, hc⟩
        rw [e]
        rfl
    · have h91 : ¬ 80 ≤ x.1.opn.length := by omega
      have h33 : openE x.1 ((t / 64 : Nat) : Int) ((t % 32 : Nat) : Int) = 3 := by
        unfold openE at he ⊢
        rw [hm] at he ⊢
        simp only [Bool.true_eq_false, if_false, h91] at he ⊢
        split at he
        · rename_i h3; rw [if_pos h3]
        · exact absurd rfl he
      left
      rw [h33, if_neg (by decide)]
      have := (h (x.1, 3)).1 (by simp)
      rw [closeY_no (by rw [this]; simp), this]
end
theorem Lays.mids : ∀ (ms : List ByteArray), Lays 0 (fun x => ms.foldl (fun z m => textY 129 (byt m) z) x) (bMids ms)
  | [] => Lays.nil 0
  | m :: r => (Lays.text 129 (byt m) (by decide) (by decide) (by decide)).then (Lays.mids r)
theorem Lays.part (a : OwnF) : Lays 2 (partY a) (bText 164 (bText 4 (byt a.desc) ++ bText 48 (bPieces a))) := by
  unfold partY bPieces
  refine Lays.around 164 (m := 1) (f := fun x => aroundY 48 (fun y => someY 130 (byt a.fin) (a.ms.foldl (fun z m => textY 129 (byt m) z) (someY 128 (byt a.start) y))) (textY 4 (byt a.desc) x)) ?_ (by decide) (by decide) (by decide)
  refine ((Lays.text 4 (byt a.desc) (by decide) (by decide) (by decide)).mono (m' := 1) (by omega)).then ?_
  exact Lays.around 48 (((Lays.some 128 (byt a.start) (by decide) (by decide) (by decide)).then (Lays.mids a.ms)).then (Lays.some 130 (byt a.fin) (by decide) (by decide) (by decide))) (by decide) (by decide) (by decide)
theorem Lays.rule (a : OwnF) : Lays 1 (ruleY a) (bText 169 (bRule a)) := by
  unfold ruleY bRule
  have h3 := ((Lays.some 129 (byt a.rule) (by decide) (by decide) (by decide)).then (Lays.some 130 (byt a.desc) (by decide) (by decide) (by decide))).then (Lays.text 131 (byt a.value) (by decide) (by decide) (by decide))
  refine Lays.around 169 ?_ (by decide) (by decide) (by decide)
  cases a.dn with
  | false => simpa using h3
  | true => exact h3.then (Lays.text 132 [255] (by decide) (by decide) (by decide))
theorem Lays.against (t : Nat) (d v : List UInt8) (ht : 64 * (t / 64) + 32 + t % 32 = t) (h1 : t < 256) (h2 : t % 32 < 31) : Lays 1 (againstY t d v) (bText t (bText 4 d ++ bText 4 v)) :=
  Lays.around t ((Lays.text 4 d (by decide) (by decide) (by decide)).then (Lays.text 4 v (by decide) (by decide) (by decide))) ht h1 h2
theorem Lays.one (a : OwnF) {m : Nat} {f : Ly → Ly} {b : List UInt8} (hm : 1 ≤ m) (h : Lays m f b) : Lays (m + 1) (oneY a f) (bOne a b) := by
  by_cases k0 : a.kind = 0
  · rw [show oneY a f = aroundY 160 f from by funext x; unfold oneY; rw [k0]; rfl, show bOne a b = bText 160 b by unfold bOne; rw [k0]; rfl]
    exact (Lays.around 160 h (by decide) (by decide) (by decide)).mono (by omega)
  · by_cases k1 : a.kind = 1
    · rw [show oneY a f = aroundY 161 f from by funext x; unfold oneY; rw [k1]; rfl, show bOne a b = bText 161 b by unfold bOne; rw [k1]; rfl]
      exact (Lays.around 161 h (by decide) (by decide) (by decide)).mono (by omega)
    · by_cases k2 : a.kind = 2
      · rw [show oneY a f = aroundY 162 f from by funext x; unfold oneY; rw [k2]; rfl, show bOne a b = bText 162 b by unfold bOne; rw [k2]; rfl]
        exact (Lays.around 162 h (by decide) (by decide) (by decide)).mono (by omega)
      · by_cases k3 : a.kind = 3
        · rw [show oneY a f = againstY 163 (byt a.desc) (byt a.value) from by funext x; unfold oneY; rw [k3]; rfl, show bOne a b = bText 163 (bText 4 (byt a.desc) ++ bText 4 (byt a.value)) by unfold bOne; rw [k3]; rfl]
          exact (Lays.against 163 _ _ (by decide) (by decide) (by decide)).mono (by omega)
        · by_cases k5 : a.kind = 5
          · rw [show oneY a f = againstY 165 (byt a.desc) (byt a.value) from by funext x; unfold oneY; rw [k5]; rfl, show bOne a b = bText 165 (bText 4 (byt a.desc) ++ bText 4 (byt a.value)) by unfold bOne; rw [k5]; rfl]
            exact (Lays.against 165 _ _ (by decide) (by decide) (by decide)).mono (by omega)
          · by_cases k6 : a.kind = 6
            · rw [show oneY a f = againstY 166 (byt a.desc) (byt a.value) from by funext x; unfold oneY; rw [k6]; rfl, show bOne a b = bText 166 (bText 4 (byt a.desc) ++ bText 4 (byt a.value)) by unfold bOne; rw [k6]; rfl]
              exact (Lays.against 166 _ _ (by decide) (by decide) (by decide)).mono (by omega)
            · by_cases k8 : a.kind = 8
              · rw [show oneY a f = againstY 168 (byt a.desc) (byt a.value) from by funext x; unfold oneY; rw [k8]; rfl, show bOne a b = bText 168 (bText 4 (byt a.desc) ++ bText 4 (byt a.value)) by unfold bOne; rw [k8]; rfl]
                exact (Lays.against 168 _ _ (by decide) (by decide) (by decide)).mono (by omega)
              · by_cases k7 : a.kind = 7
                · rw [show oneY a f = textY 135 (byt a.desc) from by funext x; unfold oneY; rw [k7]; rfl, show bOne a b = bText 135 (byt a.desc) by unfold bOne; rw [k7]; rfl]
                  exact (Lays.text 135 _ (by decide) (by decide) (by decide)).mono (by omega)
                · by_cases k4 : a.kind = 4
                  · rw [show oneY a f = partY a from by funext x; unfold oneY; rw [k4]; rfl, show bOne a b = bText 164 (bText 4 (byt a.desc) ++ bText 48 (bPieces a)) by unfold bOne; rw [k4]; rfl]
                    exact (Lays.part a).mono (by omega)
                  · by_cases k9 : a.kind = 9
                    · rw [show oneY a f = ruleY a from by funext x; unfold oneY; rw [k9]; rfl, show bOne a b = bText 169 (bRule a) by unfold bOne; rw [k9]; rfl]
                      exact (Lays.rule a).mono (by omega)
                    · rw [show oneY a f = fun x => x from by funext x; unfold oneY; simp only [k0, k1, k2, k3, k4, k5, k6, k7, k8, k9, if_false], show bOne a b = [] by unfold bOne; simp only [k0, k1, k2, k3, k4, k5, k6, k7, k8, k9, if_false]]
                      exact Lays.nil _
theorem chk1_level {a : OwnF} {kids : FT} {L n d : Nat} (h0 : (chk1 a kids L n d).1 = 0) : L ≤ 64 ∧ upN a n ≤ 65536 ∧ longO a = false ∧ mayO a kids.len = true ∧ chk1 a kids L n d = chk kids (L + 1) (upN a n) (max d L) := by
  by_cases h1 : 64 < L
  · rw [chk1_deep h1] at h0; simp at h0
  · by_cases h2 : 65536 < upN a n ∨ longO a = true
    · rw [chk1_long h1 h2] at h0; simp at h0
    · by_cases h3 : mayO a kids.len = false
      · rw [chk1_not h1 h2 h3] at h0; simp at h0
      · refine ⟨by omega, by omega, ?_, by simpa using h3, chk1_go h1 h2 h3⟩
        cases hl : longO a
        · rfl
        · exact absurd (.inr hl) h2
theorem chk_two {a : OwnF} {k r : FT} {L n d : Nat} (h : (chk (.cons a k r) L n d).1 = 0) : (chk1 a k L n d).1 = 0 ∧ chk (.cons a k r) L n d = chk r L (chk1 a k L n d).2.1 (chk1 a k L n d).2.2 := by
  rw [chk_cons] at h ⊢
  by_cases h0 : (chk1 a k L n d).1 = 0
  · exact ⟨h0, if_neg (fun k => k h0)⟩
  · rw [if_pos h0] at h; exact absurd h h0
theorem lays_kids : ∀ (x : FT) (L n d : Nat), (chk x L n d).1 = 0 → Lays (67 - L) (kidsY x) (bKids x)
  | .nil, _, _, _, _ => Lays.nil _
  | .cons a k r, L, n, d, h => by
    obtain ⟨h0, h1⟩ := chk_two h
    rw [h1] at h
    obtain ⟨h2, h3, h4, h5, h6⟩ := chk1_level h0
    rw [h6] at h0
    have hk := lays_kids k (L + 1) _ _ h0
    have ho := Lays.one a (m := 66 - L) (by omega) (hk.mono (by omega))
    exact (ho.mono (by omega)).then (lays_kids r L _ _ h)
/-- a filter that may be is laid -/
theorem lays_one {a : OwnF} {k : FT} (h : (checkL a k).1 = 0) : Lays 66 (oneY a (kidsY k)) (bOne a (bKids k)) := by
  unfold checkL at h
  by_cases h0 : (chk1 a k 1 0 0).1 = 0
  · obtain ⟨h2, h3, h4, h5, h6⟩ := chk1_level h0
    rw [h6] at h0
    exact Lays.one a (m := 65) (by omega) (lays_kids k 2 _ _ h0)
  · rw [if_neg h0] at h; exact absurd h h0
/-- what Encode answers -/
theorem encL_is (a : OwnF) (k : FT) : encL a k = ([], (checkL a k).1) ∧ (checkL a k).1 ≠ 0 ∨ (checkL a k).1 = 0 ∧ (encL a k = ([], 3) ∨ encL a k = (bOne a (bKids k), 0) ∧ (bOne a (bKids k)).length ≤ 1048576) := by
  by_cases h : (checkL a k).1 = 0
  · right
    refine ⟨h, ?_⟩
    have hp : putY a k ⟨[], []⟩ = oneY a (kidsY k) (⟨[], []⟩, 0) := by unfold putY; rw [if_pos h]
    unfold encL
    rw [hp]
    rcases (lays_one h (⟨[], []⟩, 0)).2 rfl ⟨by decide, by decide, trivial⟩ (by decide) with h1 | ⟨h1, h2⟩
    · rw [if_neg (by rw [h1]; decide), h1]
      exact .inl rfl
    · rw [h1]
      simp only [List.nil_append, if_true]
      by_cases hb : 1048576 < (bOne a (bKids k)).length
      · rw [if_pos hb]; exact .inl rfl
      · rw [if_neg hb]; exact .inr ⟨rfl, by omega⟩
  · left
    have hp : putY a k ⟨[], []⟩ = (⟨[], []⟩, (checkL a k).1) := by unfold putY; rw [if_neg h]
    unfold encL
    rw [hp]
    simp only [h, if_false]
    exact ⟨trivial, h⟩
end Go.Proofs.YtdcfiphffbgocaaGreatDoor
