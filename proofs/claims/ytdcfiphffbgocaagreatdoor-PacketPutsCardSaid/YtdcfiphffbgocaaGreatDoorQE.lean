/-
  A filter whose bytes are few is laid without an error: Encode answers what the document's does (plain).
-/
import Derived.Test.YtdcfiphffbgocaaGreatDoorWp
import Derived.Test.YtdcfiphffbgocaaGreatDoorQD
import Derived.Test.YtdcfiphffbgocaaGreatDoorQH
namespace Go.Proofs.YtdcfiphffbgocaaGreatDoor

def LX (m : Nat) (f : Ly → Ly) (b : List UInt8) : Prop := Lays m f b ∧ ∀ x : Ly, x.2 = 0 → WOk x.1 → x.1.opn.length + m ≤ 80 → x.1.laid.length + b.length + 1000 ≤ 67108864 → (f x).2 ≠ 3
section
variable {m m' : Nat} {f g : Ly → Ly} {b c : List UInt8}
theorem LX.mono (h : LX m f b) (hm : m ≤ m') : LX m' f b := ⟨h.1.mono hm, fun x h1 h2 h3 h4 => h.2 x h1 h2 (by omega) h4⟩
theorem LX.nil (m : Nat) : LX m (fun x => x) [] := ⟨Lays.nil m, fun x h1 _ _ _ => by show x.2 ≠ 3; rw [h1]; decide⟩
theorem LX.then (h : LX m f b) (k : LX m g c) : LX m (fun x => g (f x)) (b ++ c) := by
  refine ⟨h.1.then k.1, fun x h1 h2 h3 h4 => ?_⟩
  rw [List.length_append] at h4
  rcases (h.1 x).2 h1 h2 h3 with h5 | ⟨h5, h6⟩
  · exact absurd h5 (h.2 x h1 h2 h3 (by omega))
  · show (g (f x)).2 ≠ 3
    rw [h5]
    exact k.2 _ rfl h6 h3 (by simp only [List.length_append]; omega)
theorem LX.text (t : Nat) (s : List UInt8) (ht : 64 * (t / 64) + t % 32 = t) (h1 : t < 256) (h2 : t % 32 < 31) : LX 0 (textY t s) (bText t s) := by
  refine ⟨Lays.text t s ht h1 h2, fun x h3 h4 h5 h6 => ?_⟩
  rw [textY_go h3]
  have hm : mayB ((t / 64 : Nat) : Int) ((t % 32 : Nat) : Int) = true := by unfold mayB; exact decide_eq_true (by omega)
  rw [bText_len] at h6
  have hn : (nats x.1.opn).length = x.1.opn.length := by simp [nats]
  have hc := closedN_le (x.1.laid.length + (1 + lenOct s.length + s.length)) (nats x.1.opn) (by rw [hn]; omega)
  rw [hn] at hc
  show layE x.1 _ _ s ≠ 3
  unfold layE
  rw [hm, if_neg (by decide), if_neg (by omega)]
  decide
theorem LX.some (t : Nat) (s : List UInt8) (ht : 64 * (t / 64) + t % 32 = t) (h1 : t < 256) (h2 : t % 32 < 31) : LX 0 (someY t s) (bSome t s) := by
  by_cases hs : s = []
  · have e : someY t s = fun x => x := by funext x; exact if_pos hs
    rw [e, bSome, if_pos hs]
    exact LX.nil 0
  · have e : someY t s = textY t s := by funext x; exact if_neg hs
    rw [e, bSome, if_neg hs]
    exact LX.text t s ht h1 h2
theorem LX.around (t : Nat) (h : LX m f b) (ht : 64 * (t / 64) + 32 + t % 32 = t) (h1 : t < 256) (h2 : t % 32 < 31) : LX (m + 1) (aroundY t f) (bText t b) := by
  refine ⟨Lays.around t h.1 ht h1 h2, fun x hx hk h3 h6 => ?_⟩
  unfold aroundY
  have hm : mayB ((t / 64 : Nat) : Int) ((t % 32 : Nat) : Int) = true := by unfold mayB; exact decide_eq_true (by omega)
  have hw := hk.opened ((t / 64 : Nat) : Int) ((t % 32 : Nat) : Int)
  have hi : tagM (((t / 64 : Nat) : Int)).toNat (((t % 32 : Nat) : Int)).toNat = UInt8.ofNat t := by
    unfold tagM
    rw [Int.toNat_natCast, Int.toNat_natCast, ht]
  rw [bText_len] at h6
  have hn : (nats x.1.opn).length = x.1.opn.length := by simp [nats]
  have hcl := closedN_le (x.1.laid.length + 2) (nats x.1.opn) (by rw [hn]; omega)
  rw [hn] at hcl
  have he : openE x.1 ((t / 64 : Nat) : Int) ((t % 32 : Nat) : Int) = 0 := by
    unfold openE
    rw [hm, if_neg (by decide), if_neg (by omega), if_neg (by omega)]
  rw [openY_go hx hk]
  unfold openW at hw ⊢
  rw [if_pos he] at hw ⊢
  rw [hi] at hw ⊢
  rw [he]
  have h4 := h.2 (⟨x.1.laid ++ [UInt8.ofNat t], ⟨x.1.laid.length + 1, by have := hk.low; omega⟩ :: x.1.opn⟩, 0) rfl hw (by simp only [List.length_cons]; omega) (by simp only [List.length_append, List.length_cons, List.length_nil]; omega)
  rcases (h.1 (⟨x.1.laid ++ [UInt8.ofNat t], ⟨x.1.laid.length + 1, by have := hk.low; omega⟩ :: x.1.opn⟩, 0)).2 rfl hw (by simp only [List.length_cons]; omega) with h5 | ⟨h5, -⟩
  · exact absurd h5 h4
  · rw [h5, closeY_go rfl]
    simp [closeE]
end
theorem LX.mids : ∀ (ms : List ByteArray), LX 0 (fun x => ms.foldl (fun z m => textY 129 (byt m) z) x) (bMids ms)
  | [] => LX.nil 0
  | m :: r => (LX.text 129 (byt m) (by decide) (by decide) (by decide)).then (LX.mids r)
theorem LX.part (a : OwnF) : LX 2 (partY a) (bText 164 (bText 4 (byt a.desc) ++ bText 48 (bPieces a))) := by
  unfold partY bPieces
  refine LX.around 164 (m := 1) (f := fun x => aroundY 48 (fun y => someY 130 (byt a.fin) (a.ms.foldl (fun z m => textY 129 (byt m) z) (someY 128 (byt a.start) y))) (textY 4 (byt a.desc) x)) ?_ (by decide) (by decide) (by decide)
  refine ((LX.text 4 (byt a.desc) (by decide) (by decide) (by decide)).mono (m' := 1) (by omega)).then ?_
  exact LX.around 48 (((LX.some 128 (byt a.start) (by decide) (by decide) (by decide)).then (LX.mids a.ms)).then (LX.some 130 (byt a.fin) (by decide) (by decide) (by decide))) (by decide) (by decide) (by decide)
theorem LX.rule (a : OwnF) : LX 1 (ruleY a) (bText 169 (bRule a)) := by
  unfold ruleY bRule
  have h3 := ((LX.some 129 (byt a.rule) (by decide) (by decide) (by decide)).then (LX.some 130 (byt a.desc) (by decide) (by decide) (by decide))).then (LX.text 131 (byt a.value) (by decide) (by decide) (by decide))
  refine LX.around 169 ?_ (by decide) (by decide) (by decide)
  cases a.dn with
  | false => simpa using h3
  | true => exact h3.then (LX.text 132 [255] (by decide) (by decide) (by decide))
theorem LX.against (t : Nat) (d v : List UInt8) (ht : 64 * (t / 64) + 32 + t % 32 = t) (h1 : t < 256) (h2 : t % 32 < 31) : LX 1 (againstY t d v) (bText t (bText 4 d ++ bText 4 v)) :=
  LX.around t ((LX.text 4 d (by decide) (by decide) (by decide)).then (LX.text 4 v (by decide) (by decide) (by decide))) ht h1 h2
theorem LX.one (a : OwnF) {m : Nat} {f : Ly → Ly} {b : List UInt8} (hm : 1 ≤ m) (h : LX m f b) : LX (m + 1) (oneY a f) (bOne a b) := by
  by_cases k0 : a.kind = 0
  · rw [show oneY a f = aroundY 160 f from by funext x; unfold oneY; rw [k0]; rfl, show bOne a b = bText 160 b by unfold bOne; rw [k0]; rfl]
    exact (LX.around 160 h (by decide) (by decide) (by decide)).mono (by omega)
  · by_cases k1 : a.kind = 1
    · rw [show oneY a f = aroundY 161 f from by funext x; unfold oneY; rw [k1]; rfl, show bOne a b = bText 161 b by unfold bOne; rw [k1]; rfl]
      exact (LX.around 161 h (by decide) (by decide) (by decide)).mono (by omega)
    · by_cases k2 : a.kind = 2
      · rw [show oneY a f = aroundY 162 f from by funext x; unfold oneY; rw [k2]; rfl, show bOne a b = bText 162 b by unfold bOne; rw [k2]; rfl]
        exact (LX.around 162 h (by decide) (by decide) (by decide)).mono (by omega)
      · by_cases k3 : a.kind = 3
        · rw [show oneY a f = againstY 163 (byt a.desc) (byt a.value) from by funext x; unfold oneY; rw [k3]; rfl, show bOne a b = bText 163 (bText 4 (byt a.desc) ++ bText 4 (byt a.value)) by unfold bOne; rw [k3]; rfl]
          exact (LX.against 163 _ _ (by decide) (by decide) (by decide)).mono (by omega)
        · by_cases k5 : a.kind = 5
          · rw [show oneY a f = againstY 165 (byt a.desc) (byt a.value) from by funext x; unfold oneY; rw [k5]; rfl, show bOne a b = bText 165 (bText 4 (byt a.desc) ++ bText 4 (byt a.value)) by unfold bOne; rw [k5]; rfl]
            exact (LX.against 165 _ _ (by decide) (by decide) (by decide)).mono (by omega)
          · by_cases k6 : a.kind = 6
            · rw [show oneY a f = againstY 166 (byt a.desc) (byt a.value) from by funext x; unfold oneY; rw [k6]; rfl, show bOne a b = bText 166 (bText 4 (byt a.desc) ++ bText 4 (byt a.value)) by unfold bOne; rw [k6]; rfl]
              exact (LX.against 166 _ _ (by decide) (by decide) (by decide)).mono (by omega)
            · by_cases k8 : a.kind = 8
              · rw [show oneY a f = againstY 168 (byt a.desc) (byt a.value) from by funext x; unfold oneY; rw [k8]; rfl, show bOne a b = bText 168 (bText 4 (byt a.desc) ++ bText 4 (byt a.value)) by unfold bOne; rw [k8]; rfl]
                exact (LX.against 168 _ _ (by decide) (by decide) (by decide)).mono (by omega)
              · by_cases k7 : a.kind = 7
                · rw [show oneY a f = textY 135 (byt a.desc) from by funext x; unfold oneY; rw [k7]; rfl, show bOne a b = bText 135 (byt a.desc) by unfold bOne; rw [k7]; rfl]
                  exact (LX.text 135 _ (by decide) (by decide) (by decide)).mono (by omega)
                · by_cases k4 : a.kind = 4
                  · rw [show oneY a f = partY a from by funext x; unfold oneY; rw [k4]; rfl, show bOne a b = bText 164 (bText 4 (byt a.desc) ++ bText 48 (bPieces a)) by unfold bOne; rw [k4]; rfl]
                    exact (LX.part a).mono (by omega)
                  · by_cases k9 : a.kind = 9
                    · rw [show oneY a f = ruleY a from by funext x; unfold oneY; rw [k9]; rfl, show bOne a b = bText 169 (bRule a) by unfold bOne; rw [k9]; rfl]
                      exact (LX.rule a).mono (by omega)
                    · rw [show oneY a f = fun x => x from by funext x; unfold oneY; simp only [k0, k1, k2, k3, k4, k5, k6, k7, k8, k9, if_false], show bOne a b = [] by unfold bOne; simp only [k0, k1, k2, k3, k4, k5, k6, k7, k8, k9, if_false]]
                      exact LX.nil _
theorem lx_kids : ∀ (x : FT) (L n d : Nat), (chk x L n d).1 = 0 → LX (67 - L) (kidsY x) (bKids x)
  | .nil, _, _, _, _ => LX.nil _
  | .cons a k r, L, n, d, h => by
    obtain ⟨h0, h1⟩ := chk_two h
    rw [h1] at h
    obtain ⟨h2, h3, h4, h5, h6⟩ := chk1_level h0
    rw [h6] at h0
    have hk := lx_kids k (L + 1) _ _ h0
    have ho := LX.one a (m := 66 - L) (by omega) (hk.mono (by omega))
    exact (ho.mono (by omega)).then (lx_kids r L _ _ h)
/-- a filter that may be is laid -/
theorem lx_one {a : OwnF} {k : FT} (h : (checkL a k).1 = 0) : LX 66 (oneY a (kidsY k)) (bOne a (bKids k)) := by
  unfold checkL at h
  by_cases h0 : (chk1 a k 1 0 0).1 = 0
  · obtain ⟨h2, h3, h4, h5, h6⟩ := chk1_level h0
    rw [h6] at h0
    exact LX.one a (m := 65) (by omega) (lx_kids k 2 _ _ h0)
  · rw [if_neg h0] at h; exact absurd h h0
/-- what the document's Encode answers -/
def refE (a : OwnF) (k : FT) : List UInt8 × Nat := if (checkL a k).1 ≠ 0 then ([], (checkL a k).1) else if (bOne a (bKids k)).length ≤ 1048576 then (bOne a (bKids k), 0) else ([], 3)
theorem enc_ref (a : OwnF) (k : FT) : encL a k = refE a k := by
  unfold refE
  rcases encL_is a k with ⟨h, h1⟩ | ⟨h, h1⟩
  · rw [if_pos h1, h]
  · rw [if_neg (fun e => e h)]
    rcases h1 with h1 | ⟨h1, h2⟩
    · by_cases hl : (bOne a (bKids k)).length ≤ 1048576
      · exfalso
        have hp : putY a k ⟨[], []⟩ = oneY a (kidsY k) (⟨[], []⟩, 0) := by unfold putY; rw [if_pos h]
        have h3 := (lx_one h).2 (⟨[], []⟩, 0) rfl ⟨by decide, by decide, trivial⟩ (by decide) (by simp only [List.length_nil]; omega)
        unfold encL at h1
        rw [hp] at h1
        rcases ((lx_one h).1 (⟨[], []⟩, 0)).2 rfl ⟨by decide, by decide, trivial⟩ (by decide) with h4 | ⟨h4, -⟩
        · exact h3 h4
        · rw [h4] at h1
          simp only [List.nil_append, if_true] at h1
          rw [if_neg (by omega)] at h1
          have := congrArg Prod.snd h1
          simp [bytesE] at this
      · rw [if_neg hl, h1]
    · rw [if_pos h2, h1]
end Go.Proofs.YtdcfiphffbgocaaGreatDoor

/-
  The document's Encode (written by gen/mkitd.py).
-/
namespace Go.Proofs.YtdcfiphffbgocaaGreatDoor
open Go.RowKit Go.Shelf

theorem may_kind {a : OwnF} {n : Nat} (h : mayO a n = true) : 0 ≤ a.kind ∧ a.kind ≤ 9 := by
  have h1 : rightF (a.f9 n) a.ms = true := by unfold mayO mayF at h; exact (Bool.and_eq_true _ _ ▸ h).1
  have hk : (a.f9 n).kind = a.kind := rfl
  unfold rightF at h1
  rw [hk] at h1
  by_cases c : 0 ≤ a.kind ∧ a.kind ≤ 9
  · exact c
  · rw [if_neg (by omega), if_neg (by omega), if_neg (by omega), if_neg (by omega), if_neg (by omega), if_neg (by omega)] at h1
    cases h1
theorem chk1_okO {a : OwnF} {k : FT} {L n d : Nat} (h0 : (chk1 a k L n d).1 = 0) : OkO a := by
  obtain ⟨h2, h3, h4, h5, h6⟩ := chk1_level h0
  exact ⟨(may_kind h5).1, (may_kind h5).2, (chk1_small h0).1⟩
theorem chk_ok : ∀ (x : FT) (L n d : Nat), (chk x L n d).1 = 0 → OkF x
  | .nil, _, _, _, _ => trivial
  | .cons a k r, L, n, d, h => by
    obtain ⟨h0, h1⟩ := chk_two h
    rw [h1] at h
    have ho := chk1_okO h0
    obtain ⟨h2, h3, h4, h5, h6⟩ := chk1_level h0
    rw [h6] at h0
    exact ⟨ho, chk_ok k _ _ _ h0, chk_ok r _ _ _ h⟩
theorem check_ok {a : OwnF} {k : FT} (h : (checkL a k).1 = 0) : OkO a ∧ OkF k := by
  unfold checkL at h
  by_cases h0 : (chk1 a k 1 0 0).1 = 0
  · have ho := chk1_okO h0
    obtain ⟨h2, h3, h4, h5, h6⟩ := chk1_level h0
    rw [h6] at h0
    exact ⟨ho, chk_ok k _ _ _ h0⟩
  · rw [if_neg h0] at h; exact absurd h h0
set_option maxRecDepth 100000 in
set_option maxHeartbeats 8000000 in
theorem rEncode_any (w : World) (f : F9) (a : OwnF) (k : FT) (ho : FOwn w f a) (hk : FKids w f k) :
    Calls Tryz.prog 17 #[.agg f.arr] w fun e w' => ∃ u, e = .returned (.tuple #[u, .int .i64 (refE a k).2]) ∧ RowB w' (fun g => w.heap.size ≤ g) u (refE a k).1 ∧ Ext w w' := by
  have hC := fun W (y : Ext w W) => rCheck_any W (.agg f.arr) a k ⟨f, rfl, ho.ext y, hk.ext y⟩
  have hI := fun W (y : Ext w W) (h : (checkL a k).1 = 0) => docItem_any k W f a 1048576 (ho.ext y) (hk.ext y) (check_ok h).1 (check_ok h).2 (Nat.le_refl _)
  have hR : Hid (refE a k = if (checkL a k).1 ≠ 0 then ([], (checkL a k).1) else if (bOne a (bKids k)).length ≤ 1048576 then (bOne a (bKids k), 0) else ([], 3)) := rfl
  generalize checkL a k = K at hC hI hR
  obtain ⟨ke, kn9, kd⟩ := K
  simp only at hC hI hR
  generalize bOne a (bKids k) = B at hI hR
  clear ho hk
  obtain ⟨kind, ka, kn, kc, desc, value, start, ma, mn, mc, fin, rule, dn⟩ := f
  simp only [F9.arr] at hC hI ⊢
  have q1 : FlT (w.alloc (.cells #[.int .i8 kind, .slice ka kn kc, .string desc, .string value, .string start, .slice ma mn mc, .string fin, .string rule, .bool dn] 27)) w.heap.size ⟨kind, ka, kn, kc, desc, value, start, ma, mn, mc, fin, rule, dn⟩ := heap_alloc_new _ _
  have x1 := (Ext.refl w).alloc (.cells #[.int .i8 kind, .slice ka kn kc, .string desc, .string value, .string start, .slice ma mn mc, .string fin, .string rule, .bool dn] 27)
  go_enter Tryz.func17, Tryz.ntmps17
  go_upto_region 1 with fail
  generalize World.alloc w _ = w1 at q1 x1 ⊢
  obtain ⟨HS, hHS⟩ : ∃ HS, w.heap.size = HS := ⟨_, rfl⟩
  have hHSh : Hid (w.heap.size = HS) := hHS
  rw [hHS] at q1 ⊢
  clear hHS
  obtain ⟨c0, c1, c2, c3, c4, c5, c6, c7, c8, -⟩ := q1.cells
  simp only at c0 c1 c2 c3 c4 c5 c6 c7 c8
  go_wp2_with fail
  go_at_call 29
  refine (hC w1 x1).mono ?_
  rintro _ w2 ⟨rfl, y2⟩
  try dsimp only
  have q2 := q1.ext y2
  have x2 := x1.trans y2
  clear c0 c1 c2 c3 c4 c5 c6 c7 c8 q1 hC
  obtain ⟨c0, c1, c2, c3, c4, c5, c6, c7, c8, -⟩ := q2.cells
  simp only at c0 c1 c2 c3 c4 c5 c6 c7 c8
  by_cases he : ke = 0
  case neg =>
    have he' : ¬ (ke : Int) = 0 := by omega
    have hR2 : Hid (refE a k = ([], ke)) := by show _ = _; rw [hR.out, if_pos he]
    clear he hI hR
    go_wp2
    go_ret2
    rw [hR2.out]
    exact ⟨_, rfl, row_nil _ _ _ _, x2⟩
  case pos =>
    subst he
    have hI2 : Calls Tryz.prog 38 #[.agg #[.int .i8 kind, .slice ka kn kc, .string desc, .string value, .string start, .slice ma mn mc, .string fin, .string rule, .bool dn], .int .i64 1048576] w2 (ItE w2 B 1048576) := hI w2 x2 (by trivial)
    clear hI
    go_wp2_with fail
    go_at_call 38
    refine hI2.mono ?_
    rintro _ w4 ⟨u4, b4, ok, rfl, r4, y4, hok, hb4, hl4⟩
    obtain ⟨a4, n4, k4, rfl, h4⟩ := row_shape r4
    try dsimp only
    have x4 := x2.trans y4
    clear hI2 hl4
    by_cases hfit : B.length ≤ 1048576
    · rw [decide_eq_true hfit] at hok
      subst hok
      obtain rfl := hb4 rfl
      have hR2 : Hid (refE a k = (b4, 0)) := by show _ = _; rw [hR.out, if_neg (fun e => e rfl), if_pos hfit]
      clear hb4 hfit hR
      go_wp2
      go_ret2
      rw [hR2.out]
      exact ⟨_, rfl, RowB.to r4 rfl rfl (fun q h => by have := hHSh.out; have := x2.size; omega), x4⟩
    · rw [decide_eq_false hfit] at hok
      subst hok
      have hR2 : Hid (refE a k = ([], 3)) := by show _ = _; rw [hR.out, if_neg (fun e => e rfl), if_neg hfit]
      clear hb4 hfit hR
      go_wp2
      go_ret2
      rw [hR2.out]
      exact ⟨_, rfl, row_nil _ _ _ _, x4⟩
end Go.Proofs.YtdcfiphffbgocaaGreatDoor
