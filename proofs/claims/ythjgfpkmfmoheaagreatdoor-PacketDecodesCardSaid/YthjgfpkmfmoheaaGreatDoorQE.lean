/-
 The document's own reader of packets: a rule.
-/
import Derived.Test.YthjgfpkmfmoheaaGreatDoorQD
import Derived.Test.YthjgfpkmfmoheaaGreatDoorBref
namespace Go.Proofs.YthjgfpkmfmoheaaGreatDoor
open Go.RowKit Go.Shelf

theorem DO.only {α : Type} {S : Nat → Prop} {w w' : World} {B R : Nat} {v : Value} {l : List UInt8} {n : Nat} {x : Ix} {o : Rs α} {p : α → Nat} (h : DO w B R v l n x o p) (k : Only S w w') (hR : ¬ S R) (hB : ¬ S B) : DO w' B R v l n x o p := by
 cases o with
 | error q => obtain ⟨h0, h1, m, h2⟩ := h; exact ⟨h0, h1.only k hR, m, h2.only k hB⟩
 | ok a => obtain ⟨h1, h2, h3⟩ := h; exact ⟨h1.only k hR, h2.only k hB, h3⟩
theorem DO.map {α β : Type} {w : World} {B R : Nat} {v : Value} {l : List UInt8} {n : Nat} {x : Ix} {o : Rs α} {p : α → Nat} {f : α → β} {r : β → Nat} (h : DO w B R v l n x o p) (hr : ∀ a, r (f a) = p a) : DO w B R v l n x (bindR o fun a => .ok (f a)) r := by
 cases o with
 | error q => exact h
 | ok a => obtain ⟨h1, h2, h3⟩ := h; exact ⟨h1, by rw [hr]; exact h2, by rw [hr]; exact h3⟩
structure FS {α : Type} (w wx : World) (B R Z F : Nat) (v : Value) (l : List UInt8) (n : Nat) (x : Ix) (f : F9) (o : Rs α) (p : α → Nat) : Prop where
 dc : DC wx B R v l x
 d : DO wx B R v l n x o p
 fl : FlT wx F f
 zl : FlT wx Z F9.zero
 on : Only (fun g => g = R ∨ g = B) w wx
structure FH (w : World) (B R Z F : Nat) (v : Value) : Prop where
 z : w.heap.size ≤ Z
 f : w.heap.size ≤ F
 ne : Z ≠ F
 b : B < w.heap.size
 r : R < w.heap.size
 s : ∀ a n c, v = .slice (some a) n c → a.block < w.heap.size
section
variable {α β : Type} {w wx w' : World} {B R Z F : Nat} {v : Value} {l : List UInt8} {n : Nat} {x : Ix} {f f' : F9} {o : Rs α} {p : α → Nat} {o' : Rs β} {p' : β → Nat}
theorem FS.step (h : FS w wx B R Z F v l n x f o p) (hh : FH w B R Z F v) (k : Only (fun g => g = R ∨ g = B) wx w') (d : DO w' B R v l n x o' p') : FS w w' B R Z F v l n x f o' p' := by
 have h1 := hh.z
 have h2 := hh.f
 have h3 := hh.b
 have h4 := hh.r
 exact ⟨h.dc.next k, d, h.fl.only k (by omega), h.zl.only k (by omega), h.on.then k⟩
theorem FS.ext (h : FS w wx B R Z F v l n x f o p) (y : Ext wx w') : FS w w' B R Z F v l n x f o p :=
 ⟨h.dc.ext y, h.d.only (S := fun _ => False) y.only id id, h.fl.ext y, h.zl.ext y, h.on.ext y⟩
theorem FS.to (h : FS w wx B R Z F v l n x f o p) (d : DO wx B R v l n x o' p') : FS w wx B R Z F v l n x f o' p' := ⟨h.dc, d, h.fl, h.zl, h.on⟩
theorem FS.store {j : Nat} {u : Value} (h : FS w wx B R Z F v l n x f o p) (hh : FH w B R Z F v) (hf : FlT (wx.setCell ⟨F, j, none⟩ u) F f') : FS w (wx.setCell ⟨F, j, none⟩ u) B R Z F v l n x f' o p := by
 have h1 := hh.z
 have h2 := hh.f
 have h3 := hh.b
 have h4 := hh.r
 have k := setOnly wx F j u
 refine ⟨⟨?_, h.dc.ln, h.dc.win, h.dc.ne, h.dc.ap⟩, h.d.only k (by omega) (by omega), hf, h.zl.only k hh.ne, h.on.trans (k.mono fun g _ hg => .inr (by omega))⟩
 obtain ⟨a, nn, cap, e⟩ := h.dc.sl.lit
 subst e
 exact h.dc.sl.onlyB k (fun a' e => by
   subst e
   have := hh.s _ _ _ rfl
   omega)
end
theorem DC.slt {w : World} {B R : Nat} {v : Value} {l : List UInt8} {x : Ix} (h : DC w B R v l x) (hp : 0 < l.length) (a : Addr) (n c : Nat) (e : v = .slice (some a) n c) : a.block < w.heap.size := by
 subst e
 obtain ⟨g, o, e2, hc, _⟩ := h.sl.byte 0 hp
 cases e2
 exact World.block_lt_of_cell? _ _ hc
theorem fs_begin (w : World) (B R : Nat) (v : Value) (l : List UInt8) (n : Nat) (x : Ix) (o : Rs Nat) (k : Int) (hc : DC w B R v l x) (h : DO w B R v l n x o id) (hp : 0 < l.length) :
   FS w ((w.alloc (.cells #[.int .i8 0, .slice none 0 0, .string ⟨#[]⟩, .string ⟨#[]⟩, .string ⟨#[]⟩, .slice none 0 0, .string ⟨#[]⟩, .string ⟨#[]⟩, .bool false] 27)).alloc (.cells #[.int .i8 k, .slice none 0 0, .string ⟨#[]⟩, .string ⟨#[]⟩, .string ⟨#[]⟩, .slice none 0 0, .string ⟨#[]⟩, .string ⟨#[]⟩, .bool false] 27)) B R w.heap.size (w.heap.size + 1) v l n x ⟨k, none, 0, 0, ⟨#[]⟩, ⟨#[]⟩, ⟨#[]⟩, none, 0, 0, ⟨#[]⟩, ⟨#[]⟩, false⟩ o id ∧ FH w B R w.heap.size (w.heap.size + 1) v := by
 have z0 := fl_new w
 have x1 := (Ext.refl (w.alloc (.cells #[.int .i8 0, .slice none 0 0, .string ⟨#[]⟩, .string ⟨#[]⟩, .string ⟨#[]⟩, .slice none 0 0, .string ⟨#[]⟩, .string ⟨#[]⟩, .bool false] 27))).alloc (.cells #[.int .i8 k, .slice none 0 0, .string ⟨#[]⟩, .string ⟨#[]⟩, .string ⟨#[]⟩, .slice none 0 0, .string ⟨#[]⟩, .string ⟨#[]⟩, .bool false] 27)
 have y := ((Ext.refl w).alloc (.cells #[.int .i8 0, .slice none 0 0, .string ⟨#[]⟩, .string ⟨#[]⟩, .string ⟨#[]⟩, .slice none 0 0, .string ⟨#[]⟩, .string ⟨#[]⟩, .bool false] 27)).trans x1
 have f0 := heap_alloc_new (w.alloc (.cells #[.int .i8 0, .slice none 0 0, .string ⟨#[]⟩, .string ⟨#[]⟩, .string ⟨#[]⟩, .slice none 0 0, .string ⟨#[]⟩, .string ⟨#[]⟩, .bool false] 27)) (.cells #[.int .i8 k, .slice none 0 0, .string ⟨#[]⟩, .string ⟨#[]⟩, .string ⟨#[]⟩, .slice none 0 0, .string ⟨#[]⟩, .string ⟨#[]⟩, .bool false] 27)
 rw [World.size_alloc] at f0
 have hB : B < w.heap.size := by
   cases o with
   | error q => obtain ⟨_, _, m, h2⟩ := h; exact h2.lt
   | ok m => exact h.2.1.lt
 have hR : R < w.heap.size := by
   cases o with
   | error q => exact (Array.getElem?_eq_some_iff.1 h.2.1).1
   | ok m => exact (Array.getElem?_eq_some_iff.1 h.1).1
 exact ⟨⟨hc.ext y, h.only (S := fun _ => False) y.only id id, f0, z0.ext x1, y.only⟩, ⟨Nat.le_refl _, by omega, by omega, hB, hR, hc.slt hp⟩⟩

def dnO (l : List UInt8) (x : Ix) (o : Rs Nat) : Rs (Bool × Nat) := bindR o fun m => bindR (dnR l (x.to m)) fun b => bindR (endR l (x.to b.2)) fun _ => .ok b
def rulO (l : List UInt8) (x : Ix) (o : Rs Nat) : Rs OwnF := bindR (optO l x 129 o) fun r => bindR (optO l x 130 (.ok r.2)) fun d => bindR (textO l x 131 (.ok d.2)) fun u => bindR (dnO l x (.ok u.2)) fun b => .ok ⟨9, str d.1, str u.1, ⟨#[]⟩, [], ⟨#[]⟩, str r.1, b.1⟩
theorem rulO_is (l : List UInt8) (x : Ix) (m : Nat) : rulO l x (.ok m) = ruleR l (x.to m) := by
 unfold rulO ruleR optO
 simp only [text_must (show 131 % 64 < 32 by decide)]
 show bindR (optR l (x.to m) 129) _ = bindR (optR l (x.to m) 129) _
 cases optR l (x.to m) 129 with
 | error q => rfl
 | ok r =>
   show bindR (optR l (x.to r.2) 130) _ = bindR (optR l (x.to r.2) 130) _
   cases optR l (x.to r.2) 130 with
   | error q => rfl
   | ok d =>
     show bindR (bindR (takeR l (x.to d.2) 131) _) _ = bindR (takeR l (x.to d.2) 131) _
     cases takeR l (x.to d.2) 131 with
     | error q => rfl
     | ok y =>
       show bindR (bindR (textR l y) _) _ = bindR (textR l y) _
       cases textR l y with
       | error q => rfl
       | ok u =>
         show bindR (bindR (dnR l (x.to y.t.til)) _) _ = bindR (dnR l (x.to y.t.til)) _
         cases dnR l (x.to y.t.til) with
         | error q => rfl
         | ok b =>
           show bindR (bindR (endR l (x.to b.2)) _) _ = bindR (endR l (x.to b.2)) _
           cases endR l (x.to b.2) with
           | error q => rfl
           | ok _ => rfl
end Go.Proofs.YthjgfpkmfmoheaaGreatDoor

/-
 The document's own reader of packets: a rule (written by gen/mkdk.py).
-/
namespace Go.Proofs.YthjgfpkmfmoheaaGreatDoor
open Go.RowKit Go.Shelf

theorem textO_size (l : List UInt8) (x : Ix) (tag : Nat) (o : Rs Nat) : (textS (textO l x tag o)).size ≤ 281474976710656 := by
 unfold textO
 cases h : takeO l x tag o with
 | error q => exact Nat.zero_le _
 | ok y =>
   show (textS (textT l y)).size ≤ _
   unfold textT
   split
   · exact Nat.zero_le _
   · rename_i hs
     obtain ⟨⟨y1, y2, y3, y4⟩, -, -⟩ := takeO_ok h
     show (str (cutB l y.t.fro y.t.til)).size ≤ _
     rw [← byt_length, byt_str, cutB_length _ _ _ y4]
     omega
theorem peek_tag {l : List UInt8} {x : Ix} {tag : Nat} {o : Rs Nat} (hk : peekK l x o = (tag : Int)) : ∃ m y, o = .ok m ∧ peekO l x o = .ok m ∧ (x.to m).left = true ∧ itemR l (x.to m).next (x.to m).t.til = .ok y ∧ bAt l y.at_ = tag := by
 cases o with
 | error q => exfalso; simp only [peekK, bindR] at hk; omega
 | ok m =>
   simp only [peekK, bindR] at hk
   rcases peek_cases l x m with ⟨h1, h2⟩ | ⟨e, h1, h2, h3⟩ | ⟨y, h1, h2, h3⟩
   · rw [h2] at hk; simp only at hk; omega
   · rw [h3] at hk; simp only at hk; omega
   · rw [h3] at hk
     simp only at hk
     exact ⟨m, y, rfl, by unfold peekO; simp only [bindR, h3], h1, h2, by omega⟩
theorem flag_cases {l : List UInt8} {y : Ix} (h : y.Ok l) (hc : y.t.cons = false) : (flagE l false y.t.fro y.t.til = 0 ∧ flagR l y = .ok (flagV l false y.t.fro y.t.til)) ∨ (flagE l false y.t.fro y.t.til = 22 ∧ flagR l y = .error (22, y.at_)) := by
 obtain ⟨y1, y2, y3, y4⟩ := h
 have hw : withinB (y.t.fro : Int) y.t.til l.length = true := by unfold withinB; simp; omega
 have hb : bodyE l false y.t.fro y.t.til = 0 := by unfold bodyE; rw [hw]; rfl
 have hB : bodyB l false y.t.fro y.t.til = cutB l y.t.fro y.t.til := by unfold bodyB; rw [if_pos hb]; rfl
 unfold flagE flagR flagV
 rw [hb, hB, hc, if_neg (fun h => h rfl)]
 by_cases h1 : cutB l y.t.fro y.t.til = [255] ∨ cutB l y.t.fro y.t.til = [0]
 · left; rw [if_pos h1, if_pos h1]; exact ⟨rfl, rfl⟩
 · right; rw [if_neg h1, if_neg h1]; exact ⟨rfl, rfl⟩
theorem dn_no {l : List UInt8} {x : Ix} {o : Rs Nat} (hk : ¬ peekK l x o = (132 : Nat)) : dnO l x o = match peekO l x o with | .error q => .error q | .ok m => if m < x.t.til then .error (20, (m : Int)) else .ok (false, m) := by
 cases o with
 | error q => rfl
 | ok m =>
   unfold dnO dnR peekO
   simp only [peekK, bindR] at hk ⊢
   rcases peek_cases l x m with ⟨h1, h2⟩ | ⟨e, h1, h2, h3⟩ | ⟨y, h1, h2, h3⟩
   · rw [h2, h1]
     have hlt : ¬ m < x.t.til := of_decide_eq_false h1
     simp only [if_neg hlt]
     simp only [Bool.false_eq_true, if_false]
     unfold endR
     rw [show (x.to m).next = m from rfl, h1]
     rfl
   · rw [h3, h1]
     unfold takeR
     rw [h1, h2]
     rfl
   · rw [h3] at hk ⊢
     simp only at hk
     have hlt : m < x.t.til := of_decide_eq_true h1
     obtain ⟨g1, g2, g3, g4, g5, g6⟩ := itemR_ok h2
     rw [h1]
     unfold takeR
     rw [h1, h2]
     simp only [if_true, if_pos hlt]
     rw [if_neg (by omega)]
     have : y.at_ = m := by rw [g3]; rfl
     rw [this]
def RfQ {α : Type} (w : World) (R : Nat) (v : Value) (n : Nat) (o : Rs α) : Prop := match o with | .ok _ => RfB w R v n 0 0 | .error q => q.1 ≠ 0 ∧ RfB w R v n q.1 q.2
theorem DO.rf {α : Type} {w : World} {B R : Nat} {v : Value} {l : List UInt8} {n : Nat} {x : Ix} {o : Rs α} {p : α → Nat} (h : DO w B R v l n x o p) : RfQ w R v n o := by
 cases o with
 | error q => exact ⟨h.1, h.2.1⟩
 | ok a => exact h.1
theorem RfQ.map {α β : Type} {w : World} {R : Nat} {v : Value} {n : Nat} {o : Rs α} {f : α → β} (h : RfQ w R v n o) : RfQ w R v n (bindR o fun a => .ok (f a)) := by
 cases o with
 | error q => exact h
 | ok a => exact h
theorem rule_steps {l : List UInt8} {x : Ix} {O0 O1 O2 O3 : Rs Nat} {q1 q2 q3 : Rs (List UInt8 × Nat)} {q4 : Rs (Bool × Nat)} (h1 : q1 = optO l x 129 O0) (e1 : O1 = bindR q1 fun r => .ok r.2) (h2 : q2 = optO l x 130 O1) (e2 : O2 = bindR q2 fun r => .ok r.2) (h3 : q3 = textO l x 131 O2) (e3 : O3 = bindR q3 fun r => .ok r.2) (h4 : q4 = dnO l x O3) :
   (∃ e, q4 = .error e ∧ rulO l x O0 = .error e) ∨ (∃ b, q4 = .ok b ∧ rulO l x O0 = .ok ⟨9, textS q2, textS q3, ⟨#[]⟩, [], ⟨#[]⟩, textS q1, b.1⟩) := by
 unfold rulO
 rw [← h1]
 cases q1 with
 | error q => left; subst e1 h2 e2 h3 e3 h4; exact ⟨q, rfl, rfl⟩
 | ok r =>
   subst e1
   simp only [bindR] at h2 ⊢
   rw [← h2]
   cases q2 with
   | error q => left; subst e2 h3 e3 h4; exact ⟨q, rfl, rfl⟩
   | ok d =>
     subst e2
     simp only [bindR] at h3 ⊢
     rw [← h3]
     cases q3 with
     | error q => left; subst e3 h4; exact ⟨q, rfl, rfl⟩
     | ok u =>
       subst e3
       simp only [bindR] at h4 ⊢
       rw [← h4]
       cases q4 with
       | error q => left; exact ⟨q, rfl, rfl⟩
       | ok b => right; exact ⟨b, rfl, rfl⟩
theorem rule_rf {w : World} {R : Nat} {v : Value} {n : Nat} {l : List UInt8} {x : Ix} {O0 : Rs Nat} {q1 q2 q3 : Rs (List UInt8 × Nat)} {q4 : Rs (Bool × Nat)} (h : (∃ e, q4 = .error e ∧ rulO l x O0 = .error e) ∨ (∃ b, q4 = .ok b ∧ rulO l x O0 = .ok ⟨9, textS q2, textS q3, ⟨#[]⟩, [], ⟨#[]⟩, textS q1, b.1⟩)) (hr : RfQ w R v n q4) : RfQ w R v n (rulO l x O0) := by
 rcases h with ⟨e, h1, h2⟩ | ⟨b, h1, h2⟩
 · rw [h2]; rw [h1] at hr; exact hr
 · rw [h2]; rw [h1] at hr; exact hr
theorem rule_keep {S : Nat → Prop} {w : World} {l : List UInt8} {x : Ix} {O0 : Rs Nat} {q1 q2 q3 : Rs (List UInt8 × Nat)} {q4 : Rs (Bool × Nat)} {dn : Bool} (h : (∃ e, q4 = .error e ∧ rulO l x O0 = .error e) ∨ (∃ b, q4 = .ok b ∧ rulO l x O0 = .ok ⟨9, textS q2, textS q3, ⟨#[]⟩, [], ⟨#[]⟩, textS q1, b.1⟩)) (hd : ∀ b, q4 = .ok b → dn = b.1) (hz1 : (textS q1).size ≤ 281474976710656) (hz2 : (textS q2).size ≤ 281474976710656) (hz3 : (textS q3).size ≤ 281474976710656) (a : OwnF) (ha : rulO l x O0 = .ok a) : FKeep S w ⟨9, none, 0, 0, (textS q2), (textS q3), ⟨#[]⟩, none, 0, 0, ⟨#[]⟩, (textS q1), dn⟩ a .nil := by
 rcases h with ⟨e, h1, h2⟩ | ⟨b, h1, h2⟩
 · rw [h2] at ha; cases ha
 · rw [h2] at ha
   simp only [Except.ok.injEq] at ha
   subst ha
   have hb := hd b h1
   subst hb
   exact fun W _ => ⟨⟨rfl, rfl, rfl, rfl, rfl, rfl, rfl, ⟨hz2, hz3, Nat.zero_le _, Nat.zero_le _, hz1⟩, ssl_nil rfl (Nat.zero_le _), (fun s hs => by cases hs), by show (-128 : Int) ≤ 9 ∧ (9 : Int) ≤ 127; decide⟩, fkids_nil _ _ _ _ _ _ _ _ _ _ _⟩

set_option maxRecDepth 100000 in
set_option maxHeartbeats 8000000 in
theorem dRule_any (w : World) (B R : Nat) (v : Value) (l : List UInt8) (n : Nat) (x : Ix) (m : Nat) (hc : DC w B R v l x) (h : DO w B R v l n x (.ok m) id) (hp : 0 < l.length) :
   Calls Tryz.prog 63 #[.pointer (some ⟨R, 0, none⟩), .pointer (some ⟨B, 0, none⟩)] w fun e w' => ∃ f : F9, e = .returned (.agg f.arr) ∧ RfQ w' R v n (ruleR l (x.to m)) ∧ (∀ a, ruleR l (x.to m) = .ok a → FKeep (news w w') w' f a .nil) ∧ Only (fun g => g = R ∨ g = B) w w' := by
 obtain ⟨s0, hh⟩ := fs_begin w B R v l n x (.ok m) 9 hc h hp
 have hRu : Hid (ruleR l (x.to m) = rulO l x (.ok m)) := (rulO_is l x m).symm
 generalize ruleR l (x.to m) = Q at hRu ⊢
 obtain ⟨O0, hO0⟩ : ∃ O : Rs Nat, Hid (O = .ok m) := ⟨_, rfl⟩
 rw [← hO0.out] at s0
 clear hc h
 go_enter Tryz.func63, Tryz.ntmps63
 go_upto_region 2 with fail
 generalize World.alloc (World.alloc w _) _ = w0 at s0 ⊢
 obtain ⟨F, hF⟩ : ∃ F, Hid (F = w.heap.size + 1) := ⟨_, rfl⟩
 obtain ⟨Z, hZ⟩ : ∃ Z, Hid (Z = w.heap.size) := ⟨_, rfl⟩
 rw [← hF.out] at s0 hh ⊢
 rw [← hZ.out] at s0 hh ⊢
 have hPk := dPeek_any _ B R v l n x _ s0.dc s0.d
 go_wp2_with fail
 go_at_call 85
 refine hPk.mono ?_
 rintro _ w0a ⟨rfl, hd0, o0⟩
 have s0a := s0.step hh o0 hd0
 clear hPk hd0 o0
 go_upto_if 14 with fail
 go_cut [] from 14 to 17 (fun wx => ∃ q : Rs (List UInt8 × Nat), Hid (q = optO l x 129 O0) ∧ (textS q).size ≤ 281474976710656 ∧ FS w wx B R Z F v l n x ⟨9, none, 0, 0, ⟨#[]⟩, ⟨#[]⟩, ⟨#[]⟩, none, 0, 0, ⟨#[]⟩, (textS q), false⟩ q (·.2))
 case first =>
   by_cases hk : peekK l x O0 = (129 : Nat)
   · have hy := opt_yes (show 129 % 64 < 32 by decide) hk
     have hT := dText_any _ B R v l n x _ 129 s0a.dc s0a.d
     have hz := textO_size l x 129 (peekO l x O0)
     rw [hy] at hT hz
     have hkb : (peekK l x O0 == 129) = true := by rw [hk]; rfl
     clear hk hy
     generalize hq : optO l x 129 O0 = q at hT hz
     have hqh : Hid (q = optO l x 129 O0) := hq.symm
     clear hq
     go_wp2_with fail
     go_at_call 61
     refine hT.mono ?_
     rintro _ w0b ⟨rfl, hd, o⟩
     have s0b := s0a.step hh o hd
     clear hT hd o s0a s0
     obtain ⟨-, -, c2, c3, -, -, -, c7, -, fz⟩ := s0b.fl.cells
     simp only at c2 c3 c7
     have fz1 := fz 7
     go_wp2
     go_meet
     exact ⟨q, hqh, hz, s0b.store hh (s0b.fl.set7 _)⟩
   · have hn := opt_no (tag := 129) hk
     have hkb : (peekK l x O0 == 129) = false := by simp only [beq_eq_false_iff_ne, ne_eq]; exact hk
     clear hk
     have hD : DO w0a B R v l n x (optO l x 129 O0) (·.2) := by rw [← hn]; exact DO.map s0a.d (fun _ => rfl)
     have he : textS (optO l x 129 O0) = ⟨#[]⟩ := by rw [← hn]; cases peekO l x O0 <;> rfl
     have s0b := s0a.to hD
     generalize hq : optO l x 129 O0 = q at hD he s0b
     have hqh : Hid (q = optO l x 129 O0) := hq.symm
     have heh : Hid (textS q = ⟨#[]⟩) := he
     clear hq hn hD s0a s0 he
     go_wp2
     go_meet
     exact ⟨q, hqh, by rw [heh.out]; exact Nat.zero_le _, by rw [heh.out]; exact s0b⟩
 case rest =>
 clear s0a
 obtain ⟨q1, hq1, hzq1, s1⟩ := hcut
 have d1 : DO wc B R v l n x (bindR q1 fun r => .ok r.2) id := DO.map s1.d (fun _ => rfl)
 have s1 := s1.to d1
 obtain ⟨O1, hO1⟩ : ∃ O, Hid (O = bindR q1 fun r => .ok r.2) := ⟨_, rfl⟩
 rw [← hO1.out] at s1
 clear d1 s0
 obtain ⟨w1, hw⟩ : ∃ w1, w1 = wc := ⟨_, rfl⟩
 subst hw
 have hPk := dPeek_any _ B R v l n x _ s1.dc s1.d
 go_wp2_with fail
 go_at_call 85
 refine hPk.mono ?_
 rintro _ w1a ⟨rfl, hd1, o1⟩
 have s1a := s1.step hh o1 hd1
 clear hPk hd1 o1
 go_upto_if 20 with fail
 go_cut [] from 20 to 23 (fun wx => ∃ q : Rs (List UInt8 × Nat), Hid (q = optO l x 130 O1) ∧ (textS q).size ≤ 281474976710656 ∧ FS w wx B R Z F v l n x ⟨9, none, 0, 0, (textS q), ⟨#[]⟩, ⟨#[]⟩, none, 0, 0, ⟨#[]⟩, (textS q1), false⟩ q (·.2))
 case first =>
   by_cases hk : peekK l x O1 = (130 : Nat)
   · have hy := opt_yes (show 130 % 64 < 32 by decide) hk
     have hT := dText_any _ B R v l n x _ 130 s1a.dc s1a.d
     have hz := textO_size l x 130 (peekO l x O1)
     rw [hy] at hT hz
     have hkb : (peekK l x O1 == 130) = true := by rw [hk]; rfl
     clear hk hy
     generalize hq : optO l x 130 O1 = q at hT hz
     have hqh : Hid (q = optO l x 130 O1) := hq.symm
     clear hq
     go_wp2_with fail
     go_at_call 61
     refine hT.mono ?_
     rintro _ w1b ⟨rfl, hd, o⟩
     have s1b := s1a.step hh o hd
     clear hT hd o s1a s1
     obtain ⟨-, -, c2, c3, -, -, -, c7, -, fz⟩ := s1b.fl.cells
     simp only at c2 c3 c7
     have fz1 := fz 2
     go_wp2
     go_meet
     exact ⟨q, hqh, hz, s1b.store hh (s1b.fl.set2 _)⟩
   · have hn := opt_no (tag := 130) hk
     have hkb : (peekK l x O1 == 130) = false := by simp only [beq_eq_false_iff_ne, ne_eq]; exact hk
     clear hk
     have hD : DO w1a B R v l n x (optO l x 130 O1) (·.2) := by rw [← hn]; exact DO.map s1a.d (fun _ => rfl)
     have he : textS (optO l x 130 O1) = ⟨#[]⟩ := by rw [← hn]; cases peekO l x O1 <;> rfl
     have s1b := s1a.to hD
     generalize hq : optO l x 130 O1 = q at hD he s1b
     have hqh : Hid (q = optO l x 130 O1) := hq.symm
     have heh : Hid (textS q = ⟨#[]⟩) := he
     clear hq hn hD s1a s1 he
     go_wp2
     go_meet
     exact ⟨q, hqh, by rw [heh.out]; exact Nat.zero_le _, by rw [heh.out]; exact s1b⟩
 case rest =>
 clear s1a
 obtain ⟨q2, hq2, hzq2, s2⟩ := hcut
 have d2 : DO wc B R v l n x (bindR q2 fun r => .ok r.2) id := DO.map s2.d (fun _ => rfl)
 have s2 := s2.to d2
 obtain ⟨O2, hO2⟩ : ∃ O, Hid (O = bindR q2 fun r => .ok r.2) := ⟨_, rfl⟩
 rw [← hO2.out] at s2
 clear d2 s1
 obtain ⟨w2, hw⟩ : ∃ w2, w2 = wc := ⟨_, rfl⟩
 subst hw
 have hT := dText_any _ B R v l n x _ 131 s2.dc s2.d
 have hzq3 := textO_size l x 131 O2
 generalize hq : textO l x 131 O2 = q3 at hT hzq3
 have hq3 : Hid (q3 = textO l x 131 O2) := hq.symm
 clear hq
 go_wp2_with fail
 go_at_call 61
 refine hT.mono ?_
 rintro _ w2b ⟨rfl, hd, o⟩
 have s2b := s2.step hh o hd
 clear hT hd o s2
 obtain ⟨-, -, -, c3, -, -, -, -, -, fz⟩ := s2b.fl.cells
 simp only at c3
 have fz1 := fz 3
 have s3 := s2b.store hh (s2b.fl.set3 (textS q3))
 clear fz s2b
 go_upto_region 7 with fail
 generalize World.setCell w2b ⟨F, 3, none⟩ _ = w3 at s3 ⊢
 clear c3 fz1
 have d3 : DO w3 B R v l n x (bindR q3 fun r => .ok r.2) id := DO.map s3.d (fun _ => rfl)
 have s3 := s3.to d3
 obtain ⟨O3, hO3⟩ : ∃ O, Hid (O = bindR q3 fun r => .ok r.2) := ⟨_, rfl⟩
 rw [← hO3.out] at s3
 clear d3
 have hPk := dPeek_any _ B R v l n x _ s3.dc s3.d
 go_wp2_with fail
 go_at_call 85
 refine hPk.mono ?_
 rintro _ w3a ⟨rfl, hd3, o3⟩
 have s3a := s3.step hh o3 hd3
 clear hPk hd3 o3 s3
 go_upto_if 29 with fail
 go_cut [6, 7, 8, 9, 10] from 29 to 75 (fun _ _ _ _ _ wx => ∃ (q : Rs (Bool × Nat)) (dn : Bool), Hid (q = dnO l x O3) ∧ Hid (∀ b, q = .ok b → dn = b.1) ∧ FS w wx B R Z F v l n x ⟨9, none, 0, 0, (textS q2), (textS q3), ⟨#[]⟩, none, 0, 0, ⟨#[]⟩, (textS q1), dn⟩ q (·.2))
 case first =>
   by_cases hk : peekK l x O3 = (132 : Nat)
   · have hkb : (peekK l x O3 == 132) = true := by rw [hk]; rfl
     obtain ⟨m3, y, hO, hPO, hle, hit, hbt⟩ := peek_tag hk
     have htk : takeR l (x.to m3) 132 = .ok y := by unfold takeR; rw [hle, if_pos rfl, hit]; simp only; rw [if_pos hbt]
     have hcons := take_prim htk (by decide)
     have hyo := (takeR_ok htk).1
     rw [hPO] at s3a
     have hT := dTake_any _ B R v l n x (.ok m3) 132 s3a.dc s3a.d
     rw [show takeO l x 132 (.ok m3) = .ok y from htk] at hT
     have hdn : Hid (dnO l x O3 = bindR (bindR (flagR l y) fun b => .ok (b, y.t.til)) fun b => bindR (endR l (x.to b.2)) fun _ => .ok b) := by
       show _ = _
       rw [hO]; unfold dnO dnR
       show bindR (if (x.to m3).left then _ else _) _ = _
       rw [hle, if_pos rfl, htk]; rfl
     have hfg := flag_cases hyo hcons
     obtain ⟨va, vn, vc, rfl⟩ := s3a.dc.sl.lit
     clear hO hPO hle hit hbt hk htk
     obtain ⟨⟨cls, cons, num, fro, tl⟩, at_, nx⟩ := y
     simp only at hcons hfg hdn
     subst hcons
     go_wp2_with fail
     go_at_call 84
     refine hT.mono ?_
     rintro _ w4 ⟨rfl, hd, o⟩
     have s4 := s3a.step hh o hd
     clear hT hd o s3a
     obtain ⟨b5, x5⟩ := jbox w4 ⟨cls, false, num, fro, tl⟩
     simp only [jV] at b5 x5 ⊢
     go_upto_region 9 with fail
     generalize w4.alloc _ = w5 at b5 x5 ⊢
     obtain ⟨A, hA⟩ : ∃ A, Hid (A = w4.heap.size) := ⟨_, rfl⟩
     rw [← hA.out] at b5 ⊢
     have s5 := s4.ext x5
     clear s4 x5
     obtain ⟨t0, t1, t2, t3, t4⟩ := tcells b5
     have e0 := s5.d.1.cells.1
     have hFl := fun W (y : Ext w5 W) => rFlag_any W _ l cls false num fro tl (s5.dc.sl.ext y)
     simp only [iv] at hFl
     have hmix : Tryz.prog.follows Departure.mixedOrders = true := by kernel_rfl
     generalize flagV l false fro tl = fv at hFl hfg
     generalize flagE l false fro tl = fe at hFl hfg
     go_region_held3 (fun W => W.cell? ⟨R, 0, none⟩ = some (.slice va vn vc) ∧ W.cell? ⟨A, 0, none⟩ = some (.int .i8 cls) ∧ W.cell? ⟨A, 1, none⟩ = some (.bool false) ∧ W.cell? ⟨A, 2, none⟩ = some (.int .i64 num) ∧ W.cell? ⟨A, 3, none⟩ = some (.int .i64 fro) ∧ W.cell? ⟨A, 4, none⟩ = some (.int .i64 tl)) (first | exact ⟨k0, k1, k2, k3, k4, k5⟩ | go_keep) ((go_at_call 86; refine (hFl _ (Ext.refl w5).drew).mono ?_; rintro _ w6 ⟨rfl, x6⟩; have k0 := x6.cell e0; have k1 := x6.cell t0; have k2 := x6.cell t1; have k3 := x6.cell t2; have k4 := x6.cell t3; have k5 := x6.cell t4))
     have s6 := s5.ext ((Ext.refl w5).drew.trans x6)
     clear hFl k0 k1 k2 k3 k4 k5 x6 t0 t1 t2 t3 t4 e0 b5 s5 hmix
     go_upto_if 46 with fail
     go_cut [] from 46 to 49 (fun wx => FS w wx B R Z F (.slice va vn vc) l n x ⟨9, none, 0, 0, (textS q2), (textS q3), ⟨#[]⟩, none, 0, 0, ⟨#[]⟩, (textS q1), false⟩ (bindR (flagR l ⟨⟨cls, false, num, fro, tl⟩, at_, nx⟩) fun b => .ok (b, tl)) (·.2))
     case first =>
       rcases hfg with ⟨rfl, hfr⟩ | ⟨rfl, hfr⟩
       · have hfh : Hid _ := hfr
         clear hfr
         have s7 : FS w w6 B R Z F (.slice va vn vc) l n x ⟨9, none, 0, 0, (textS q2), (textS q3), ⟨#[]⟩, none, 0, 0, ⟨#[]⟩, (textS q1), false⟩ (.ok (fv, tl) : Rs (Bool × Nat)) (·.2) := s6.to s6.d
         have s7h : Hid _ := s7
         clear s6 s7
         go_wp2
         go_meet
         rw [hfh.out]
         exact s7h.out
       · have hfh : Hid _ := hfr
         clear hfr
         have hF := dFail_any w6 R (.slice va vn vc) n 0 0 22 at_ s6.d.1
         have hBR := s6.dc.ne
         go_wp2_with fail
         go_at_call 57
         refine hF.mono ?_
         rintro _ w7 ⟨rfl, r7, o7⟩
         go_wp2
         go_meet
         rw [hfh.out]
         exact s6.step (o' := (.error (22, (at_ : Int)) : Rs (Bool × Nat))) (p' := (·.2)) hh (o7.mono fun _ _ h => .inl h) ⟨show (22 : Nat) ≠ 0 by decide, r7, _, s6.d.2.1.only o7 hBR⟩
     case rest =>
     have s7 := hcut
     clear hcut s6
     obtain ⟨w7, hw⟩ : ∃ w7, w7 = wc := ⟨_, rfl⟩
     subst hw
     generalize hq7 : (bindR (flagR l ⟨⟨cls, false, num, fro, tl⟩, at_, nx⟩) fun b => .ok (b, tl) : Rs (Bool × Nat)) = q7 at s7 hdn
     have hfv : Hid (∀ b, q7 = .ok b → fv = b.1) := by
       intro b hb
       rw [← hq7] at hb
       rcases hfg with ⟨-, hfr⟩ | ⟨-, hfr⟩
       · rw [hfr] at hb; simp only [bindR, Except.ok.injEq] at hb; rw [← hb]
       · rw [hfr] at hb; cases hb
     clear hq7 hfg
     obtain ⟨-, -, -, -, -, -, -, -, c8, fz⟩ := s7.fl.cells
     simp only at c8
     have fz8 := fz 8
     have s8 := s7.store hh (s7.fl.set8 fv)
     clear fz s7
     go_upto_region 13 with fail
     generalize World.setCell w7 ⟨F, 8, none⟩ _ = w8 at s8 ⊢
     clear c8 fz8
     have d8 : DO w8 B R (.slice va vn vc) l n x (bindR q7 fun r => .ok r.2) id := DO.map s8.d (fun _ => rfl)
     have hOv := dOver_any _ B R _ l n x _ s8.dc d8
     clear d8
     go_wp2_with fail
     go_at_call 59
     refine hOv.mono ?_
     rintro _ w9 ⟨rfl, d9, o9⟩
     have s9 := s8.step hh o9 d9
     clear hOv d9 o9 s8
     go_wp2
     go_meet
     have hD : DO w9 B R (.slice va vn vc) l n x (dnO l x O3) (·.2) := by
       rw [hdn.out]
       have := s9.d
       cases q7 with
       | error q => exact this
       | ok b =>
         unfold overO at this
         simp only [bindR] at this ⊢
         cases he : endR l (x.to b.2) with
         | error q => rw [he] at this; exact this
         | ok _ => rw [he] at this; exact this
     refine ⟨dnO l x O3, fv, rfl, ?_, s9.to hD⟩
     intro b hb
     rw [hdn.out] at hb
     cases hq : q7 with
     | error q => rw [hq] at hb; cases hb
     | ok c =>
       have h1 := hfv.out c hq
       rw [hq] at hb
       simp only [bindR] at hb
       cases he : endR l (x.to c.2) with
       | error q => rw [he] at hb; cases hb
       | ok _ => rw [he] at hb; simp only [Except.ok.injEq] at hb; rw [← hb]; exact h1
   · have hkb : (peekK l x O3 == 132) = false := by simp only [beq_eq_false_iff_ne, ne_eq]; exact hk
     have hno := dn_no (l := l) (x := x) (o := O3) hk
     have hRl := hh.r
     clear hk
     cases hPO : peekO l x O3 with
     | error q =>
       rw [hPO] at s3a hno
       obtain ⟨h0, h1, m3, h2⟩ := s3a.d
       have hnq : Hid (dnO l x O3 = .error q) := hno
       obtain ⟨c0, c1, c2, c3, cz⟩ := h1.cells
       obtain ⟨e0, e1, e2, e3, ez⟩ := h2.cells
       have hb : ((q.1 : Int) == 0) = false := by simp only [beq_eq_false_iff_ne, ne_eq]; omega
       have s4 : FS w w3a B R Z F v l n x ⟨9, none, 0, 0, (textS q2), (textS q3), ⟨#[]⟩, none, 0, 0, ⟨#[]⟩, (textS q1), false⟩ (.error q : Rs (Bool × Nat)) (·.2) := s3a.to s3a.d
       have s4h : Hid _ := s4
       clear h0 c0 c1 c3 cz e0 e3 ez hPO s3a h1 h2 s4 hno
       go_wp2_with fail
       go_quiet (fail)
       go_wp2
       go_meet
       exact ⟨.error q, false, hnq.out.symm, (fun b hb => by cases hb), s4h.out.ext ((Ext.refl _).drewN _)⟩
     | ok m3 =>
       rw [hPO] at s3a hno
       obtain ⟨h1, h2, h3⟩ := s3a.d
       obtain ⟨c0, c1, c2, c3, cz⟩ := h1.cells
       obtain ⟨e0, e1, e2, e3, ez⟩ := h2.cells
       simp only [Ix.to, id] at e1 e2
       obtain ⟨p1, p2, p3, p4⟩ := h3
       simp only [Ix.to, id] at p1 p2 p3 p4
       simp only at hno
       by_cases hlt : m3 < x.t.til
       · rw [if_pos hlt] at hno
         have hnq : Hid (dnO l x O3 = .error (20, m3)) := hno
         have hne : ((m3 : Int) != (x.t.til : Int)) = true := by simp; omega
         have s4h : Hid _ := s3a
         have hF := fun W (y : Ext w3a W) => dFail_any W R v n 0 0 20 m3 (h1.ext y)
         have hBR := s3a.dc.ne
         clear c0 c1 c3 cz e0 e3 ez hPO hno p1 p2 p3 p4 hlt s3a h1 h2
         go_wp2_with fail
         go_quiet (fail)
         go_upto_region 15 with fail
         generalize hw1 : w3a.drewN _ = w4
         have y4 : Ext w3a w4 := hw1 ▸ (Ext.refl w3a).drewN _
         have e1 := y4.cell e1
         clear hw1
         go_wp2_with fail
         go_at_call 57
         refine (hF _ y4).mono ?_
         rintro _ w5 ⟨rfl, r5, o5⟩
         go_wp2
         go_meet
         have s5 := (s4h.out.ext y4).step (o' := (.error (20, (m3 : Int)) : Rs (Bool × Nat))) (p' := (·.2)) hh (o5.mono fun _ _ h => .inl h) ⟨show (20 : Nat) ≠ 0 by decide, r5, m3, (s4h.out.d.2.1.ext y4).only o5 hBR⟩
         exact ⟨_, false, hnq.out.symm, (fun b hb => by cases hb), s5⟩
       · rw [if_neg hlt] at hno
         have hnq : Hid (dnO l x O3 = .ok (false, m3)) := hno
         have hne : ((m3 : Int) != (x.t.til : Int)) = false := by simp; omega
         have s4 : FS w w3a B R Z F v l n x ⟨9, none, 0, 0, (textS q2), (textS q3), ⟨#[]⟩, none, 0, 0, ⟨#[]⟩, (textS q1), false⟩ (.ok (false, m3) : Rs (Bool × Nat)) (·.2) := s3a.to s3a.d
         have s4h : Hid _ := s4
         clear c0 c1 c3 cz e0 e3 ez hPO hno p1 p2 p3 p4 hlt s3a h1 h2 s4
         go_wp2_with fail
         go_quiet (fail)
         go_wp2
         go_meet
         exact ⟨_, false, hnq.out.symm, (fun b hb => by cases hb; rfl), s4h.out.ext ((Ext.refl _).drewN _)⟩
 case rest =>
 obtain ⟨q4, dn, hq4, hdn, s4⟩ := hcut
 clear s3a
 obtain ⟨c0, c1, c2, c3, c4, c5, c6, c7, c8, fz⟩ := s4.fl.cells
 simp only at c0 c1 c2 c3 c4 c5 c6 c7 c8
 obtain ⟨d0, d1, d2, d3, d4, d5, d6, d7, d8, dz⟩ := s4.zl.cells
 have dz0 := dz 0
 have dz1 := dz 1
 have dz2 := dz 2
 have dz3 := dz 3
 have dz4 := dz 4
 have dz5 := dz 5
 have dz6 := dz 6
 have dz7 := dz 7
 have dz8 := dz 8
 have hZF := hh.ne
 have hZn := hh.z
 have hBn := hh.b
 have hRn := hh.r
 have f10 := s4.zl.put ⟨9, none, 0, 0, (textS q2), (textS q3), ⟨#[]⟩, none, 0, 0, ⟨#[]⟩, (textS q1), dn⟩
 have o10 := put_only wc Z ⟨9, none, 0, 0, (textS q2), (textS q3), ⟨#[]⟩, none, 0, 0, ⟨#[]⟩, (textS q1), dn⟩
 have o11 := s4.on.trans (o10.mono fun g _ hg => .inr (by omega))
 have hst := rule_steps hq1.out hO1.out hq2.out hO2.out hq3.out hO3.out hq4.out
 have hRf : Hid (RfQ (putF wc Z ⟨9, none, 0, 0, (textS q2), (textS q3), ⟨#[]⟩, none, 0, 0, ⟨#[]⟩, (textS q1), dn⟩) R v n Q) := by
   show RfQ _ R v n Q
   rw [hRu.out, ← hO0.out]
   exact rule_rf hst (s4.d.only o10 (by omega) (by omega)).rf
 have hFk : Hid (∀ a, Q = .ok a → FKeep (news w (putF wc Z ⟨9, none, 0, 0, (textS q2), (textS q3), ⟨#[]⟩, none, 0, 0, ⟨#[]⟩, (textS q1), dn⟩)) (putF wc Z ⟨9, none, 0, 0, (textS q2), (textS q3), ⟨#[]⟩, none, 0, 0, ⟨#[]⟩, (textS q1), dn⟩) ⟨9, none, 0, 0, (textS q2), (textS q3), ⟨#[]⟩, none, 0, 0, ⟨#[]⟩, (textS q1), dn⟩ a .nil) := by
   intro a ha
   rw [hRu.out, ← hO0.out] at ha
   exact rule_keep hst hdn.out hzq1 hzq2 hzq3 a ha
 clear hst
 have hend : ∀ tm : Array Value, tm.getD 4 undef = .pointer (some ⟨Z, 0, none⟩) → bodyPost Tryz.prog Tryz.f63 (fun e w' => ∃ f : F9, e = .returned (.agg f.arr) ∧ RfQ w' R v n Q ∧ (∀ a, Q = .ok a → FKeep (news w w') w' f a .nil) ∧ Only (fun g => g = R ∨ g = B) w w') .ret ⟨tm, []⟩ (putF wc Z ⟨9, none, 0, 0, (textS q2), (textS q3), ⟨#[]⟩, none, 0, 0, ⟨#[]⟩, (textS q1), dn⟩) := by
   intro tm htm
   refine bodyPost_ret (results_f rfl _ _ Z _ rfl htm f10) rfl ?_
   exact ⟨_, rfl, hRf.out, hFk.out, o11⟩
 have hendh : Hid _ := hend
 clear hend hFk hRf f10 o10 o11 s4 dz fz hq1 hq2 hq3 hq4 hdn hO0 hO1 hO2 hO3 hRu hzq1 hzq2 hzq3 hBn hRn hZn hh
 go_wp2
 exact hendh.out _ rfl
end Go.Proofs.YthjgfpkmfmoheaaGreatDoor

/-
 The document's own reader of packets, plain: the pieces of a part, step by step.
-/
namespace Go.Proofs.YthjgfpkmfmoheaaGreatDoor
open Go.RowKit Go.Shelf

def needO (z : Ix) : Rs Nat := bindR (needR z) fun _ => .ok z.t.fro
def midO (l : List UInt8) (z : Ix) (o : Rs Nat) : Rs (List ByteArray × Nat) := bindR o fun m => midsA l (z.t.til + 1) (z.to m) []
def lastE (l : List UInt8) (z : Ix) (o : Rs Nat) : Rs (List UInt8 × Nat) := bindR o fun m => bindR (lastR l (z.to m)) fun c => bindR (endR l (z.to c.2)) fun _ => .ok c
def prtO (l : List UInt8) (x : Ix) (o : Rs Nat) : Rs OwnF :=
 bindR (textO l x 4 o) fun d => bindR (takeO l x 48 (.ok d.2)) fun z => bindR (optO l z 128 (needO z)) fun a => bindR (midO l z (.ok a.2)) fun b => bindR (lastE l z (.ok b.2)) fun c => bindR (overO l x (.ok z.t.til)) fun _ => .ok (partO d.1 (a.1, b.1, c.1))
theorem prtO_is (l : List UInt8) (x : Ix) (m : Nat) : prtO l x (.ok m) = partR l (x.to m) := by
 unfold prtO partR
 simp only [text_must (show 4 % 64 < 32 by decide)]
 show bindR (bindR (takeR l (x.to m) 4) _) _ = bindR (takeR l (x.to m) 4) _
 cases takeR l (x.to m) 4 with
 | error q => rfl
 | ok y =>
   show bindR (bindR (textR l y) _) _ = bindR (textR l y) _
   cases textR l y with
   | error q => rfl
   | ok d =>
     show bindR (takeR l (x.to y.t.til) 48) _ = bindR (takeR l (x.to y.t.til) 48) _
     cases hz : takeR l (x.to y.t.til) 48 with
     | error q => rfl
     | ok z =>
       have hzn := (takeR_ok hz).2.2.2.2.1
       have hzz : z.to z.t.fro = z := by
         obtain ⟨t, a, n⟩ := z
         simp only at hzn
         subst hzn
         rfl
       show bindR (optO l z 128 (needO z)) _ = bindR (piecesR l z) _
       unfold piecesR needO optO
       cases needR z with
       | error q => rfl
       | ok _ =>
         show bindR (optR l (z.to z.t.fro) 128) _ = bindR (bindR (firstR l z) _) _
         rw [hzz]
         show bindR (firstR l z) _ = bindR (bindR (firstR l z) _) _
         cases firstR l z with
         | error q => rfl
         | ok a =>
           show bindR (midsA l (z.t.til + 1) (z.to a.2) []) _ = bindR (bindR (midsA l (z.t.til + 1) (z.to a.2) []) _) _
           cases midsA l (z.t.til + 1) (z.to a.2) [] with
           | error q => rfl
           | ok b =>
             show bindR (bindR (lastR l (z.to b.2)) _) _ = bindR (bindR (lastR l (z.to b.2)) _) _
             cases lastR l (z.to b.2) with
             | error q => rfl
             | ok c =>
               show bindR (bindR (endR l (z.to c.2)) _) _ = bindR (bindR (endR l (z.to c.2)) _) _
               cases endR l (z.to c.2) with
               | error q => rfl
               | ok _ =>
                 show bindR (bindR (endR l (x.to z.t.til)) _) _ = bindR (endR l (x.to z.t.til)) _
                 cases endR l (x.to z.t.til) with
                 | error q => rfl
                 | ok _ => rfl
theorem last_no {l : List UInt8} {x : Ix} {o : Rs Nat} (hk : ¬ peekK l x o = (130 : Nat)) : lastE l x o = match peekO l x o with | .error q => .error q | .ok m => if m < x.t.til then .error (20, (m : Int)) else .ok ([], m) := by
 cases o with
 | error q => rfl
 | ok m =>
   unfold lastE lastR peekO
   simp only [peekK, bindR] at hk ⊢
   rcases peek_cases l x m with ⟨h1, h2⟩ | ⟨e, h1, h2, h3⟩ | ⟨y, h1, h2, h3⟩
   · rw [h2, h1]
     have hlt : ¬ m < x.t.til := of_decide_eq_false h1
     simp only [if_neg hlt]
     simp only [Bool.false_eq_true, if_false]
     unfold endR
     rw [show (x.to m).next = m from rfl, h1]
     rfl
   · rw [h3, h1]
     unfold takeR
     rw [h1, h2]
     rfl
   · rw [h3] at hk ⊢
     simp only at hk
     have hlt : m < x.t.til := of_decide_eq_true h1
     obtain ⟨g1, g2, g3, g4, g5, g6⟩ := itemR_ok h2
     rw [h1]
     unfold takeR
     rw [h1, h2]
     simp only [if_true, if_pos hlt]
     rw [if_neg (by omega)]
     have : y.at_ = m := by rw [g3]; rfl
     rw [this]
theorem last_yes {l : List UInt8} {x : Ix} {o : Rs Nat} (hk : peekK l x o = (130 : Nat)) : lastE l x o = bindR (textO l x 130 (peekO l x o)) fun c => bindR (endR l (x.to c.2)) fun _ => .ok c := by
 obtain ⟨m, y, rfl, hP, hle, hit, hbt⟩ := peek_tag hk
 rw [hP, text_must (by decide)]
 unfold lastE lastR
 show bindR (if (x.to m).left then _ else _) _ = _
 rw [hle, if_pos rfl]
 show bindR (bindR (takeR l (x.to m) 130) _) _ = bindR (bindR (takeR l (x.to m) 130) _) _
 cases takeR l (x.to m) 130 with
 | error q => rfl
 | ok y =>
   show bindR (bindR (textR l y) _) _ = bindR (bindR (textR l y) _) _
   cases textR l y with
   | error q => rfl
   | ok s => rfl
theorem part_steps {l : List UInt8} {x z : Ix} {O0 O1 O3 O4 OB : Rs Nat} {q1 q3 q5 : Rs (List UInt8 × Nat)} {q4 : Rs (List ByteArray × Nat)} (h1 : q1 = textO l x 4 O0) (e1 : O1 = bindR q1 fun r => .ok r.2) (h2 : takeO l x 48 O1 = .ok z) (h3 : q3 = optO l z 128 (needO z)) (e3 : O3 = bindR q3 fun r => .ok r.2) (h4 : q4 = midO l z O3) (e4 : O4 = bindR q4 fun r => .ok r.2) (h5 : q5 = lastE l z O4) (h6 : OB = overO l x (bindR q5 fun _ => .ok z.t.til)) :
   (∃ e, OB = .error e ∧ prtO l x O0 = .error e) ∨ (∃ k d a b c, OB = .ok k ∧ q1 = .ok d ∧ q3 = .ok a ∧ q4 = .ok b ∧ q5 = .ok c ∧ prtO l x O0 = .ok (partO d.1 (a.1, b.1, c.1))) := by
 unfold prtO
 rw [← h1]
 cases q1 with
 | error q => subst e1; cases h2
 | ok d =>
   subst e1
   simp only [bindR] at h2 ⊢
   rw [h2]
   simp only
   rw [← h3]
   cases q3 with
   | error q => left; subst e3 h4 e4 h5 h6; exact ⟨q, rfl, rfl⟩
   | ok a =>
     subst e3
     simp only [bindR] at h4 ⊢
     rw [← h4]
     cases q4 with
     | error q => left; subst e4 h5 h6; exact ⟨q, rfl, rfl⟩
     | ok b =>
       subst e4
       simp only [bindR] at h5 ⊢
       rw [← h5]
       cases q5 with
       | error q => left; subst h6; exact ⟨q, rfl, rfl⟩
       | ok c =>
         simp only [bindR] at h6 ⊢
         rw [← h6]
         cases OB with
         | error q => left; exact ⟨q, rfl, rfl⟩
         | ok k => right; exact ⟨k, d, a, b, c, rfl, rfl, rfl, rfl, rfl, rfl⟩
end Go.Proofs.YthjgfpkmfmoheaaGreatDoor

/-
 The document's own reader of packets: what stands while the pieces of a part are read.
-/
namespace Go.Proofs.YthjgfpkmfmoheaaGreatDoor
open Go.RowKit Go.Shelf

def MidI (l : List UInt8) (z : Ix) (QM : Rs (List ByteArray × Nat)) (o : Rs Nat) (acc : List ByteArray) (q : Nat) : Prop :=
 (∃ m k, o = .ok m ∧ QM = midsA l k (z.to m) acc ∧ z.t.til - m < k ∧ z.t.til - m + 2 ≤ q) ∨ (∃ e, o = .error e ∧ QM = .error e ∧ 1 ≤ q)
theorem mid_no {l : List UInt8} {z : Ix} {QM : Rs (List ByteArray × Nat)} {o : Rs Nat} {acc : List ByteArray} {q : Nat} (h : MidI l z QM o acc q) (hk : ¬ peekK l z o = (129 : Nat)) :
   (∃ m, peekO l z o = .ok m ∧ QM = .ok (acc, m)) ∨ (∃ e, peekO l z o = .error e ∧ QM = .error e) := by
 rcases h with ⟨m, k, rfl, hQ, h1, h2⟩ | ⟨e, rfl, hQ, h1⟩
 · obtain ⟨k, rfl⟩ : ∃ j, k = j + 1 := ⟨k - 1, by omega⟩
   rw [midsA] at hQ
   unfold peekO
   simp only [peekK, bindR] at hk ⊢
   rcases peek_cases l z m with ⟨g1, g2⟩ | ⟨e, g1, g2, g3⟩ | ⟨y, g1, g2, g3⟩
   · left
     refine ⟨m, by rw [g2], ?_⟩
     rw [hQ]; unfold comesR; rw [g1]; rfl
   · right
     refine ⟨e, by rw [g3], ?_⟩
     rw [hQ]; unfold comesR; rw [g1, g2]; rfl
   · left
     rw [g3] at hk
     simp only at hk
     have hb : (bAt l y.at_ == 129) = false := by simp; omega
     refine ⟨m, by rw [g3], ?_⟩
     rw [hQ]; unfold comesR; rw [g1, g2]; simp only [if_true, hb]; rfl
 · right
   exact ⟨e, rfl, hQ⟩
theorem mid_yes {l : List UInt8} {z : Ix} {QM : Rs (List ByteArray × Nat)} {o : Rs Nat} {acc : List ByteArray} {q : Nat} (h : MidI l z QM o acc q) (hk : peekK l z o = (129 : Nat)) :
   2 ≤ q ∧ ∃ m, peekO l z o = .ok m ∧ ((∃ e, textO l z 129 (.ok m) = .error e ∧ MidI l z QM (.error e) acc (q - 1)) ∨ (∃ s p, textO l z 129 (.ok m) = .ok (s, p) ∧ MidI l z QM (.ok p) (if s = [] then acc else acc ++ [str s]) (q - 1))) := by
 obtain ⟨m, y, hO, hP, hle, hit, hbt⟩ := peek_tag hk
 rcases h with ⟨m', k, hm, hQ, h1, h2⟩ | ⟨e, he, hQ, h1⟩
 · obtain rfl : m' = m := by rw [hO] at hm; cases hm; rfl
   obtain ⟨k, rfl⟩ : ∃ j, k = j + 1 := ⟨k - 1, by omega⟩
   have hc : comesR l (z.to m') 129 = .ok true := by
     unfold comesR; rw [hle, if_pos rfl, hit]
     simp only [Except.ok.injEq]
     simp; exact hbt
   have htk : takeR l (z.to m') 129 = .ok y := by unfold takeR; rw [hle, if_pos rfl, hit]; simp only; rw [if_pos hbt]
   obtain ⟨⟨y1, y2, y3, y4⟩, -, -, g4, -, g6⟩ := takeR_ok htk
   simp only [Ix.to] at g4 g6
   rw [midsA, hc] at hQ
   simp only [bindR, if_true, htk] at hQ
   refine ⟨by omega, m', hP, ?_⟩
   rw [text_must (by decide)]
   simp only [bindR, htk]
   cases ht : textR l y with
   | error e =>
     left
     rw [ht] at hQ
     exact ⟨e, rfl, .inr ⟨e, rfl, hQ, by omega⟩⟩
   | ok s =>
     right
     rw [ht] at hQ
     exact ⟨s, y.t.til, rfl, .inl ⟨y.t.til, k, rfl, hQ, by omega, by omega⟩⟩
 · rw [hO] at he; cases he
structure PS {α : Type} (w wx : World) (B P R Z F H : Nat) (v : Value) (l : List UInt8) (n : Nat) (x z : Ix) (d s e : ByteArray) (ms : List ByteArray) (o : Rs α) (p : α → Nat) : Prop where
 dc : DC wx P R v l z
 dd : DO wx P R v l n z o p
 bb : BdB wx B R (x.to z.t.til)
 fl : ∃ ma mn mc, FlT wx F ⟨4, none, 0, 0, d, ⟨#[]⟩, s, ma, mn, mc, e, ⟨#[]⟩, false⟩ ∧ RowS wx (fun g => H ≤ g) (.slice ma mn mc) ms
 zl : FlT wx Z F9.zero
 on : Only (fun g => g = R ∨ g = B) w wx
 sz : sized ms
structure PH (w : World) (B P R Z F H : Nat) (v : Value) : Prop where
 z : w.heap.size ≤ Z ∧ Z < H
 f : w.heap.size ≤ F ∧ F < H
 p : w.heap.size ≤ P ∧ P < H
 zf : Z ≠ F
 pf : P ≠ F
 pz : P ≠ Z
 b : B < w.heap.size
 r : R < w.heap.size
 br : B ≠ R
 s : ∀ a n c, v = .slice (some a) n c → a.block < w.heap.size
section
variable {α β : Type} {w wx w' : World} {B P R Z F H : Nat} {v : Value} {l : List UInt8} {n : Nat} {x z : Ix} {d s e : ByteArray} {ms : List ByteArray} {o : Rs α} {p : α → Nat} {o' : Rs β} {p' : β → Nat}
theorem PS.step (h : PS w wx B P R Z F H v l n x z d s e ms o p) (hh : PH w B P R Z F H v) (k : Only (fun g => g = R ∨ g = P) wx w') (dd : DO w' P R v l n z o' p') : PS w w' B P R Z F H v l n x z d s e ms o' p' := by
 obtain ⟨z1, z2⟩ := hh.z
 obtain ⟨f1, f2⟩ := hh.f
 obtain ⟨p1, p2⟩ := hh.p
 have h1 := hh.zf
 have h2 := hh.pf
 have h3 := hh.pz
 have h4 := hh.b
 have h5 := hh.r
 have h6 := hh.br
 obtain ⟨ma, mn, mc, g1, g2⟩ := h.fl
 exact ⟨h.dc.next k, dd, h.bb.only k (by omega), ⟨ma, mn, mc, g1.only k (by omega), Row.kept g2 k (fun g hg hx => by omega)⟩, h.zl.only k (by omega), h.on.trans (k.mono fun g _ hg => by rcases hg with hg | hg; exact .inl (.inl hg); exact .inr (by omega)), h.sz⟩
theorem PS.ext (h : PS w wx B P R Z F H v l n x z d s e ms o p) (y : Ext wx w') : PS w w' B P R Z F H v l n x z d s e ms o p := by
 obtain ⟨ma, mn, mc, g1, g2⟩ := h.fl
 exact ⟨h.dc.ext y, h.dd.only (S := fun _ => False) y.only id id, h.bb.ext y, ⟨ma, mn, mc, g1.ext y, Row.ext g2 y⟩, h.zl.ext y, h.on.ext y, h.sz⟩
theorem PS.to (h : PS w wx B P R Z F H v l n x z d s e ms o p) (dd : DO wx P R v l n z o' p') : PS w wx B P R Z F H v l n x z d s e ms o' p' := ⟨h.dc, dd, h.bb, h.fl, h.zl, h.on, h.sz⟩
theorem PS.store {j : Nat} {u : Value} {s' e' : ByteArray} {ms' : List ByteArray} {ma : Option Addr} {mn mc : Nat} (h : PS w wx B P R Z F H v l n x z d s e ms o p) (hh : PH w B P R Z F H v) (hf : FlT (wx.setCell ⟨F, j, none⟩ u) F ⟨4, none, 0, 0, d, ⟨#[]⟩, s', ma, mn, mc, e', ⟨#[]⟩, false⟩) (hr : RowS wx (fun g => H ≤ g) (.slice ma mn mc) ms') (hz : sized ms') : PS w (wx.setCell ⟨F, j, none⟩ u) B P R Z F H v l n x z d s' e' ms' o p := by
 obtain ⟨z1, z2⟩ := hh.z
 obtain ⟨f1, f2⟩ := hh.f
 obtain ⟨p1, p2⟩ := hh.p
 have h1 := hh.zf
 have h2 := hh.pf
 have h3 := hh.pz
 have h4 := hh.b
 have h5 := hh.r
 have h6 := hh.br
 have k := setOnly wx F j u
 refine ⟨⟨?_, h.dc.ln, h.dc.win, h.dc.ne, h.dc.ap⟩, h.dd.only k (by omega) (by omega), h.bb.only k (by omega), ⟨ma, mn, mc, hf, Row.kept hr k (fun g hg hx => by omega)⟩, h.zl.only k (by omega), h.on.trans (k.mono fun g _ hg => .inr (by omega)), hz⟩
 obtain ⟨a, nn, cap, e⟩ := h.dc.sl.lit
 subst e
 exact h.dc.sl.onlyB k (fun a' e => by
   subst e
   have := hh.s _ _ _ rfl
   omega)
theorem PS.grow {g cap : Nat} {b : ByteArray} (h : PS w wx B P R Z F H v l n x z d s e ms o p) (hh : PH w B P R Z F H v) (hH : H ≤ wx.heap.size) (r : RowS w' (Up (fun g => H ≤ g) wx.heap.size) (.slice (some ⟨g, 0, none⟩) (ms.length + 1) cap) (ms ++ [b])) (k : Only (fun g => H ≤ g) wx w') (hb : b.size ≤ 281474976710656) :
   (∃ ma mn mc, FlT w' F ⟨4, none, 0, 0, d, ⟨#[]⟩, s, ma, mn, mc, e, ⟨#[]⟩, false⟩) ∧ PS w (w'.setCell ⟨F, 5, none⟩ (.slice (some ⟨g, 0, none⟩) (ms.length + 1) cap)) B P R Z F H v l n x z d s e (ms ++ [b]) o p := by
 obtain ⟨z1, z2⟩ := hh.z
 obtain ⟨f1, f2⟩ := hh.f
 obtain ⟨p1, p2⟩ := hh.p
 have h4 := hh.b
 have h5 := hh.r
 obtain ⟨ma, mn, mc, g1, g2⟩ := h.fl
 have g3 := g1.only k (by omega)
 have r2 : RowS w' (fun g => H ≤ g) (.slice (some ⟨g, 0, none⟩) (ms.length + 1) cap) (ms ++ [b]) := Row.wide r (by rintro j (hj | hj) <;> omega)
 have hs' : DC w' P R v l z := by
   refine ⟨?_, h.dc.ln, h.dc.win, h.dc.ne, h.dc.ap⟩
   obtain ⟨a, nn, cap, e⟩ := h.dc.sl.lit
   subst e
   exact h.dc.sl.onlyB k (fun a' e => by
     subst e
     have := hh.s _ _ _ rfl
     omega)
 have hz : sized (ms ++ [b]) := by
   intro y hy
   rcases List.mem_append.1 hy with hy | hy
   · exact h.sz y hy
   · simp only [List.mem_singleton] at hy; subst hy; exact hb
 refine ⟨⟨ma, mn, mc, g3⟩, ?_⟩
 have k2 := setOnly w' F 5 (.slice (some ⟨g, 0, none⟩) (ms.length + 1) cap)
 have h6 := hh.zf
 have h7 := hh.pf
 have h8 := hh.br
 refine ⟨⟨?_, h.dc.ln, h.dc.win, h.dc.ne, h.dc.ap⟩, (h.dd.only k (by omega) (by omega)).only k2 (by omega) (by omega), (h.bb.only k (by omega)).only k2 (by omega), ⟨_, _, _, g3.set5 _ _ _, Row.kept r2 k2 (fun g hg hx => by omega)⟩, (h.zl.only k (by omega)).only k2 (by omega), (h.on.trans (k.mono fun g _ hg => .inr (by omega))).trans (k2.mono fun g _ hg => .inr (by omega)), hz⟩
 obtain ⟨a, nn, cap, e⟩ := h.dc.sl.lit
 subst e
 exact hs'.sl.onlyB k2 (fun a' e => by
   subst e
   have := hh.s _ _ _ rfl
   omega)
end
end Go.Proofs.YthjgfpkmfmoheaaGreatDoor
