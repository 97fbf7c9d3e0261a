/-
  Two writers of the program, two of the document, and the answers that are kept: each block has one owner.
-/
import Derived.Test.YtjannndndbohaaaRlaw
import Derived.Test.YtjannndndbohaaaRfreshW
namespace Go.Proofs.Ytjannndndbohaaa
open Go.RowKit Go.Shelf

def mk0 (l : List UInt8) : Op := ⟨0, 0, l⟩
/-- the owners behind a call: what was there keeps its own -/
def nc (col : Nat → Nat) (W : World) (k : Nat → Nat) : Nat → Nat := fun g => if g < W.heap.size then col g else k g
theorem nc_old {col : Nat → Nat} {W : World} {k : Nat → Nat} {g : Nat} (h : g < W.heap.size) : nc col W k g = col g := if_pos h
theorem nc_new {col : Nat → Nat} {W : World} {k : Nat → Nat} {g : Nat} (h : W.heap.size ≤ g) : nc col W k g = k g := if_neg (by omega)
theorem WrAt.carry {W W' : World} {col k : Nat → Nat} {S : Nat → Prop} {j : Nat} {p : Value} {st : Wr} (h : WrAt W (fun g => col g = j) p st) (ho : Only S W W') (hd : ∀ g, col g = j → ¬ S g) : WrAt W' (fun g => nc col W k g = j) p st :=
  ((h.tight).kept ho (fun g hg => hd g hg.1)).wide (fun g hg => by rw [nc_old hg.2]; exact hg.1)
theorem RfAt.carry {W W' : World} {col k : Nat → Nat} {S : Nat → Prop} {j : Nat} {p : Value} {R : List Op} (h : RfAt W (fun g => col g = j) p R) (ho : Only S W W') (hd : ∀ g, col g = j → ¬ S g) : RfAt W' (fun g => nc col W k g = j) p R :=
  ((h.tight).kept ho (fun g hg => hd g hg.1)).wide (fun g hg => by rw [nc_old hg.2]; exact hg.1)
theorem Row.carry {W W' : World} {col k : Nat → Nat} {S : Nat → Prop} {j : Nat} {e : TypeId} {sz n : Nat} {v : Value} {xs : List Value} (h : Row W (fun g => col g = j) e sz v n xs) (ho : Only S W W') (hd : ∀ g, col g = j → ¬ S g) : Row W' (fun g => nc col W k g = j) e sz v n xs :=
  (Row.kept (⟨h.1, fun g hg => ⟨h.2 g hg, Row.lt h hg⟩⟩ : Row W (fun g => col g = j ∧ g < W.heap.size) e sz v n xs) ho (fun g hg => hd g hg.1)).wide (fun g hg => by rw [nc_old hg.2]; exact hg.1)
theorem Bods.carry {W W' : World} {col k : Nat → Nat} {S : Nat → Prop} {j : Nat} {R : List Op} {bs : List Value} (h : Bods W (fun g => col g = j) R bs) (ho : Only S W W') (hd : ∀ g, col g = j → ¬ S g) : Bods W' (fun g => nc col W k g = j) R bs :=
  (h.tight.kept ho (fun g hg => hd g hg.1)).wide (fun g hg => by rw [nc_old hg.2]; exact hg.1)
theorem Bods.mem_lt {W : World} {S : Nat → Prop} : ∀ {R : List Op} {bs : List Value}, Bods W S R bs → ∀ v ∈ bs, ∀ g, own v g → g < W.heap.size
  | [], [], _, v, hv, _, _ => by simp at hv
  | _ :: _, b :: bs, h, v, hv, g, hg => by
    rcases List.mem_cons.1 hv with rfl | h2
    · exact Row.lt h.1 hg
    · exact Bods.mem_lt h.2.2 v h2 g hg

structure St (w0 : World) (col : Nat → Nat) (W : World) (p q r s : Value) (Rp Rq Rr Rs : List Op) (t u : Value) (vs us : List Value) (ls : List (List UInt8)) : Prop where
  ext : Ext w0 W
  c0 : ∀ g, g < w0.heap.size → col g = 0
  hp : ∃ st, WrAt W (fun g => col g = 1) p st ∧ Same Rp st
  hq : ∃ st, WrAt W (fun g => col g = 2) q st ∧ Same Rq st
  hr : RfAt W (fun g => col g = 3) r Rr
  hs : RfAt W (fun g => col g = 4) s Rs
  ht : RowV W (fun g => col g = 5) t vs.reverse
  hv : Bods W (fun g => col g = 6) (ls.map mk0) vs
  hu : RowV W (fun g => col g = 7) u us.reverse
  hw : Bods W (fun g => col g = 8) (ls.map mk0) us
  f : (Fine Rp ∧ Fine Rq) ∧ (Fine Rr ∧ Fine Rs) ∧ Tags Rr ∧ Tags Rs
  l30 : ls.length ≤ 30
  l16 : ∀ l ∈ ls, 0 < l.length ∧ l.length < 65536
def sw (n : Nat) : Nat := if n = 1 then 2 else if n = 2 then 1 else if n = 3 then 4 else if n = 4 then 3 else n
theorem St.swap {w0 W : World} {col : Nat → Nat} {p q r s t u : Value} {Rp Rq Rr Rs : List Op} {vs us : List Value} {ls : List (List UInt8)} (h : St w0 col W p q r s Rp Rq Rr Rs t u vs us ls) : St w0 (fun g => sw (col g)) W q p s r Rq Rp Rs Rr t u vs us ls := by
  obtain ⟨st1, h1, e1⟩ := h.hp
  obtain ⟨st2, h2, e2⟩ := h.hq
  exact ⟨h.ext, fun g hg => by rw [h.c0 g hg]; rfl, ⟨st2, h2.wide (fun g hg => by rw [hg]; rfl), e2⟩, ⟨st1, h1.wide (fun g hg => by rw [hg]; rfl), e1⟩, h.hs.wide (fun g hg => by rw [hg]; rfl), h.hr.wide (fun g hg => by rw [hg]; rfl),
    Row.wide h.ht (fun g hg => by rw [hg]; rfl), h.hv.wide (fun g hg => by rw [hg]; rfl), Row.wide h.hu (fun g hg => by rw [hg]; rfl), h.hw.wide (fun g hg => by rw [hg]; rfl), ⟨⟨h.f.1.2, h.f.1.1⟩, ⟨h.f.2.1.2, h.f.2.1.1⟩, h.f.2.2.2, h.f.2.2.1⟩, h.l30, h.l16⟩
theorem St.ext0 {w0 W W' : World} {col : Nat → Nat} {i : Nat} (he : Ext w0 W) (hc : ∀ g, g < w0.heap.size → col g = 0) (ho : Only (fun g => col g = i) W W') (hi : i ≠ 0) : Ext w0 W' :=
  Below.trans he ⟨ho.os, ho.tape, ho.output, ho.size, fun g hg => ho.block g (Nat.lt_of_lt_of_le hg he.size) (fun e => hi (by rw [← e]; exact hc g hg))⟩

/-- what a call told, apart from what was kept -/
structure Ans (W : World) (col : Nat → Nat) (j : Nat) (a : Value) (l : List UInt8) (vs : List Value) : Prop where
  row : RowB W (fun g => col g = j) a l
  ap : ∀ g, own a g → ∀ v ∈ vs, ¬ own v g

theorem St.stepP {w0 W : World} {col : Nat → Nat} {p q r s t u : Value} {Rp Rq Rr Rs : List Op} {vs us : List Value} {ls : List (List UInt8)} (h : St w0 col W p q r s Rp Rq Rr Rs t u vs us ls) (d c n v : Int) (z : ByteArray) (hv1 : -9223372036854775808 ≤ v) (hv2 : v < 9223372036854775808) (hsz : z.size ≤ 140737488355328) :
    Calls Try.prog 28 #[p, sv d c n v z] W fun x W' => ∃ aa ca col', x = .returned (.tuple #[.slice aa (stB Rp d).length ca, .int .i64 (stE Rp d c n v z)]) ∧ St w0 col' W' p q r s (stR Rp d c n v z) Rq Rr Rs t u vs us ls ∧ Ans W' col' 6 (.slice aa (stB Rp d).length ca) (stB Rp d) vs := by
  obtain ⟨st, h1, e1⟩ := h.hp
  obtain ⟨st2, h2, e2⟩ := h.hq
  refine (step_any W _ p Rp st d c n v z h1 e1 h.f.1.1 hv1 hv2 hsz).mono ?_
  rintro _ W' ⟨a, st', S', rfl, ⟨e', f'⟩, hS', hw', ha, hap, ho⟩
  obtain ⟨aa, ca, rfl⟩ := row_slice ha
  have hlt := fun g hg => Row.lt ha (k := g) hg
  let k : Nat → Nat := fun g => if (Value.slice aa (stB Rp d).length ca).ownBlock = some g then 6 else 1
  refine ⟨aa, ca, nc col W k, rfl, ⟨St.ext0 h.ext h.c0 ho (by decide), fun g hg => by rw [nc_old (Nat.lt_of_lt_of_le hg h.ext.size)]; exact h.c0 g hg, ⟨st', hw'.wide (fun g hg => ?_), e'⟩, ⟨st2, h2.carry ho (fun g hg => by simp [hg]), e2⟩,
    h.hr.carry ho (fun g hg => by simp [hg]), h.hs.carry ho (fun g hg => by simp [hg]), Row.carry h.ht ho (fun g hg => by simp [hg]), h.hv.carry ho (fun g hg => by simp [hg]), Row.carry h.hu ho (fun g hg => by simp [hg]), h.hw.carry ho (fun g hg => by simp [hg]), ⟨⟨f', h.f.1.2⟩, h.f.2⟩, h.l30, h.l16⟩, ⟨Row.wide (Row.min ha) (fun g hg => ?_), fun g hg v' hv' hv2 => ?_⟩⟩
  · rcases hS' g hg with h3 | h3
    · by_cases hgw : g < W.heap.size
      · rw [nc_old hgw]; exact h3
      · rw [nc_new (by omega)]
        exact if_neg (fun e => hap g e hg)
    · rw [nc_new h3]
      exact if_neg (fun e => hap g e hg)
  · rw [nc_new (ha.2 g hg)]; exact if_pos hg
  · have := h.hv.mem_lt v' hv' g hv2
    have := ha.2 g hg
    omega

theorem St.shouldR {w0 W : World} {col : Nat → Nat} {p q r s t u a : Value} {Rp Rq Rr Rs : List Op} {vs us : List Value} {ls : List (List UInt8)} {l : List UInt8} (h : St w0 col W p q r s Rp Rq Rr Rs t u vs us ls) (hans : Ans W col 6 a l vs) (d c n v : Int) (z : ByteArray) (hv1 : -9223372036854775808 ≤ v) (hv2 : v < 9223372036854775808) (hsz : z.size ≤ 140737488355328) (hfin : Fine (stR Rr d c n v z)) :
    Calls Try.prog 29 #[r, sv d c n v z] W fun x W' => ∃ aa ca col', x = .returned (.tuple #[.slice aa (stB Rr d).length ca, .int .i64 (stE Rr d c n v z)]) ∧ St w0 col' W' p q r s Rp Rq (stR Rr d c n v z) Rs t u vs us ls ∧ Ans W' col' 6 a l vs ∧ Ans W' col' 8 (.slice aa (stB Rr d).length ca) (stB Rr d) us := by
  obtain ⟨st, h1, e1⟩ := h.hp
  obtain ⟨st2, h2, e2⟩ := h.hq
  refine (should_any W _ r Rr d c n v z h.hr h.f.2.1.1 h.f.2.2.1 hv1 hv2 hsz).mono ?_
  rintro _ W' ⟨b, S', rfl, hS', hw', ha, hap, ho⟩
  obtain ⟨aa, ca, rfl⟩ := row_slice ha
  let k : Nat → Nat := fun g => if (Value.slice aa (stB Rr d).length ca).ownBlock = some g then 8 else 3
  refine ⟨aa, ca, nc col W k, rfl, ⟨St.ext0 h.ext h.c0 ho (by decide), fun g hg => by rw [nc_old (Nat.lt_of_lt_of_le hg h.ext.size)]; exact h.c0 g hg, ⟨st, h1.carry ho (fun g hg => by simp [hg]), e1⟩, ⟨st2, h2.carry ho (fun g hg => by simp [hg]), e2⟩,
    hw'.wide (fun g hg => ?_), h.hs.carry ho (fun g hg => by simp [hg]), Row.carry h.ht ho (fun g hg => by simp [hg]), h.hv.carry ho (fun g hg => by simp [hg]), Row.carry h.hu ho (fun g hg => by simp [hg]), h.hw.carry ho (fun g hg => by simp [hg]), ⟨h.f.1, ⟨hfin, h.f.2.1.2⟩, tags_step h.f.2.2.1 _ _ _ _ _, h.f.2.2.2⟩, h.l30, h.l16⟩,
    ⟨Row.carry hans.row ho (fun g hg => by simp [hg]), hans.ap⟩, ⟨Row.wide (Row.min ha) (fun g hg => ?_), fun g hg v' hv' hv2 => ?_⟩⟩
  · rcases hS' g hg with h3 | h3
    · by_cases hgw : g < W.heap.size
      · rw [nc_old hgw]; exact h3
      · rw [nc_new (by omega)]
        exact if_neg (fun e => hap g e hg)
    · rw [nc_new h3]
      exact if_neg (fun e => hap g e hg)
  · rw [nc_new (ha.2 g hg)]; exact if_pos hg
  · have := h.hw.mem_lt v' hv' g hv2
    have := ha.2 g hg
    omega

theorem St.keepT {w0 W : World} {col : Nat → Nat} {p q r s t u : Value} {Rp Rq Rr Rs : List Op} {vs us : List Value} {ls : List (List UInt8)} {l : List UInt8} {aa ab : Option Addr} {ca cb : Nat} (h : St w0 col W p q r s Rp Rq Rr Rs t u vs us ls) (hans : Ans W col 6 (.slice aa l.length ca) l vs) (hbns : Ans W col 8 (.slice ab l.length cb) l us) (hl : l.length < 1152921504606846976) :
    Calls Try.prog 30 #[t, u, .slice aa l.length ca, .slice ab l.length cb] W fun x W' => ∃ at1 ct au cu vs' us' ls' col', x = .returned (.tuple #[.slice at1 vs'.length ct, .slice au us'.length cu]) ∧ St w0 col' W' p q r s Rp Rq Rr Rs (.slice at1 vs'.length ct) (.slice au us'.length cu) vs' us' ls' := by
  obtain ⟨st, h1, e1⟩ := h.hp
  obtain ⟨st2, h2, e2⟩ := h.hq
  have hvl := h.hv.len
  have hul := h.hw.len
  simp only [List.length_map] at hvl hul
  refine (keep_any W _ _ t u aa ab l.length l.length ca cb vs.reverse us.reverse h.ht h.hu (fun g hg hg2 => by have e1 := h.ht.2 g hg; have e2 := h.hu.2 g hg2; simp only at e1 e2; omega) (by simp [hvl, h.l30]) (by simp [hul, h.l30]) hl).mono ?_
  rintro _ W' ⟨t', u', rfl, hpost⟩
  obtain ⟨hcase, ho0⟩ := hpost
  have ho : Only (fun g => col g = 5 ∨ col g = 7) W W' := ho0.mono (fun g _ hg => hg.imp (fun h3 => h.ht.2 g h3) (fun h3 => h.hu.2 g h3))
  have hx0 : Ext w0 W' := Below.trans h.ext ⟨ho.os, ho.tape, ho.output, ho.size, fun g hg => ho.block g (Nat.lt_of_lt_of_le hg h.ext.size) (fun e => by have := h.c0 g hg; omega)⟩
  rcases hcase with ⟨hl30, hl0, hl16, hrt, hru, hdis⟩ | ⟨rfl, rfl, hx⟩
  · have e3 : vs.reverse ++ [.slice aa l.length ca] = ((.slice aa l.length ca) :: vs).reverse := by simp
    have e4 : us.reverse ++ [.slice ab l.length cb] = ((.slice ab l.length cb) :: us).reverse := by simp
    rw [e3] at hrt
    rw [e4] at hru
    obtain ⟨at1, ct, rfl⟩ := row_slice hrt
    obtain ⟨au, cu, rfl⟩ := row_slice hru
    simp only [List.length_reverse] at hrt hru hdis hl30 ⊢
    let k : Nat → Nat := fun g => if (Value.slice at1 ((Value.slice aa l.length ca) :: vs).length ct).ownBlock = some g then 5 else 7
    refine ⟨at1, ct, au, cu, (.slice aa l.length ca) :: vs, (.slice ab l.length cb) :: us, l :: ls, nc col W k, rfl, ⟨hx0, fun g hg => by rw [nc_old (Nat.lt_of_lt_of_le hg h.ext.size)]; exact h.c0 g hg, ⟨st, h1.carry ho (fun g hg => by omega), e1⟩, ⟨st2, h2.carry ho (fun g hg => by omega), e2⟩,
      h.hr.carry ho (fun g hg => by omega), h.hs.carry ho (fun g hg => by omega), ⟨hrt.1, fun g hg => ?_⟩, ⟨Row.carry hans.row ho (fun g hg => by omega), hans.ap, h.hv.carry ho (fun g hg => by omega)⟩, ⟨hru.1, fun g hg => ?_⟩, ⟨Row.carry hbns.row ho (fun g hg => by omega), hbns.ap, h.hw.carry ho (fun g hg => by omega)⟩, h.f, ?_, ?_⟩⟩
    · rcases hrt.2 g hg with h3 | h3
      · by_cases hgw : g < W.heap.size
        · rw [nc_old hgw]; exact h3
        · rw [nc_new (by omega)]; exact if_pos hg
      · rw [nc_new h3]; exact if_pos hg
    · rcases hru.2 g hg with h3 | h3
      · by_cases hgw : g < W.heap.size
        · rw [nc_old hgw]; exact h3
        · rw [nc_new (by omega)]; exact if_neg (fun e => hdis g e hg)
      · rw [nc_new h3]; exact if_neg (fun e => hdis g e hg)
    · simp; omega
    · intro l' hl'
      rcases List.mem_cons.1 hl' with rfl | h3
      · exact ⟨hl0, hl16⟩
      · exact h.l16 l' h3
  · obtain ⟨at1, ct, et⟩ := row_slice h.ht
    obtain ⟨au, cu, eu⟩ := row_slice h.hu
    rw [List.length_reverse] at et eu
    subst et eu
    refine ⟨at1, ct, au, cu, vs, us, ls, col, rfl, ⟨hx0, h.c0, ⟨st, h1.ext hx, e1⟩, ⟨st2, h2.ext hx, e2⟩, h.hr.ext hx, h.hs.ext hx, Row.ext h.ht hx, ?_, Row.ext h.hu hx, ?_, h.f, h.l30, h.l16⟩⟩
    · exact h.hv.kept (S' := fun _ => False) hx.only (fun _ _ hf => hf)
    · exact h.hw.kept (S' := fun _ => False) hx.only (fun _ _ hf => hf)
end Go.Proofs.Ytjannndndbohaaa
