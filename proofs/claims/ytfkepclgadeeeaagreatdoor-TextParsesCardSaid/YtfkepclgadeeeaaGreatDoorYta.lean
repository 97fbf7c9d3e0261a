/-
  The law's twin: rows of filters and of texts, marks behind them; what stands while kids are copied (written by gen/mkyt.py).
-/
import Derived.Deep.DeepCutAuto
import Derived.Deep.CutBlock
import Derived.Test.YtfkepclgadeeeaaGreatDoorQI
import Derived.Test.YtfkepclgadeeeaaGreatDoorQA
namespace Go.Proofs.YtfkepclgadeeeaaGreatDoor
open Go.RowKit

def news (w w' : World) (g : Nat) : Prop := w.heap.size ≤ g ∧ g < w'.heap.size
def FKeep (B : Nat → Prop) (w : World) (f : F9) (a : OwnF) (k : FT) : Prop := ∀ w' : World, (∀ g, B g → w'.heap[g]? = w.heap[g]?) → FOwn w' f a ∧ FKids w' f k
theorem FKeep.self {B : Nat → Prop} {w : World} {f : F9} {a : OwnF} {k : FT} (h : FKeep B w f a k) : FOwn w f a ∧ FKids w f k := h w (fun _ _ => rfl)
def toFT : List (OwnF × FT) → FT
  | [] => .nil
  | (a, k) :: r => .cons a k (toFT r)
theorem toFT_len (l : List (OwnF × FT)) : (toFT l).len = l.length := by
  induction l with
  | nil => rfl
  | cons a l ih => obtain ⟨a, k⟩ := a; simp [toFT, FT.len, ih]
theorem Row.alike {w w' : World} {S : Nat → Prop} {e : TypeId} {sz : Nat} {v : Value} {n : Nat} {xs : List Value} (h : Row w S e sz v n xs) (k : ∀ g, own v g → w'.heap[g]? = w.heap[g]?) : Row w' S e sz v n xs := by
  refine ⟨⟨h.1.1, ?_⟩, h.2⟩
  rcases h.1.2 with h1 | ⟨g, cap, cur, rfl, h2, hg, h3⟩
  · exact .inl h1
  · exact .inr ⟨g, cap, cur, rfl, h2, (k g rfl).trans hg, h3⟩
theorem infoS : (Tryz.prog.info? 9).map (fun i => (i.zero, i.size, i.bytes)) = some (some (.string ⟨#[]⟩), 1, 16) := by kernel_rfl
def RowS (w : World) (S : Nat → Prop) (v : Value) (l : List ByteArray) : Prop := Row w S 9 1 v l.length (l.map Value.string)
theorem rowS_of {w : World} {S S' : Nat → Prop} {v : Value} {l : List ByteArray} {n : Nat} {xs : List Value} (h : Row w S 9 1 v n xs) (hn : n = l.length) (hx : xs = l.map Value.string) (hS : ∀ k, S k → S' k) : RowS w S' v l := by
  subst hn hx; exact h.wide hS
theorem RowS.ssl {w : World} {S : Nat → Prop} {v : Value} {l : List ByteArray} (h : RowS w S v l) : SSl w v l := by
  have hc := fun g hg => World.ownsRow.cells h.1 (g := g) hg
  rcases h.1.2 with ⟨rfl, hl⟩ | ⟨g, cap, cur, rfl, _, _, h1, h2, _⟩
  · obtain rfl : l = [] := List.eq_nil_of_length_eq_zero hl
    exact ssl_nil rfl (by decide)
  · refine ⟨_, _, rfl, h1, h2, fun j hj => ⟨g, 0, rfl, ?_⟩⟩
    have := hc g rfl j (.string l[j]) (by simp [List.getElem?_eq_getElem hj])
    rwa [Addr.add_lit] at this
theorem infoF : (Tryz.prog.info? 26).map (fun i => (i.zero, i.size, i.bytes)) = some (some (.agg #[.int .i8 0, .slice none 0 0, .string ⟨#[]⟩, .string ⟨#[]⟩, .string ⟨#[]⟩, .slice none 0 0, .string ⟨#[]⟩, .string ⟨#[]⟩, .bool false]), 9, 144) := by kernel_rfl
def flatF (fs : List F9) : List Value := fs.flatMap (fun f => f.arr.toList)
theorem flatF_cell : ∀ (fs : List F9) (i j : Nat) (hi : i < fs.length) (hj : j < fs[i].arr.size), (flatF fs)[i * 9 + j]? = some (fs[i].arr[j])
  | f :: fs, 0, j, _, hj => by
    have hl : f.arr.toList.length = 9 := by simp [F9.arr]
    have hj9 : j < 9 := by have := hj; simp [F9.arr] at this; exact this
    simp only [flatF, List.flatMap_cons, Nat.zero_mul, Nat.zero_add, List.getElem_cons_zero]
    rw [List.getElem?_append_left (by omega), Array.getElem?_toList, Array.getElem?_eq_getElem]
  | f :: fs, i + 1, j, hi, hj => by
    have hl : f.arr.toList.length = 9 := by simp [F9.arr]
    have ih := flatF_cell fs i j (by simpa using hi) (by simpa using hj)
    simp only [flatF, List.flatMap_cons, List.getElem_cons_succ] at ih ⊢
    rw [List.getElem?_append_right (by omega), hl, show (i + 1) * 9 + j - 9 = i * 9 + j by omega]
    exact ih
def RowF (w : World) (S : Nat → Prop) (v : Value) (fs : List F9) : Prop := Row w S 26 9 v fs.length (flatF fs)
def KeepL (B : Nat → Prop) (w : World) : List F9 → List (OwnF × FT) → Prop
  | [], [] => True
  | f :: fs, (a, k) :: r => FKeep B w f a k ∧ KeepL B w fs r
  | _, _ => False
theorem KeepL.len {B : Nat → Prop} {w : World} : ∀ {fs : List F9} {r : List (OwnF × FT)}, KeepL B w fs r → fs.length = r.length
  | [], [], _ => rfl
  | _ :: _, (_, _) :: _, h => by simp [KeepL.len h.2]
  | [], _ :: _, h => h.elim
  | _ :: _, [], h => h.elim
theorem forest {B : Nat → Prop} {w : World} {g : Nat} : ∀ (fs : List F9) (r : List (OwnF × FT)) (o : Nat), KeepL B w fs r → (∀ i (hi : i < fs.length) j (hj : j < fs[i].arr.size), w.cell? ⟨g, o + (i * 9 + j), none⟩ = some (fs[i].arr[j])) → FtCells w (toFT r) g o
  | [], [], _, _, _ => trivial
  | f :: fs, (a, k) :: r, o, h, hc => by
    obtain ⟨h1, h2⟩ := h.1.self
    refine ⟨⟨f, h1, fun j hj => ?_, h2.1, h2.2.1, h2.2.2.1, h2.2.2.2⟩, forest fs r (o + 9) h.2 (fun i hi j hj => ?_)⟩
    · have := hc 0 (by simp) j hj
      simpa using this
    · have := hc (i + 1) (by simpa using hi) j (by simpa using hj)
      rw [show o + 9 + (i * 9 + j) = o + ((i + 1) * 9 + j) by omega]
      simpa using this
  | [], _ :: _, _, h, _ => h.elim
  | _ :: _, [], _, h, _ => h.elim
theorem results_f {fn : Func} {pp : Tmp} {ty : TypeId} (h : fn.results = #[.cell pp ty]) (tmps : Array Value) (w : World) (g : Nat) (f : F9) (hty : ty = 26) (hp : tmps.getD pp undef = .pointer (some ⟨g, 0, none⟩)) (hc : FlT w g f) : (results fn tmps).run Tryz.prog w = .ok (.agg f.arr) w := by
  subst hty
  have hl := run_loadCells_list (P := Tryz.prog) w ⟨g, 0, none⟩ f.arr.toList (by
    intro j v hv
    rw [Addr.add_lit, Nat.zero_add, cell_of_row _ _ j _ _ _ hc]
    simpa [F9.arr] using hv)
  have hl9 : (loadCells ⟨g, 0, none⟩ 9).run Tryz.prog w = .ok f.arr w := hl
  have hag := Tryz.isAgg26
  have hsz : ∀ w, (sizeOf 26).run Tryz.prog w = .ok 9 w := Tryz.sizeOf26
  have hp' : tmps[pp]?.getD undef = .pointer (some ⟨g, 0, none⟩) := by simpa using hp
  simp [results, h, hp', asAddr, loadVar, Sem.run_bind, hag, hsz, hl9, Result.andThen]
def spareS : ByteArray := ⟨#[35]⟩
/-- marks behind both lists of a filter -/
def SpX (w : World) (f : F9) (n : Nat) : Prop := (∃ g, f.ka = some ⟨g, 0, none⟩ ∧ f.kn = n ∧ n + 1 ≤ f.kc ∧ f.kc ≤ maxLen ∧ w.cell? ⟨g, n * 9 + 0, none⟩ = some (.int .i8 77)) ∧ ∃ g, f.ma = some ⟨g, 0, none⟩ ∧ f.mn + 1 ≤ f.mc ∧ f.mc ≤ maxLen ∧ w.cell? ⟨g, f.mn, none⟩ = some (.string spareS)
def SpC (w : World) : FT → Nat → Nat → Prop
  | .nil, _, _ => True
  | .cons _ kids rest, g, o => (∃ f : F9, (∀ j (h : j < f.arr.size), w.cell? ⟨g, o + j, none⟩ = some f.arr[j]) ∧ SpX w f kids.len ∧ ∀ g', f.ka = some ⟨g', 0, none⟩ → SpC w kids g' 0) ∧ SpC w rest g (o + 9)
def SpF (w : World) (f : F9) (k : FT) : Prop := SpX w f k.len ∧ ∀ g', f.ka = some ⟨g', 0, none⟩ → SpC w k g' 0
/-- a twin stands in every world that is alike in the blocks of B -/
def TwK (B : Nat → Prop) (w : World) (f : F9) (a : OwnF) (k : FT) : Prop := ∀ w' : World, (∀ g, B g → w'.heap[g]? = w.heap[g]?) → (FOwn w' f a ∧ FKids w' f k) ∧ SpF w' f k
theorem TwK.next {B : Nat → Prop} {w w' : World} {f : F9} {a : OwnF} {k : FT} (h : TwK B w f a k) (hw : ∀ g, B g → w'.heap[g]? = w.heap[g]?) : TwK B w' f a k := fun w2 h2 => h w2 (fun g hg => (h2 g hg).trans (hw g hg))
theorem TwK.wide {B B' : Nat → Prop} {w : World} {f : F9} {a : OwnF} {k : FT} (h : TwK B w f a k) (hB : ∀ g, B g → B' g) : TwK B' w f a k := fun w2 h2 => h w2 (fun g hg => h2 g (hB g hg))
theorem TwK.keep {B : Nat → Prop} {w : World} {f : F9} {a : OwnF} {k : FT} (h : TwK B w f a k) : FKeep B w f a k := fun w' hw => (h w' hw).1
def TwL (B : Nat → Prop) (w : World) : List F9 → List (OwnF × FT) → Prop
  | [], [] => True
  | f :: fs, (a, k) :: r => TwK B w f a k ∧ TwL B w fs r
  | _, _ => False
theorem TwL.keep {B : Nat → Prop} {w : World} : ∀ {fs : List F9} {r : List (OwnF × FT)}, TwL B w fs r → KeepL B w fs r
  | [], [], _ => trivial
  | _ :: _, (_, _) :: _, h => ⟨h.1.keep, TwL.keep h.2⟩
  | [], _ :: _, h => h.elim
  | _ :: _, [], h => h.elim
theorem TwL.next {B : Nat → Prop} {w w' : World} (hw : ∀ g, B g → w'.heap[g]? = w.heap[g]?) : ∀ {fs : List F9} {r : List (OwnF × FT)}, TwL B w fs r → TwL B w' fs r
  | [], [], _ => trivial
  | _ :: _, (_, _) :: _, h => ⟨h.1.next hw, TwL.next hw h.2⟩
  | [], _ :: _, h => h.elim
  | _ :: _, [], h => h.elim
theorem TwL.wide {B B' : Nat → Prop} {w : World} (hB : ∀ g, B g → B' g) : ∀ {fs : List F9} {r : List (OwnF × FT)}, TwL B w fs r → TwL B' w fs r
  | [], [], _ => trivial
  | _ :: _, (_, _) :: _, h => ⟨h.1.wide hB, TwL.wide hB h.2⟩
  | [], _ :: _, h => h.elim
  | _ :: _, [], h => h.elim
theorem TwL.snoc {B : Nat → Prop} {w : World} {f : F9} {a : OwnF} {k : FT} (hf : TwK B w f a k) : ∀ {fs : List F9} {r : List (OwnF × FT)}, TwL B w fs r → TwL B w (fs ++ [f]) (r ++ [(a, k)])
  | [], [], _ => ⟨hf, trivial⟩
  | _ :: _, (_, _) :: _, h => ⟨h.1, TwL.snoc hf h.2⟩
  | [], _ :: _, h => h.elim
  | _ :: _, [], h => h.elim
theorem TwL.spares {B : Nat → Prop} {w : World} {g : Nat} : ∀ (fs : List F9) (r : List (OwnF × FT)) (o : Nat), TwL B w fs r → (∀ i (hi : i < fs.length) j (hj : j < fs[i].arr.size), w.cell? ⟨g, o + (i * 9 + j), none⟩ = some (fs[i].arr[j])) → SpC w (toFT r) g o
  | [], [], _, _, _ => trivial
  | f :: fs, (a, k) :: r, o, h, hc => by
    obtain ⟨-, h1, h2⟩ := h.1 w (fun _ _ => rfl)
    refine ⟨⟨f, fun j hj => ?_, h1, h2⟩, TwL.spares fs r (o + 9) h.2 (fun i hi j hj => ?_)⟩
    · have := hc 0 (by simp) j hj
      simpa using this
    · have := hc (i + 1) (by simpa using hi) j (by simpa using hj)
      rw [show o + 9 + (i * 9 + j) = o + ((i + 1) * 9 + j) by omega]
      simpa using this
  | [], _ :: _, _, h, _ => h.elim
  | _ :: _, [], _, h, _ => h.elim
/-- a forest as a list -/
def FT.list : FT → List (OwnF × FT)
  | .nil => []
  | .cons a k r => (a, k) :: r.list
theorem toFT_list : ∀ k : FT, toFT k.list = k
  | .nil => rfl
  | .cons a k r => by simp [FT.list, toFT, toFT_list r]
/-- a row of twins and one mark, cut: kids -/
theorem tw_kids {S B : Nat → Prop} {w : World} {g c : Nat} {fs : List F9} {fm : F9} {k : FT} (h : RowF w S (.slice (some ⟨g, 0, none⟩) (fs.length + 1) c) (fs ++ [fm])) (hm : fm.kind = 77) (hk : TwL B w fs k.list) :
    (fs.length = k.len ∧ fs.length ≤ c ∧ c ≤ maxLen ∧ (k.len = 0 ∨ ∃ g' o', (some ⟨g, 0, none⟩ : Option Addr) = some ⟨g', o', none⟩ ∧ FtCells w k g' o')) ∧ fs.length + 1 ≤ c ∧ w.cell? ⟨g, fs.length * 9 + 0, none⟩ = some (.int .i8 77) ∧ SpC w k g 0 := by
  have hl : fs.length = k.len := by rw [hk.keep.len, ← toFT_len, toFT_list]
  have hlen : (fs ++ [fm]).length = fs.length + 1 := by simp
  have hcell : ∀ i (hi : i < (fs ++ [fm]).length) j (hj : j < (fs ++ [fm])[i].arr.size), w.cell? ⟨g, 0 + (i * 9 + j), none⟩ = some ((fs ++ [fm])[i].arr[j]) := fun i hi j hj => by
    have hc := World.ownsRow.cells h.1 (g := g) rfl (i * 9 + j) _ (flatF_cell _ i j hi hj)
    rw [Addr.add_lit] at hc
    exact hc
  have hcb : fs.length + 1 ≤ c ∧ c ≤ maxLen := by
    rcases h.1.2 with ⟨e, hn⟩ | ⟨g2, cap, cur, e, hb, hg, h1, h2, h3, h4⟩
    · cases e
    · simp only [Value.slice.injEq] at e
      obtain ⟨-, -, rfl⟩ := e
      rw [hlen] at h1
      exact ⟨h1, h2⟩
  have hcell2 : ∀ i (hi : i < fs.length) j (hj : j < fs[i].arr.size), w.cell? ⟨g, 0 + (i * 9 + j), none⟩ = some (fs[i].arr[j]) := fun i hi j hj => by
    have := hcell i (by rw [hlen]; omega) j (by rw [List.getElem_append_left hi]; exact hj)
    simpa [List.getElem_append_left hi] using this
  refine ⟨⟨hl, by omega, hcb.2, .inr ⟨g, 0, rfl, ?_⟩⟩, hcb.1, ?_, ?_⟩
  · have := forest fs k.list 0 hk.keep hcell2
    rwa [toFT_list] at this
  · have := hcell fs.length (by rw [hlen]; omega) 0 (by simp [F9.arr])
    simpa [F9.arr, hm] using this
  · have := TwL.spares fs k.list 0 hk hcell2
    rwa [toFT_list] at this
def FtSz : FT → Prop
  | .nil => True
  | .cons a k r => a.ms.length ≤ 8796093022000 ∧ k.len ≤ 900000000000 ∧ FtSz k ∧ FtSz r
theorem wpList_fltB {ops : Array Oper} {rest : List Oper} {o : Oper} {a : Act} {Q : Exit → Act → World → Prop} (hgd : o.guard = none) (s x : Operand)
    (ho : o.op = .call { callee := .builtin .append, args := #[s, x], argTypes := #[23, 23] })
    (w0 : World) (S : Nat → Prop) (v : Value) (fs : List F9) (f : F9) (cs : Array Value) (hcs : cs = f.arr) (hrow : RowF w0 S v fs) (hs : a.eval s = v) (H : Nat)
    (hx : a.eval x = .slice (some ⟨H, 0, none⟩) 1 1) (hH : w0.heap.size = H) (hlen : fs.length ≤ 900000000000)
    (h : ∀ g cap w', RowF w' (Up S w0.heap.size) (.slice (some ⟨g, 0, none⟩) (fs.length + 1) cap) (fs ++ [f]) → Only S w0 w' → wpList Tryz.prog ops Q rest (a.put o.dst (.slice (some ⟨g, 0, none⟩) (fs.length + 1) cap)) w') :
    wpList Tryz.prog ops Q (o :: rest) a (w0.alloc (.cells cs 26)) := by
  subst hcs
  refine wpList_rowpush hgd s x 23 26 _ 9 144 infoF Tryz.underlying23 rfl (by decide) ho w0 S v fs.length (flatF fs) _ hrow hs 1 1 H hx hH (by simp [F9.arr]) (by simp [F9.arr, Value.oneCell']) (by decide) (by unfold maxLen; omega) (by omega) ?_
  intro g cap w' h1 h2
  refine h g cap w' ?_ h2
  have e1 : flatF (fs ++ [f]) = flatF fs ++ f.arr.toList := by simp [flatF]
  have e2 : (fs ++ [f]).length = fs.length + 1 := by simp
  unfold RowF
  rw [e1, e2]
  exact h1
theorem run_append_none (w : World) (t tx ty e : TypeId) (z : Value) (sz bytes : Nat) (hi : (Tryz.prog.info? e).map (fun i => (i.zero, i.size, i.bytes)) = some (some z, sz, bytes)) (ht : Tryz.prog.underlying t = some (.slice e)) (g n c : Nat) (x : Value) (hs : Src Tryz.prog sz tx x 0 [] w) (hn : n ≤ c) :
    (Builtin.append_ #[t, tx] ty #[.slice (some ⟨g, 0, none⟩) n c, x]).run Tryz.prog w = .ok (.slice (some ⟨g, 0, none⟩) n c) w := by
  obtain ⟨i, hi0, hz, hsz, hby⟩ := info_parts hi
  rw [← hsz] at hs
  have := run_append_room_src (P := Tryz.prog) w t tx ty e i ht hi0 g 0 n c x 0 [] hs (by omega) (fun j hj => by simp at hj) (fun j hj => by simp at hj)
  simpa [World.setCells] using this
theorem src_texts {w : World} {v : Value} {ms : List ByteArray} (h : SSl w v ms) : Src Tryz.prog 1 24 v ms.length (ms.map Value.string) w := by
  obtain ⟨a, cap, rfl, h1, h2, h3⟩ := h
  cases ms with
  | nil =>
    cases a with
    | none => exact Src.ofNil w Tryz.underlying24 cap
    | some a => exact Src.ofSlice w Tryz.underlying24 a 0 cap [] rfl (fun j u hu => by simp at hu) (fun u hu => by cases hu)
  | cons m ms =>
    obtain ⟨g, o, rfl, -⟩ := h3 0 (by simp)
    refine Src.ofSlice w Tryz.underlying24 ⟨g, o, none⟩ _ cap _ (by simp) (fun j u hu => ?_) (fun u hu => ?_)
    · have hj : j < (m :: ms).length := by
        have := (List.getElem?_eq_some_iff.1 hu).1
        simpa using this
      obtain ⟨g2, o2, e2, hc⟩ := h3 j hj
      cases e2
      rw [List.getElem?_map, List.getElem?_eq_getElem hj] at hu
      simp only [Option.map_some, Option.some.injEq] at hu
      subst hu
      rw [Addr.add_lit]
      exact hc
    · obtain ⟨s, -, rfl⟩ := List.mem_map.1 hu
      rfl
theorem wpList_strB {ops : Array Oper} {rest : List Oper} {o : Oper} {a : Act} {Q : Exit → Act → World → Prop} (hgd : o.guard = none) (s x : Operand)
    (ho : o.op = .call { callee := .builtin .append, args := #[s, x], argTypes := #[24, 24] })
    (w0 : World) (S : Nat → Prop) (v : Value) (l : List ByteArray) (b : ByteArray) (hrow : RowS w0 S v l) (hs : a.eval s = v) (H : Nat)
    (hx : a.eval x = .slice (some ⟨H, 0, none⟩) 1 1) (hH : w0.heap.size = H) (hlen : l.length ≤ 8796093022000)
    (h : ∀ g cap w', RowS w' (Up S w0.heap.size) (.slice (some ⟨g, 0, none⟩) (l.length + 1) cap) (l ++ [b]) → Only S w0 w' → wpList Tryz.prog ops Q rest (a.put o.dst (.slice (some ⟨g, 0, none⟩) (l.length + 1) cap)) w') :
    wpList Tryz.prog ops Q (o :: rest) a (w0.alloc (.cells #[.string b] 9)) := by
  refine wpList_rowpush hgd s x 24 9 _ 1 16 infoS Tryz.underlying24 rfl (by decide) ho w0 S v l.length (l.map Value.string) _ hrow hs 1 1 H hx hH rfl (by simp [Value.oneCell']) (by decide) (by unfold maxLen; omega) (by omega) ?_
  intro g cap w' h1 h2
  exact h g cap w' (rowS_of h1 (by simp) (by simp) (fun _ h => h)) h2

theorem app_texts {w : World} {S : Nat → Prop} {g c : Nat} {v : Value} {ms : List ByteArray} (ty : TypeId) (r : RowS w S (.slice (some ⟨g, 0, none⟩) 0 c) []) (hs : SSl w v ms) (hl : ms.length ≤ 8796093022000) :
    ∃ g' c' w', (Builtin.append_ #[24, 24] ty #[.slice (some ⟨g, 0, none⟩) 0 c, v]).run Tryz.prog w = .ok (.slice (some ⟨g', 0, none⟩) ms.length c') w' ∧ RowS w' (Up S w.heap.size) (.slice (some ⟨g', 0, none⟩) ms.length c') ms ∧ Only S w w' := by
  have hsrc := src_texts hs
  by_cases hm : 0 < ms.length
  · obtain ⟨g', c', w', h1, h2, h3⟩ := run_append_rowS w S 24 9 24 ty _ 1 16 infoS Tryz.underlying24 rfl _ 0 [] r v ms.length hm _ hsrc (by unfold maxLen; omega) (by omega)
    rw [Nat.zero_add] at h1 h2
    exact ⟨g', c', w', h1, rowS_of h2 rfl (by simp) (fun _ h => h), h3⟩
  · obtain rfl : ms = [] := List.eq_nil_of_length_eq_zero (by omega)
    have h1 := run_append_none w 24 24 ty 9 _ 1 16 infoS Tryz.underlying24 g 0 c v hsrc (Nat.zero_le _)
    exact ⟨g, c, w, h1, Row.wide r (fun _ h => .inl h), Only.refl _ _⟩
theorem tw_mids {w : World} {S : Nat → Prop} {g c : Nat} {ms : List ByteArray} (h : RowS w S (.slice (some ⟨g, 0, none⟩) (ms.length + 1) c) (ms ++ [spareS])) : SSl w (.slice (some ⟨g, 0, none⟩) ms.length c) ms ∧ ms.length + 1 ≤ c ∧ c ≤ maxLen ∧ w.cell? ⟨g, ms.length, none⟩ = some (.string spareS) := by
  obtain ⟨a, cap, e, h1, h2, h3⟩ := h.ssl
  simp only [Value.slice.injEq] at e
  obtain ⟨rfl, -, rfl⟩ := e
  have hl : (ms ++ [spareS]).length = ms.length + 1 := by simp
  refine ⟨⟨_, _, rfl, by omega, h2, fun j hj => ?_⟩, by omega, h2, ?_⟩
  · obtain ⟨g', o', e', hc⟩ := h3 j (by omega)
    rw [List.getElem_append_left hj] at hc
    exact ⟨g', o', e', hc⟩
  · obtain ⟨g', o', e', hc⟩ := h3 ms.length (by omega)
    simp only [Option.some.injEq, Addr.mk.injEq] at e'
    obtain ⟨rfl, rfl, -⟩ := e'
    simpa using hc
end Go.Proofs.YtfkepclgadeeeaaGreatDoor
