/-
  spoil: the caller writes over all of a filter that it was given, and grows its lists; what it counts (written by gen/mkspl.py, after t11m/Spl).
-/
import Derived.Test.YtfkepclgadeeeaaGreatDoorQM
import Derived.Test.YtfkepclgadeeeaaGreatDoorQQ
namespace Go.Proofs.YtfkepclgadeeeaaGreatDoor
open Go.RowKit Go.Shelf

/-- what spoil counts -/
def spL : FT → Nat
  | .nil => 0
  | .cons a kids rest => spL kids + kids.len + a.ms.length + 18 + spL rest
def spN (a : OwnF) (k : FT) : Nat := spL k + k.len + a.ms.length + 18
def SpoilP (a : OwnF) (k : FT) : Prop := ∀ (w : World) (U : Nat → Prop) (f : F9), Sep U w f a k → (∀ g, U g → g < w.heap.size) → spN a k ≤ 100000000000 → Calls Tryz.prog 8 #[.agg f.arr] w fun e w' => e = .returned (.int .i64 (spN a k : Nat)) ∧ Only U w w'
def SpoilA : FT → Prop
  | .nil => True
  | .cons a k r => SpoilP a k ∧ SpoilA r
/-- a slice and its block: nothing is said of what is in it -/
def SlB (w : World) (e : TypeId) (sz : Nat) (a : Option Addr) (n c : Nat) : Prop := (a = none ∧ n = 0 ∧ c = 0) ∨ ∃ g cs, a = some ⟨g, 0, none⟩ ∧ w.heap[g]? = some (.cells cs e (0, 0)) ∧ cs.size = c * sz ∧ n ≤ c ∧ c ≤ maxLen
theorem Row.slb {w : World} {S : Nat → Prop} {e : TypeId} {sz : Nat} {a : Option Addr} {n c m : Nat} {xs : List Value} (h : Row w S e sz (.slice a n c) m xs) : n = m ∧ SlB w e sz a n c := by
  rcases h.1.2 with ⟨e1, hl⟩ | ⟨g, cap, cur, e1, h2, h3, h4, h5, h6, h7⟩
  · simp only [Value.slice.injEq] at e1
    obtain ⟨rfl, rfl, rfl⟩ := e1
    exact ⟨by omega, .inl ⟨rfl, rfl, rfl⟩⟩
  · simp only [Value.slice.injEq] at e1
    obtain ⟨rfl, rfl, rfl⟩ := e1
    exact ⟨rfl, .inr ⟨g, cur, rfl, h3, h6, h4, h5⟩⟩
theorem SlB.row {w : World} {e : TypeId} {sz : Nat} {a : Option Addr} {n c : Nat} (h : SlB w e sz a n c) : ∃ xs, Row w (own (.slice a n c)) e sz (.slice a n c) n xs := by
  rcases h with ⟨rfl, rfl, rfl⟩ | ⟨g, cs, rfl, h1, h2, h3, h4⟩
  · exact ⟨[], row_nil _ _ _ _⟩
  · have hle : n * sz ≤ cs.size := by rw [h2]; exact Nat.mul_le_mul_right _ h3
    exact ⟨cs.toList.take (n * sz), ⟨⟨by simp; omega, .inr ⟨g, c, cs, rfl, Nat.zero_le _, h1, h3, h4, h2, by simp⟩⟩, fun _ hk => hk⟩⟩
theorem SlB.alike {w w' : World} {e : TypeId} {sz : Nat} {a : Option Addr} {n c : Nat} (h : SlB w e sz a n c) (k : ∀ g, own (.slice a n c) g → w'.heap[g]? = w.heap[g]?) : SlB w' e sz a n c := by
  rcases h with h | ⟨g, cs, rfl, h1, h2⟩
  · exact .inl h
  · exact .inr ⟨g, cs, rfl, (k g (by simp [own, Value.ownBlock])).trans h1, h2⟩
/-- the kids' row, from the i-th kid on -/
def KidB (w : World) (ka : Option Addr) (kn kc i : Nat) (ks : List F9) : Prop := (ka = none ∧ kn = 0 ∧ kc = 0) ∨ ∃ g cs, ka = some ⟨g, 0, none⟩ ∧ w.heap[g]? = some (.cells cs 26 (0, 0)) ∧ cs.size = kc * 9 ∧ kn ≤ kc ∧ kc ≤ maxLen ∧ ∀ j (hj : j < ks.length), i ≤ j → ∀ m (hm : m < ks[j].arr.size), cs[j * 9 + m]? = some ks[j].arr[m]
theorem KidB.slb {w : World} {ka : Option Addr} {kn kc i : Nat} {ks : List F9} (h : KidB w ka kn kc i ks) : SlB w 26 9 ka kn kc := by
  rcases h with h | ⟨g, cs, h1, h2, h3, h4, h5, -⟩
  · exact .inl h
  · exact .inr ⟨g, cs, h1, h2, h3, h4, h5⟩
theorem Row9.kidB {w : World} {ka : Option Addr} {kn kc : Nat} {ks : List F9} (h : Row9 w (.slice ka kn kc) ks) : kn = ks.length ∧ KidB w ka kn kc 0 ks := by
  have hc := fun g hg => World.ownsRow.cells h.1 (g := g) hg
  rcases h.1.2 with ⟨e1, hl⟩ | ⟨g, cap, cur, e1, h2, h3, h4, h5, h6, h7⟩
  · simp only [Value.slice.injEq] at e1
    obtain ⟨rfl, rfl, rfl⟩ := e1
    exact ⟨by omega, .inl ⟨rfl, rfl, rfl⟩⟩
  · simp only [Value.slice.injEq] at e1
    obtain ⟨rfl, rfl, rfl⟩ := e1
    refine ⟨rfl, .inr ⟨g, cur, rfl, h3, h6, h4, h5, fun j hj _ m hm => ?_⟩⟩
    have := hc g rfl (j * 9 + m) _ (flatF_cell ks j m hj hm)
    rw [Addr.add_lit, Nat.zero_add] at this
    simpa [World.cell?, h3] using this
theorem KidB.alike {w w' : World} {ka : Option Addr} {kn kc i : Nat} {ks : List F9} (h : KidB w ka kn kc i ks) (k : ∀ g, own (.slice ka kn kc) g → w'.heap[g]? = w.heap[g]?) : KidB w' ka kn kc i ks := by
  rcases h with h | ⟨g, cs, rfl, h1, h2⟩
  · exact .inl h
  · exact .inr ⟨g, cs, rfl, (k g (by simp [own, Value.ownBlock])).trans h1, h2⟩
theorem SlB.lt {w : World} {e : TypeId} {sz : Nat} {a : Option Addr} {n c g : Nat} (h : SlB w e sz a n c) (hg : own (.slice a n c) g) : g < w.heap.size := by
  rcases h with ⟨e, -, -⟩ | ⟨g', cs, e, h1, -⟩
  · rw [e] at hg; simp [own, Value.ownBlock] at hg
  · rw [e] at hg
    have : g' = g := by simpa [own, Value.ownBlock] using hg
    subst this
    exact (Array.getElem?_eq_some_iff.1 h1).1
theorem mid_store {w : World} {ma : Option Addr} {mn mc i : Nat} (h : SlB w 9 1 ma mn mc) (hi : i < mn) : ∃ (g : Nat) (u : Value), ma = some ⟨g, 0, none⟩ ∧ w.cell? ⟨g, i, none⟩ = some u ∧ w.frozen? ⟨g, i, none⟩ = false ∧ ∀ b : ByteArray, SlB (w.setCell ⟨g, i, none⟩ (.string b)) 9 1 ma mn mc ∧ Only (own (.slice ma mn mc)) w (w.setCell ⟨g, i, none⟩ (.string b)) := by
  rcases h with ⟨-, h, -⟩ | ⟨g, cs, rfl, h1, h2, h3, h4⟩
  · omega
  · have hlt : i < cs.size := by omega
    refine ⟨g, cs[i], rfl, by simp [World.cell?, h1, hlt], by simp [World.frozen?, h1], fun b => ⟨.inr ⟨g, cs.setIfInBounds i (.string b), rfl, heap_setCell_at w g i _ _ _ _ h1, by simpa using h2, h3, h4⟩, ?_⟩⟩
    exact (setOnly w g i (.string b)).mono fun k _ hk => by subst hk; simp [own, Value.ownBlock]
/-- the i-th kid's nine cells are written over -/
def putK (w : World) (g o : Nat) : World := (((((((((w.setCell ⟨g, o, none⟩ (.int .i8 99)).setCell ⟨g, o + 1, none⟩ (.slice none 0 0)).setCell ⟨g, o + 2, none⟩ (.string ⟨#[]⟩)).setCell ⟨g, o + 3, none⟩ (.string ⟨#[]⟩)).setCell ⟨g, o + 4, none⟩ (.string ⟨#[]⟩)).setCell ⟨g, o + 5, none⟩ (.slice none 0 0)).setCell ⟨g, o + 6, none⟩ (.string ⟨#[]⟩)).setCell ⟨g, o + 7, none⟩ (.string ⟨#[]⟩)).setCell ⟨g, o + 8, none⟩ (.bool false))
theorem putK_block {w : World} {g o : Nat} {cs : Array Value} {e : TypeId} (h : w.heap[g]? = some (.cells cs e (0, 0))) : ∃ cs', (putK w g o).heap[g]? = some (.cells cs' e (0, 0)) ∧ cs'.size = cs.size ∧ ∀ j, (j < o ∨ o + 9 ≤ j) → cs'[j]? = cs[j]? := by
  have h0 := heap_setCell_at w g o (.int .i8 99) _ _ _ h
  have h1 := heap_setCell_at _ g (o + 1) (.slice none 0 0) _ _ _ h0
  have h2 := heap_setCell_at _ g (o + 2) (.string ⟨#[]⟩) _ _ _ h1
  have h3 := heap_setCell_at _ g (o + 3) (.string ⟨#[]⟩) _ _ _ h2
  have h4 := heap_setCell_at _ g (o + 4) (.string ⟨#[]⟩) _ _ _ h3
  have h5 := heap_setCell_at _ g (o + 5) (.slice none 0 0) _ _ _ h4
  have h6 := heap_setCell_at _ g (o + 6) (.string ⟨#[]⟩) _ _ _ h5
  have h7 := heap_setCell_at _ g (o + 7) (.string ⟨#[]⟩) _ _ _ h6
  have h8 := heap_setCell_at _ g (o + 8) (.bool false) _ _ _ h7
  refine ⟨_, h8, by simp, fun j hj => ?_⟩
  rw [Array.getElem?_setIfInBounds_ne (by omega), Array.getElem?_setIfInBounds_ne (by omega), Array.getElem?_setIfInBounds_ne (by omega), Array.getElem?_setIfInBounds_ne (by omega), Array.getElem?_setIfInBounds_ne (by omega), Array.getElem?_setIfInBounds_ne (by omega), Array.getElem?_setIfInBounds_ne (by omega), Array.getElem?_setIfInBounds_ne (by omega), Array.getElem?_setIfInBounds_ne (by omega)]
theorem putK_only (w : World) (g o : Nat) : Only (fun b => b = g) w (putK w g o) :=
  (((((((((setOnly w g o _).then (setOnly _ g (o + 1) _)).then (setOnly _ g (o + 2) _)).then (setOnly _ g (o + 3) _)).then (setOnly _ g (o + 4) _)).then (setOnly _ g (o + 5) _)).then (setOnly _ g (o + 6) _)).then (setOnly _ g (o + 7) _)).then (setOnly _ g (o + 8) _))
/-- what stands while kids are spoilt -/
structure SpS (U Us : Nat → Prop) (w wr : World) (f : F9) (ks : List F9) (k : FT) (i : Nat) : Prop where
  at9 : FlT wr w.heap.size f
  kid : KidB wr f.ka f.kn f.kc i ks
  mid : SlB wr 9 1 f.ma f.mn f.mc
  sep : ∃ V : Nat → Prop, (∀ g, V g → Us g) ∧ SepC wr k V (ks.drop i)
  on : Only U w wr
  ok : SpoilA k
structure SpH (U Us : Nat → Prop) (w : World) (f : F9) (ks : List F9) : Prop where
  u : ∀ g, U g → g < w.heap.size
  m : ∀ g, own f.mids g → U g ∧ ¬ Us g
  k : ∀ g, own f.kids g → U g ∧ ¬ Us g
  s : ∀ g, Us g → U g
  mkd : ∀ g, own f.mids g → ¬ own f.kids g
  n : f.kn = ks.length
theorem SpS.len {U Us : Nat → Prop} {w wr : World} {f : F9} {ks : List F9} {k : FT} {i : Nat} (h : SpS U Us w wr f ks k i) : k.len = ks.length - i := by
  obtain ⟨V, -, hs⟩ := h.sep
  have : ∀ (k : FT) (V : Nat → Prop) (fs : List F9), SepC wr k V fs → k.len = fs.length := by
    intro k
    induction k with
    | nil => intro V fs h; cases h; rfl
    | cons a l r _ ih =>
      intro V fs h
      obtain ⟨f, fs', U1, U2, rfl, -, -, -, h5⟩ := h.split
      simp [FT.len, ih _ _ h5]
  rw [this _ _ _ hs, List.length_drop]
theorem SpS.mids {U Us : Nat → Prop} {w wr w' : World} {f : F9} {ks : List F9} {k : FT} {i : Nat} (h : SpS U Us w wr f ks k i) (hh : SpH U Us w f ks) (o : Only (own f.mids) wr w') (hm : SlB w' 9 1 f.ma f.mn f.mc) : SpS U Us w w' f ks k i := by
  obtain ⟨V, hV, hs⟩ := h.sep
  exact ⟨h.at9.only o (fun hx => by have := hh.u _ (hh.m _ hx).1; omega), h.kid.alike (fun b hb => o.block b (h.kid.slb.lt hb) (fun hx => hh.mkd b hx hb)), hm, ⟨V, hV, hs.next _ _ _ (fun b hb hbl => o.block b hbl (fun hx => (hh.m b hx).2 (hV b hb)))⟩, h.on.then (o.mono fun b _ hb => (hh.m b hb).1), h.ok⟩
theorem SpS.kid_ {U Us : Nat → Prop} {w wr : World} {f : F9} {ks : List F9} {a : OwnF} {l r : FT} {i : Nat} (h : SpS U Us w wr f ks (.cons a l r) i) (hh : SpH U Us w f ks) : ∃ (g : Nat) (fi : F9) (U1 : Nat → Prop), i < ks.length ∧ f.ka = some ⟨g, 0, none⟩ ∧ Sep U1 wr fi a l ∧ (∀ b, U1 b → b < wr.heap.size) ∧ SpoilP a l ∧
    (∀ j (hj : j < fi.arr.size), wr.cell? ⟨g, i * 9 + j, none⟩ = some fi.arr[j]) ∧ ¬ U1 g ∧ ¬ U1 w.heap.size ∧ g ≠ w.heap.size ∧
    ∀ w', Only U1 wr w' → (∀ j (hj : j < fi.arr.size), w'.cell? ⟨g, i * 9 + j, none⟩ = some fi.arr[j]) ∧ (∀ j, w'.frozen? ⟨g, j, none⟩ = false) ∧ FlT w' w.heap.size f ∧ SpS U Us w (putK w' g (i * 9)) f ks r (i + 1) := by
  have hlen := h.len
  have hi : i < ks.length := by simp only [FT.len] at hlen; omega
  obtain ⟨V, hV, hs⟩ := h.sep
  obtain ⟨fi, fs', U1, U2, e1, h2, h3, h4, h5⟩ := hs.split
  have hd : ks.drop i = ks[i] :: ks.drop (i + 1) := by rw [List.drop_eq_getElem_cons hi]
  rw [hd] at e1
  simp only [List.cons.injEq] at e1
  obtain ⟨rfl, rfl⟩ := e1
  rcases h.kid with ⟨hka, hkn, -⟩ | ⟨g, cs, hka, q2, q3, q4, q5, q6⟩
  · have := hh.n; omega
  have hg : own f.kids g := by unfold F9.kids; rw [hka]; simp [own, Value.ownBlock]
  have hgU := hh.k g hg
  have hsz := h.on.size
  have hgw := hh.u g hgU.1
  have hu1 : ∀ b, U1 b → U b := fun b hb => hh.s b (hV b (h2 b hb).1)
  have hn1 : ¬ U1 g := fun hu => hgU.2 (hV g (h2 g hu).1)
  have hcell : ∀ (w' : World), w'.heap[g]? = some (.cells cs 26 (0, 0)) → ∀ j (hj : j < ks[i].arr.size), w'.cell? ⟨g, i * 9 + j, none⟩ = some ks[i].arr[j] := fun w' hw' j hj => by
    have := q6 i hi (Nat.le_refl _) j hj
    simp [World.cell?, hw', this]
  refine ⟨g, ks[i], U1, hi, hka, h4, fun b hb => Nat.lt_of_lt_of_le (hh.u b (hu1 b hb)) hsz, h.ok.1, hcell wr q2, hn1, fun hx => by have := hh.u _ (hu1 _ hx); omega, by omega, fun w' ho => ?_⟩
  have b5 : w'.heap[g]? = some (.cells cs 26 (0, 0)) := (ho.block g (Nat.lt_of_lt_of_le hgw hsz) hn1).trans q2
  have f5 : FlT w' w.heap.size f := h.at9.only ho (fun hx => by have := hh.u _ (hu1 _ hx); omega)
  have oK := putK_only w' g (i * 9)
  obtain ⟨cs', b6, s6, c6⟩ := putK_block (o := i * 9) b5
  refine ⟨hcell w' b5, fun j => by simp [World.frozen?, b5], f5, f5.only oK (by omega), ?_, ?_, ⟨U2, fun b hb => hV b (h3 b hb), ?_⟩, (h.on.then (ho.mono fun b _ hb => hu1 b hb)).then (oK.mono fun b _ hb => by subst hb; exact hgU.1), h.ok.2⟩
  · rw [hka]
    refine .inr ⟨g, cs', rfl, b6, by rw [s6, q3], q4, q5, fun j hj hij m hm => ?_⟩
    rw [c6 _ (.inr (by omega))]
    exact q6 j hj (by omega) m hm
  · have hbl : ∀ b, own (.slice f.ma f.mn f.mc) b → b < wr.heap.size := fun b hb => h.mid.lt hb
    exact (h.mid.alike (fun b hb => ho.block b (hbl b hb) (fun hx => (hh.m b hb).2 (hV b (h2 b hx).1)))).alike (fun b hb => oK.block b (Nat.lt_of_lt_of_le (hbl b hb) ho.size) (fun e => hh.mkd b hb (e ▸ hg)))
  · refine (h5.next (w' := w') _ _ _ (fun b hb hbl => ho.block b hbl (fun hx => (h2 b hx).2 hb))).next _ _ _ (fun b hb hbl => oK.block b hbl (fun e => (hh.k b (e ▸ hg)).2 (hV b (h3 b hb))))
/-- two rows of different things stand in different blocks -/
theorem row_apartT {w : World} {S S' : Nat → Prop} {u v : Value} {n m : Nat} {xs ys : List Value} (h : Row w S 26 9 u n xs) (k : Row w S' 9 1 v m ys) {g : Nat} (hu : own u g) (hv : own v g) : False := by
  rcases h.1.2 with ⟨e, -⟩ | ⟨g1, c1, cur1, e, -, q1, -⟩
  · rw [e] at hu; simp [own, Value.ownBlock] at hu
  rcases k.1.2 with ⟨e2, -⟩ | ⟨g2, c2, cur2, e2, -, q2, -⟩
  · rw [e2] at hv; simp [own, Value.ownBlock] at hv
  rw [e] at hu
  rw [e2] at hv
  have p1 : g1 = g := by simpa [own, Value.ownBlock] using hu
  have p2 : g2 = g := by simpa [own, Value.ownBlock] using hv
  subst p1 p2
  rw [q1] at q2
  simp at q2
/-- what stands while the lists grow -/
structure SpG (U : Nat → Prop) (w wr : World) (kn mn i : Nat) (v6 v7 : Value) : Prop where
  l : ∃ xs, Row wr (own v6) 26 9 v6 (kn + i) xs
  m : ∃ xs, Row wr (own v7) 9 1 v7 (mn + i) xs
  lu : ∀ g, own v6 g → U g ∨ w.heap.size ≤ g
  mu : ∀ g, own v7 g → U g ∨ w.heap.size ≤ g
  on : Only U w wr
theorem SpG.pushL {U : Nat → Prop} {w wr w' : World} {kn mn i g c : Nat} {v6 v7 : Value} {xs : List Value} (h : SpG U w wr kn mn i v6 v7) (r : Row w' (Up (own v6) wr.heap.size) 26 9 (.slice (some ⟨g, 0, none⟩) (kn + i + 1) c) (kn + i + 1) xs) (o : Only (own v6) wr w') :
    (∃ xs, Row w' (own (.slice (some ⟨g, 0, none⟩) (kn + i + 1) c)) 26 9 (.slice (some ⟨g, 0, none⟩) (kn + i + 1) c) (kn + (i + 1)) xs) ∧ (∃ xs, Row w' (own v7) 9 1 v7 (mn + i) xs) ∧ (∀ b, own (.slice (some ⟨g, 0, none⟩) (kn + i + 1) c) b → U b ∨ w.heap.size ≤ b) ∧ Only U w w' := by
  obtain ⟨x6, r6⟩ := h.l
  obtain ⟨x7, r7⟩ := h.m
  have hsz := h.on.size
  refine ⟨⟨xs, r.1, fun _ hk => hk⟩, ⟨x7, Row.alike r7 (fun b hb => o.block b (Row.lt r7 hb) (fun hx => row_apartT r6 r7 hx hb))⟩, fun b hb => ?_, h.on.trans (o.mono fun b _ hb => h.lu b hb)⟩
  rcases r.2 b hb with hx | hx
  · exact h.lu b hx
  · exact .inr (by omega)
theorem SpG.pushM {U : Nat → Prop} {w wr w' : World} {kn mn i g c : Nat} {v6 v7 : Value} {xs : List Value} (hl : ∃ xs, Row wr (own v6) 26 9 v6 (kn + (i + 1)) xs) (hm : ∃ xs, Row wr (own v7) 9 1 v7 (mn + i) xs) (hlu : ∀ g, own v6 g → U g ∨ w.heap.size ≤ g) (hmu : ∀ g, own v7 g → U g ∨ w.heap.size ≤ g) (on : Only U w wr)
    (r : Row w' (Up (own v7) wr.heap.size) 9 1 (.slice (some ⟨g, 0, none⟩) (mn + i + 1) c) (mn + i + 1) xs) (o : Only (own v7) wr w') : SpG U w w' kn mn (i + 1) v6 (.slice (some ⟨g, 0, none⟩) (mn + i + 1) c) := by
  obtain ⟨x6, r6⟩ := hl
  obtain ⟨x7, r7⟩ := hm
  have hsz := on.size
  refine ⟨⟨x6, Row.alike r6 (fun b hb => o.block b (Row.lt r6 hb) (fun hx => row_apartT r6 r7 hb hx))⟩, ⟨xs, r.1, fun _ hk => hk⟩, hlu, fun b hb => ?_, on.trans (o.mono fun b _ hb => hmu b hb)⟩
  rcases r.2 b hb with hx | hx
  · exact hmu b hx
  · exact .inr (by omega)

set_option maxRecDepth 100000 in
set_option maxHeartbeats 8000000 in
theorem spoil_step (a : OwnF) (k : FT) (hA : SpoilA k) : SpoilP a k := by
  intro w U f hsep hU hbig
  obtain ⟨ks, Us, ⟨hmn, xs, rm⟩, rk, hm, hk2, hs, hC⟩ := hsep
  obtain ⟨hkn, hkb⟩ := Row9.kidB (ka := f.ka) (kn := f.kn) (kc := f.kc) rk
  have hmb : SlB w 9 1 f.ma f.mn f.mc := (Row.slb (a := f.ma) (n := f.mn) (c := f.mc) rm).2
  have hmk : ∀ g, own f.mids g → ¬ own f.kids g := fun g h1 h2 => row_apartT rk rm h2 h1
  have hh : SpH U Us w f ks := ⟨hU, hm, hk2, hs, hmk, hkn⟩
  obtain ⟨kind, ka, kn, kc, desc, value, start, ma, mn, mc, fin, rule, dn⟩ := f
  simp only at hkn hmn hkb hmb
  have f0 : FlT (w.alloc (.cells #[.int .i8 kind, .slice ka kn kc, .string desc, .string value, .string start, .slice ma mn mc, .string fin, .string rule, .bool dn] 26)) w.heap.size ⟨kind, ka, kn, kc, desc, value, start, ma, mn, mc, fin, rule, dn⟩ := heap_alloc_new _ _
  have x0 := (Ext.refl w).alloc (.cells #[.int .i8 kind, .slice ka kn kc, .string desc, .string value, .string start, .slice ma mn mc, .string fin, .string rule, .bool dn] 26)
  have hS : SpS U Us w (w.alloc (.cells #[.int .i8 kind, .slice ka kn kc, .string desc, .string value, .string start, .slice ma mn mc, .string fin, .string rule, .bool dn] 26)) ⟨kind, ka, kn, kc, desc, value, start, ma, mn, mc, fin, rule, dn⟩ ks k 0 := ⟨f0, hkb.alike (fun b hb => x0.block b (hkb.slb.lt hb)), hmb.alike (fun b hb => x0.block b (hmb.lt hb)), ⟨Us, fun _ h => h, by simpa using hC.next _ _ _ (fun b _ hb => x0.block b hb)⟩, x0.only, hA⟩
  have hkl : Hid (k.len = kn) := by show _ = _; have := hS.len; omega
  have hb : Hid (spL k + kn + mn + 18 ≤ 100000000000) := by show _ ≤ _; unfold spN at hbig; rw [hkl.out, ← hmn] at hbig; exact hbig
  have hres : Hid (((spN a k : Nat) : Int) = ((spL k + (kn + 9) + (mn + 9) : Nat) : Int)) := by show _ = _; unfold spN; rw [hkl.out, hmn]; congr 1; omega
  clear rm rk hm hk2 hs hC hkb hmb hmk hA f0 x0 hbig hmn hU
  simp only [F9.arr]
  have hknh : Hid (kn = ks.length) := hkn
  clear hkn
  go_enter Tryz.func8, Tryz.ntmps8
  go_upto_region 1 with fail
  generalize w.alloc _ = w0 at hS ⊢
  go_wp2_with fail
  have hmnb : mn ≤ 100000000000 := by have := hb.out; omega
  have hknb : kn ≤ 100000000000 := by have := hb.out; omega
  go_loopg [3] (mn + 1) (fun q v3 wr => ∃ i : Nat, v3 = .int .i64 i ∧ Hid (mn - i < q) ∧ SpS U Us w wr ⟨kind, ka, kn, kc, desc, value, start, ma, mn, mc, fin, rule, dn⟩ ks k 0)
  case atStart => exact ⟨0, rfl, by show _ < _; omega, hS⟩
  case round =>
    clear hS
    obtain ⟨i2, rfl, hq, t⟩ := hrel
    have hql := hq.out
    obtain ⟨c0, c1, c2, c3, c4, c5, c6, c7, c8, cz⟩ := t.at9.cells
    simp only at c0 c1 c2 c3 c4 c5 c6 c7 c8
    by_cases hlt : i2 < mn
    · have hlt' : (i2 : Int) < (mn : Int) := by omega
      obtain ⟨g, u, hma, hc, hf, hst⟩ := mid_store t.mid hlt
      simp only at hma
      subst hma
      obtain ⟨m1, o1⟩ := hst ⟨#[115, 112, 111, 105, 108, 116]⟩
      have t2 := t.mids hh o1 m1
      obtain ⟨gm, rfl⟩ : ∃ gm, gk = gm + 1 := ⟨gk - 1, by omega⟩
      have hq2 : Hid (mn - (i2 + 1) < gm) := by show _ < _; omega
      clear hst m1 o1 cz hq hql t
      go_wp2
      go_roundg gm
      case measure => omega
      case rel => exact ⟨i2 + 1, rfl, hq2, t2⟩
    · have hge2 : ¬ (i2 : Int) < (mn : Int) := by omega
      clear hq hql cz
      go_upto_region 7 with fail
      go_loopg [4, 5] (k.len + 1) (fun q v4 v5 wr => ∃ (z i : Nat) (ki : FT), v4 = .int .i64 z ∧ v5 = .int .i64 i ∧ Hid (ki.len < q) ∧ Hid (z + spL ki = spL k) ∧ SpS U Us w wr ⟨kind, ka, kn, kc, desc, value, start, ma, mn, mc, fin, rule, dn⟩ ks ki i)
      case atStart => exact ⟨0, 0, k, rfl, rfl, by show _ < _; omega, by show _ = _; omega, t⟩
      case round =>
        clear t c0 c1 c2 c3 c4 c5 c6 c7 c8
        obtain ⟨z, i, ki, rfl, rfl, hq, hz, s⟩ := hrel
        have hlen := s.len
        have hql := hq.out
        obtain ⟨c0, c1, c2, c3, c4, c5, c6, c7, c8, cz⟩ := s.at9.cells
        simp only at c0 c1 c2 c3 c4 c5 c6 c7 c8
        cases ki with
        | cons b l r =>
          obtain ⟨g, fi, U1, hi, hka, hsp, hg1, hP, hcl, hn1, hn2, hgw, hstep⟩ := s.kid_ hh
          simp only at hka
          subst hka
          have hlt : (i : Int) < (kn : Int) := by have := hknh.out; omega
          have hzo := hz.out
          have hbo := hb.out
          simp only [spL] at hzo
          have hC := hP wr U1 fi hsp hg1 (by unfold spN; omega)
          have hspn : spN b l = spL l + l.len + b.ms.length + 18 := rfl
          obtain ⟨z2, hz2⟩ : ∃ z2, Hid (z2 = z + spN b l) := ⟨_, rfl⟩
          have hadd : (z : Int) + ((spN b l : Nat) : Int) = (z2 : Int) := by have := hz2.out; omega
          have hwr : IntKind.i64.wrap ((z : Int) + ((spN b l : Nat) : Int)) = (z2 : Int) := by rw [IntKind.wrap_i64]; omega
          have hz3 : Hid (z2 + spL r = spL k) := by show _ = _; have := hz2.out; omega
          generalize spN b l = sn at hC hadd hwr hz2 hspn
          obtain ⟨kind3, ka3, kn3, kc3, desc3, value3, start3, ma3, mn3, mc3, fin3, rule3, dn3⟩ := fi
          simp only [F9.arr] at hC
          have e0 := hcl 0 (by simp [F9.arr])
          have e1 := hcl 1 (by simp [F9.arr])
          have e2 := hcl 2 (by simp [F9.arr])
          have e3 := hcl 3 (by simp [F9.arr])
          have e4 := hcl 4 (by simp [F9.arr])
          have e5 := hcl 5 (by simp [F9.arr])
          have e6 := hcl 6 (by simp [F9.arr])
          have e7 := hcl 7 (by simp [F9.arr])
          have e8 := hcl 8 (by simp [F9.arr])
          simp only [F9.arr, List.getElem_toArray, List.getElem_cons_zero, List.getElem_cons_succ, Nat.add_zero] at e0 e1 e2 e3 e4 e5 e6 e7 e8
          have hz2b : z2 ≤ 100000000000 := by have := hz2.out; omega
          clear hsp hg1 hP cz hcl hzo hbo hspn
          go_wp2_with fail
          go_at_call 8
          refine hC.mono ?_
          rintro _ w5 ⟨rfl, ho⟩
          obtain ⟨hcl5, hfz5, f5, s5⟩ := hstep w5 ho
          clear c0 c1 c2 c3 c4 c5 c6 c7 c8 e0 e1 e2 e3 e4 e5 e6 e7 e8
          have e0 := hcl5 0 (by simp [F9.arr])
          have e1 := hcl5 1 (by simp [F9.arr])
          have e2 := hcl5 2 (by simp [F9.arr])
          have e3 := hcl5 3 (by simp [F9.arr])
          have e4 := hcl5 4 (by simp [F9.arr])
          have e5 := hcl5 5 (by simp [F9.arr])
          have e6 := hcl5 6 (by simp [F9.arr])
          have e7 := hcl5 7 (by simp [F9.arr])
          have e8 := hcl5 8 (by simp [F9.arr])
          simp only [F9.arr, List.getElem_toArray, List.getElem_cons_zero, List.getElem_cons_succ, Nat.add_zero] at e0 e1 e2 e3 e4 e5 e6 e7 e8
          have ez0 := hfz5 (i * 9)
          have ez1 := hfz5 (i * 9 + 1)
          have ez2 := hfz5 (i * 9 + 2)
          have ez3 := hfz5 (i * 9 + 3)
          have ez4 := hfz5 (i * 9 + 4)
          have ez5 := hfz5 (i * 9 + 5)
          have ez6 := hfz5 (i * 9 + 6)
          have ez7 := hfz5 (i * 9 + 7)
          have ez8 := hfz5 (i * 9 + 8)
          obtain ⟨c0, c1, c2, c3, c4, c5, c6, c7, c8, -⟩ := f5.cells
          simp only at c0 c1 c2 c3 c4 c5 c6 c7 c8
          obtain ⟨gm, rfl⟩ : ∃ gm, gk = gm + 1 := ⟨gk - 1, by simp only [FT.len] at hql; omega⟩
          have hq2 : Hid (r.len < gm) := by show _ < _; simp only [FT.len] at hql; omega
          have s6 : Hid (SpS U Us w (putK w5 g (i * 9)) ⟨kind, some ⟨g, 0, none⟩, kn, kc, desc, value, start, ma, mn, mc, fin, rule, dn⟩ ks r (i + 1)) := s5
          clear hC hstep ho s hq hql hlen s5 f5 hcl5 hfz5 hn1 hn2
          go_wp2
          go_roundg gm
          case measure => omega
          case rel => exact ⟨z2, i + 1, r, rfl, rfl, hq2, hz3, s6.out⟩
        | nil =>
          have hge : ¬ (i : Int) < (kn : Int) := by have := hknh.out; simp only [FT.len] at hlen; omega
          obtain rfl : z = spL k := by have := hz.out; simpa [spL] using this
          have hG : SpG U w wr kn mn 0 (.slice ka kn kc) (.slice ma mn mc) := ⟨s.kid.slb.row, s.mid.row, fun g hg => .inl (hh.k g hg).1, fun g hg => .inl (hh.m g hg).1, s.on⟩
          clear s hq hz hql hlen cz
          go_upto_region 13 with fail
          clear c0 c1 c2 c3 c4 c5 c6 c7 c8
          go_wp2_with fail
          go_loopg [6, 7, 8] 10 (fun q v6 v7 v8 wr => ∃ (i : Nat) (b6 b7 : Option Addr) (c6 c7 : Nat), v6 = .slice b6 (kn + i) c6 ∧ v7 = .slice b7 (mn + i) c7 ∧ v8 = .int .i64 i ∧ Hid (i + q = 10 ∧ 1 ≤ q) ∧ SpG U w wr kn mn i v6 v7)
          case atStart => exact ⟨0, _, _, _, _, rfl, rfl, rfl, ⟨rfl, by decide⟩, hG⟩
          case round =>
            clear hG
            obtain ⟨i3, b6, b7, q6, q7, rfl, rfl, rfl, hq3, hG⟩ := hrel
            have hql3 := hq3.out
            by_cases hl9 : i3 < 9
            · have hl9i : (i3 : Int) < 9 := by omega
              obtain ⟨xs6, r6⟩ := hG.l
              go_wp2_with (at_builtin; refine Hid.out ?_)
              refine wpList_rowpush rfl _ _ 23 26 _ 9 144 infoF Tryz.underlying23 rfl (by decide) rfl _ _ _ (kn + i3) xs6 _ r6 rfl 1 1 _ rfl rfl rfl (by simp [Value.oneCell']) (by decide) (by unfold maxLen; omega) (by omega) ?_
              intro g5 cap5 w5 r5 o5
              obtain ⟨hl5, hm5, hlu5, on5⟩ := hG.pushL r5 o5
              have hmu5 := hG.mu
              clear hG r6 r5 o5
              obtain ⟨xs7, r7⟩ := hm5
              go_wp2_with (at_builtin; refine Hid.out ?_)
              refine wpList_rowpush rfl _ _ 24 9 _ 1 16 infoS Tryz.underlying24 rfl (by decide) rfl _ _ _ (mn + i3) xs7 _ r7 rfl 1 1 _ rfl rfl rfl (by simp [Value.oneCell']) (by decide) (by unfold maxLen; omega) (by omega) ?_
              intro g8 cap8 w8 r8 o8
              have hG8 := SpG.pushM hl5 ⟨xs7, r7⟩ hlu5 hmu5 on5 r8 o8
              have hG9 : Hid (SpG U w w8 kn mn (i3 + 1) (.slice (some ⟨g5, 0, none⟩) (kn + (i3 + 1)) cap5) (.slice (some ⟨g8, 0, none⟩) (mn + (i3 + 1)) cap8)) := hG8
              obtain ⟨gm, rfl⟩ : ∃ gm, gk = gm + 1 := ⟨gk - 1, by omega⟩
              have hq4 : Hid (i3 + 1 + gm = 10 ∧ 1 ≤ gm) := by show _ ∧ _; omega
              clear hl5 r7 hlu5 hmu5 on5 r8 o8 hG8 hql3 hq3
              go_wp2
              go_roundg gm
              case measure => omega
              case rel => exact ⟨i3 + 1, some ⟨g5, 0, none⟩, some ⟨g8, 0, none⟩, cap5, cap8, rfl, rfl, rfl, hq4, hG9.out⟩
            · have hl9i : ¬ (i3 : Int) < 9 := by omega
              obtain rfl : i3 = 9 := by omega
              have hbo := hb.out
              have ho := hG.on
              obtain ⟨z1, hz1⟩ : ∃ z1, Hid (z1 = spL k + (kn + 9)) := ⟨_, rfl⟩
              obtain ⟨z2, hz2⟩ : ∃ z2, Hid (z2 = z1 + (mn + 9)) := ⟨_, rfl⟩
              have a1 : ((spL k : Nat) : Int) + ((kn : Int) + 9) = (z1 : Int) := by have := hz1.out; omega
              have a1b : ((spL k : Nat) : Int) + ((kn + 9 : Nat) : Int) = (z1 : Int) := by have := hz1.out; omega
              have a2 : (z1 : Int) + ((mn : Int) + 9) = (z2 : Int) := by have := hz2.out; omega
              have a2b : (z1 : Int) + ((mn + 9 : Nat) : Int) = (z2 : Int) := by have := hz2.out; omega
              have b1 : IntKind.i64.wrap (((spL k : Nat) : Int) + ((kn : Int) + 9)) = (z1 : Int) := by rw [IntKind.wrap_i64]; have := hz1.out; omega
              have b1b : IntKind.i64.wrap (((spL k : Nat) : Int) + ((kn + 9 : Nat) : Int)) = (z1 : Int) := by rw [IntKind.wrap_i64]; have := hz1.out; omega
              have b2 : IntKind.i64.wrap ((z1 : Int) + ((mn : Int) + 9)) = (z2 : Int) := by rw [IntKind.wrap_i64]; have := hz1.out; have := hz2.out; omega
              have b2b : IntKind.i64.wrap ((z1 : Int) + ((mn + 9 : Nat) : Int)) = (z2 : Int) := by rw [IntKind.wrap_i64]; have := hz1.out; have := hz2.out; omega
              have hz1b : z1 ≤ 100000000000 := by have := hz1.out; omega
              have hz2b : z2 ≤ 100000000000 := by have := hz1.out; have := hz2.out; omega
              have hfin : Hid (((spN a k : Nat) : Int) = (z2 : Int)) := by show _ = _; rw [hres.out, hz2.out, hz1.out]
              have hoh : Hid (Only U w wr) := ho
              clear hG hql3 hq3 hbo ho
              go_wp2
              go_ret
              exact ⟨ret_i hfin.out.symm, hoh.out⟩
theorem spoil_all : ∀ k : FT, SpoilA k
  | .nil => trivial
  | .cons a k r => ⟨spoil_step a k (spoil_all k), spoil_all r⟩
theorem spoil_any (a : OwnF) (k : FT) : SpoilP a k := spoil_step a k (spoil_all k)
end Go.Proofs.YtfkepclgadeeeaaGreatDoor

/-
  Plain: what spoil counts of a filter that was read.
-/
namespace Go.Proofs.YtfkepclgadeeeaaGreatDoor
open Go.RowKit Go.Shelf

theorem pcGo_ms {s : ByteArray} : ∀ {n : Nat} {a b : OwnF} {p q : Nat}, pcGo s n a p = .ok b q → p ≤ s.size → b.ms.length + p ≤ a.ms.length + q
  | 0, _, _, _, _, h, hp => by cases h; exact Nat.le_refl _
  | n + 1, a, b, p, q, h, hp => by
    rw [pcGo] at h
    split at h
    · rename_i hc
      have hlt := hdIs_lt hc
      obtain ⟨x, q', h1, h2⟩ := Tr.bind_ok h
      have h3 := valR_le (by omega) h1
      have h4 := pcGo_ms h2 h3.2
      simp only at h4
      have h5 : (if a.fin.toList.isEmpty = true then a.ms else a.ms ++ [a.fin]).length ≤ a.ms.length + 1 := by split <;> simp
      omega
    · cases h; exact Nat.le_refl _
theorem pcEnd_ms (a : OwnF) : (pcEnd a).ms = a.ms := by unfold pcEnd; split <;> rfl
theorem eqR_ms {s : ByteArray} {a b : OwnF} {p q : Nat} (h : eqR s a p = .ok b q) (hp : p ≤ s.size) : b.ms.length + p ≤ a.ms.length + q := by
  unfold eqR at h
  obtain ⟨x, q', h1, h2⟩ := Tr.bind_ok h
  have hq := valR_le hp h1
  split at h2
  · obtain ⟨c, r, h3, h4⟩ := Tr.bind_ok h2
    have := pcGo_ms h3 hq.2
    cases h4
    rw [pcEnd_ms]
    simp only at this
    omega
  · cases h2
    simp only
    omega
theorem f9O_ms (f : F9) : (f9O f).ms = [] := rfl
theorem itemR_ms {s : ByteArray} {a : OwnF} {p q : Nat} (h : itemR s p = .ok a q) (hp : p ≤ s.size) : a.ms.length + p ≤ q := by
  have hge := itemR_ge h hp
  unfold itemR at h
  obtain ⟨d, r, h1, h2⟩ := Tr.bind_ok h
  obtain ⟨hd, hr⟩ := headR_ok h1 hp
  have hpr : p ≤ r := by
    unfold headR at h1
    split at h1
    · cases h1; exact Nat.le_refl _
    · exact (descR_le hp h1).1
  unfold signR at h2
  split at h2
  · rename_i hh
    have := eqR_ms h2 (by have := hdIs_lt hh; omega)
    rw [f9O_ms] at this
    simp at this
    omega
  · split at h2
    · obtain ⟨f, r', h3, h4⟩ := Tr.bind_ok h2; cases h4; rw [f9O_ms]; simpa using hge
    · split at h2
      · obtain ⟨f, r', h3, h4⟩ := Tr.bind_ok h2; cases h4; rw [f9O_ms]; simpa using hge
      · split at h2
        · obtain ⟨f, r', h3, h4⟩ := Tr.bind_ok h2; cases h4; rw [f9O_ms]; simpa using hge
        · obtain ⟨f, r', h3, h4⟩ := Tr.bind_ok h2; cases h4; rw [f9O_ms]; simpa using hge
theorem spL_snoc (l : List (OwnF × FT)) (x : OwnF × FT) : spL (toFT (l ++ [x])) = spL (toFT l) + spN x.1 x.2 := by
  induction l with
  | nil => obtain ⟨a, k⟩ := x; simp [toFT, spL, spN]
  | cons y l ih => obtain ⟨b, m⟩ := y; simp only [List.cons_append, toFT, spL, ih]; omega
def RecW (s : ByteArray) (rec : Nat → Nat → Tq (OwnF × FT)) : Prop := ∀ p k x q k', rec p k = .ok x q k' → p ≤ s.size → k ≤ 65536 → spN x.1 x.2 + 1 + 20 * p ≤ 20 * q
theorem ksGo_w {s : ByteArray} {rec : Nat → Nat → Tq (OwnF × FT)} (hr : RecOk s rec) (hw : RecW s rec) : ∀ {n : Nat} {l l' : List (OwnF × FT)} {p k q k' : Nat}, ksGo rec s n l p k = .ok l' q k' → p ≤ s.size → k ≤ 65536 → spL (toFT l') + l'.length + 20 * p ≤ spL (toFT l) + l.length + 20 * q
  | 0, _, _, _, _, _, _, h, hp, hk => by cases h; exact Nat.le_refl _
  | n + 1, l, l', p, k, q, k', h, hp, hk => by
    rw [ksGo] at h
    split at h
    · obtain ⟨x, q1, k1, h1, h2⟩ := Tq.bind_ok h
      obtain ⟨a1, a2, a3⟩ := hr _ _ _ _ _ h1 hp hk
      have b := hw _ _ _ _ _ h1 hp hk
      have c := ksGo_w hr hw h2 a2 a3
      rw [spL_snoc] at c
      simp only [List.length_append, List.length_singleton] at c
      omega
    · cases h; exact Nat.le_refl _
theorem ksR_w {s : ByteArray} {rec : Nat → Nat → Tq (OwnF × FT)} (hr : RecOk s rec) (hw : RecW s rec) {l' : List (OwnF × FT)} {p k q k' : Nat} (h : ksR rec s p k = .ok l' q k') (hp : p ≤ s.size) (hk : k ≤ 65536) : spL (toFT l') + l'.length + 20 * p ≤ 20 * q := by
  unfold ksR at h
  obtain ⟨x, q1, k1, h1, h2⟩ := Tq.bind_ok h
  obtain ⟨a1, a2, a3⟩ := hr _ _ _ _ _ h1 hp hk
  have b := hw _ _ _ _ _ h1 hp hk
  have c := ksGo_w hr hw h2 a2 a3
  have d : spL (toFT [x]) = spN x.1 x.2 := by obtain ⟨a, k⟩ := x; simp [toFT, spL, spN]
  rw [d] at c
  simp only [List.length_singleton] at c
  omega
theorem spN_node (K : Int) (l : List (OwnF × FT)) : spN (nodeO K) (toFT l) = spL (toFT l) + l.length + 18 := by
  unfold spN
  rw [toFT_len]
  rfl
theorem bodyR_w {s : ByteArray} {rec : Nat → Nat → Tq (OwnF × FT)} (hr : RecOk s rec) (hw : RecW s rec) {x : OwnF × FT} {p k q k' : Nat} (h : bodyR rec s p k = .ok x q k') (hp : p ≤ s.size) (hk : k ≤ 65536) : spN x.1 x.2 + 20 * p ≤ 20 * q + 18 := by
  unfold bodyR at h
  split at h
  · rename_i hh
    have hlt := hdIs_lt hh
    obtain ⟨l, q1, k1, h1, h2⟩ := Tq.bind_ok h
    have := ksR_w hr hw h1 (by omega) hk
    cases h2
    rw [spN_node]
    omega
  · split at h
    · rename_i hh
      have hlt := hdIs_lt hh
      obtain ⟨l, q1, k1, h1, h2⟩ := Tq.bind_ok h
      have := ksR_w hr hw h1 (by omega) hk
      cases h2
      rw [spN_node]
      omega
    · split at h
      · rename_i hh
        have hlt := hdIs_lt hh
        obtain ⟨y, q1, k1, h1, h2⟩ := Tq.bind_ok h
        have := hw _ _ _ _ _ h1 (by omega) hk
        cases h2
        rw [spN_node]
        have d : spL (toFT [y]) = spN y.1 y.2 := by obtain ⟨a, k⟩ := y; simp [toFT, spL, spN]
        rw [d]
        simp only [List.length_singleton]
        omega
      · obtain ⟨a, q1, k1, h1, h2⟩ := Tq.bind_ok h
        cases h2
        cases hi : itemR s p with
        | bad c a => rw [hi] at h1; cases h1
        | ok b r =>
          rw [hi] at h1
          cases h1
          have := itemR_ms hi hp
          show spN a .nil + 20 * p ≤ _
          unfold spN
          simp only [spL, FT.len]
          omega
theorem filR_w (s : ByteArray) : ∀ n d, RecW s (filR s n d)
  | 0, d => fun p k x q k' h hp hk => by
    rw [filR] at h
    obtain ⟨u, q1, k1, h1, h2⟩ := Tq.bind_ok h
    cases h2
  | n + 1, d => fun p k x q k' h hp hk => by
    rw [filR] at h
    obtain ⟨u, q1, k1, h1, h2⟩ := Tq.bind_ok h
    obtain ⟨a1, a2, a3, -⟩ := openR_ok h1 hk
    obtain ⟨y, r, k2, h3, h4⟩ := Tq.bind_ok h2
    have b := bodyR_w (filR_ok s n (d + 1)) (filR_w s n (d + 1)) h3 a2 a3
    split at h4
    · cases h4
      omega
    · cases h4
/-- the tree that is handed out -/
def prA : PT → OwnF × FT
  | .ok x => x
  | .bad _ _ _ => (nodeO 0, .nil)
def prC : PT → Nat
  | .ok _ => 0
  | .bad c _ _ => c
def prP : PT → Nat
  | .ok _ => 0
  | .bad _ a _ => a
def prW : PT → ByteArray
  | .ok _ => ⟨#[]⟩
  | .bad _ _ wd => wd
theorem parse_sp (s : ByteArray) : spN (prA (parseR s)).1 (prA (parseR s)).2 ≤ 100000000000 := by
  unfold parseR
  split
  · decide
  · rename_i hs
    cases e : wholeR s with
    | bad c a => show spN (nodeO 0) .nil ≤ _; decide
    | ok x q k =>
      show spN x.1 x.2 ≤ _
      unfold wholeR at e
      obtain ⟨y, q1, k1, h1, h2⟩ := Tq.bind_ok e
      have h := filR_w s 64 1 _ _ _ _ _ h1 (Nat.zero_le _) (Nat.zero_le _)
      have hq := (filR_ok s 64 1 _ _ _ _ _ h1 (Nat.zero_le _) (Nat.zero_le _)).2.1
      split at h2
      · cases h2
      · cases h2
        omega
/-- no filter: the zero one -/
theorem zero_keep (B : Nat → Prop) (w : World) : GKeep B w F9.zero (nodeO 0) .nil :=
  ⟨fun W _ => ⟨⟨rfl, rfl, rfl, rfl, rfl, rfl, rfl, ⟨by decide, by decide, by decide, by decide, by decide⟩, ssl_nil rfl (Nat.zero_le _), (fun s hs => by cases hs), ⟨by decide, by decide⟩⟩, rfl, Nat.le_refl _, Nat.zero_le _, .inl rfl⟩,
    sep_mids (a := nodeO 0) (S := fun _ => True) (row_nil _ _ _ _) (fun g hg => by simp [own, Value.ownBlock] at hg)⟩
end Go.Proofs.YtfkepclgadeeeaaGreatDoor
