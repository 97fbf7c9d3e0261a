/-
  rarestFirst: the counts of each gram once, in some order.
-/
import Derived.Test.YtpajkeljgifndaaGreatGy
import Derived.Test.YtpajkeljgifndaaGreatGshelf
namespace Go.Proofs.YtpajkeljgifndaaGreat
open Go.RowKit Go.Maps Go.Shelf Go.Lib

theorem sw_only {α : Type} [Inhabited α] (enc : α → Value) (w : World) (g m : Nat) (d : Array α) (os : Array Obj) : Only (fun k => k = g) w (sortWorld enc w g 0 m d os) := by
  refine ⟨rfl, rfl, rfl, by simp [sortWorld, Sort.ahead], fun k hk hn => ?_⟩
  have hkg : g ≠ k := fun e => hn e.symm
  unfold sortWorld
  rw [Sort.heap_grow_old _ _ (by simpa [Sort.ahead] using hk)]
  simp only [Sort.putRow, Sort.mapBlock, Sort.ahead, Array.getElem?_modify, if_neg hkg]
theorem sw_row {α : Type} [Inhabited α] {enc : α → Value} {e : TypeId} {w : World} {S : Nat → Prop} {g n cap : Nat} {l : List α} (h : RowE e enc w S (.slice (some ⟨g, 0, none⟩) n cap) l) (m : Nat) (os : Array Obj) (d : Array α) (hd : d.size = l.length) :
    RowE e enc (sortWorld enc w g 0 m d os) S (.slice (some ⟨g, 0, none⟩) n cap) d.toList := by
  rcases h.1.2 with ⟨e9, _⟩ | ⟨g', cap', cur, e9, h2, hg, h3, h4, h5, h6⟩
  · cases e9
  · simp only [Value.slice.injEq, Option.some.injEq, Addr.mk.injEq] at e9
    obtain ⟨⟨rfl, _, _⟩, rfl, rfl⟩ := e9
    have hlt : g < w.heap.size := (Array.getElem?_eq_some_iff.1 hg).1
    have hp : (sortWorld enc w g 0 m d os).heap[g]? = some (.cells (Sort.putCells enc 0 d cur) e (0, 0)) := by
      unfold sortWorld
      rw [Sort.heap_grow_old _ _ (by simpa [Sort.ahead] using hlt)]
      simp only [Sort.putRow, Sort.mapBlock, Sort.ahead, Array.getElem?_modify, if_true, hg, Option.map_some, Sort.onCells]
    refine ⟨⟨by simp, .inr ⟨g, cap, _, by simp [hd], Nat.zero_le _, hp, by simp [hd]; omega, h4, by simpa [Sort.putCells] using h5, ?_⟩⟩, h.2⟩
    rw [Nat.mul_one] at *
    have hcl : l.length ≤ cur.size := by omega
    refine List.ext_getElem (by simp [Sort.putCells, hd]; omega) fun j h7 h8 => ?_
    simp only [List.length_map, Array.length_toList] at h8
    simp only [List.getElem_take, Array.getElem_toList, Sort.putCells, Array.getElem_mapIdx, List.getElem_map]
    rw [if_pos ⟨Nat.zero_le _, by omega⟩, Nat.sub_zero, getElem!_pos d j h8]
theorem row_holds {α : Type} [Inhabited α] {enc : α → Value} {e : TypeId} {w : World} {S : Nat → Prop} {g n cap : Nat} {l : List α} (h : RowE e enc w S (.slice (some ⟨g, 0, none⟩) n cap) l) : Sort.Holds enc w g 0 l.toArray ∧ g < w.heap.size ∧ n = l.length := by
  rcases h.1.2 with ⟨e9, _⟩ | ⟨g', cap', cur, e9, h2, hg, h3, h4, h5, h6⟩
  · cases e9
  · simp only [Value.slice.injEq, Option.some.injEq, Addr.mk.injEq] at e9
    obtain ⟨⟨rfl, _, _⟩, rfl, rfl⟩ := e9
    refine ⟨fun j hj => ?_, (Array.getElem?_eq_some_iff.1 hg).1, rfl⟩
    have hj' : j < l.length := by simpa using hj
    have hc := World.ownsRow.cells h.1 (g := g) rfl j (enc l[j]) (by simp [List.getElem?_eq_getElem hj'])
    rw [Addr.add_lit] at hc
    refine ⟨?_, by simp [World.frozen?, hg]⟩
    rw [hc, getElem!_pos l.toArray j hj]
    simp
theorem lt_len (K : UInt32 → Nat) (x y : UInt32) : ltOf (fun a b => Lib.compareInt (K a) (K b)) x y = decide (K x < K y) := by
  unfold ltOf Lib.compareInt
  by_cases h1 : K x < K y
  · have h1i : (K x : Int) < (K y : Int) := by omega
    simp [h1, h1i]
  · have h1i : ¬ (K x : Int) < (K y : Int) := by omega
    by_cases h2 : K y < K x
    · have h2i : (K x : Int) > (K y : Int) := by omega
      simp [h1, h1i, h2i]
    · have h2i : ¬ (K x : Int) > (K y : Int) := by omega
      simp [h1, h1i, h2i]
theorem swo_len (K : UInt32 → Nat) : Sort.SWO (ltOf (fun a b => Lib.compareInt (K a) (K b))) where
  irrefl x := by rw [lt_len]; simp
  trans x y z h1 h2 := by rw [lt_len] at *; simp at *; omega
  ntrans x y z h1 h2 := by rw [lt_len] at *; simp at *; omega
theorem sortM_any (w : World) (S : Nat → Prop) (n : Nat) (h : UInt32 → Option Nat) (G : UInt32 → UInt64 → Nat) (hi : ∀ g, CtOp w n (h g) (G g)) (u : Value) (gs : List UInt32) (hr : RowE 57 (encM h) w S u gs) (hl : 0 < gs.length) (hl2 : gs.length ≤ 17592186044415) :
    Calls Tryz.prog 38 #[u, .func (.func 39) #[] #[]] w fun e w' => e = .returned (.tuple #[]) ∧ ∃ ds, ds.Perm gs ∧ RowE 57 (encM h) w' S u ds ∧ Only (own u) w w' := by
  obtain ⟨g0, cap, rfl⟩ : ∃ g0 cap, u = .slice (some ⟨g0, 0, none⟩) gs.length cap := by
    rcases hr.1.2 with ⟨_, e⟩ | ⟨g0, cap, _, e, _⟩
    · omega
    · exact ⟨g0, cap, e⟩
  obtain ⟨hH, hb, _⟩ := row_holds hr
  have hne : ∀ g c, h g = some c → c ≠ g0 := fun g c hc e => by
    have h9 := hi g
    rw [hc] at h9
    obtain ⟨es, cl, ho⟩ := CtAt.obj h9
    rcases hr.1.2 with ⟨e9, _⟩ | ⟨g', cap', cur, e9, _, hg, _⟩
    · cases e9
    · simp only [Value.slice.injEq, Option.some.injEq, Addr.mk.injEq] at e9
      obtain ⟨⟨rfl, _, _⟩, _, _⟩ := e9
      rw [e, hg] at ho
      cases ho
  have hK : ∀ g, ∃ k, Many (G g) k := fun g => let ⟨k, _, h2, _⟩ := (hi g).len; ⟨k, h2⟩
  obtain ⟨K, hKs⟩ := Classical.axiomOfChoice hK
  have hW : ∀ (m : Nat) (os : Array Obj) (dk : Array UInt32) g, CtOp (sortWorld (encM h) w g0 0 m dk os) n (h g) (G g) := fun m os dk g => (hi g).only (sw_only (encM h) w g0 m dk os) (fun c hc e => hne g c hc e)
  have hlen : ∀ (W : World) g, CtOp W n (h g) (G g) → ∀ w' ty, Ext W w' → (Builtin.len_ #[57] ty #[.map (h g)]).run Tryz.prog w' = .ok (.int .i64 (K g : Int)) w' := fun W g hc w' ty x => by
    obtain ⟨k, _, h2, h3⟩ := (hc.ext x).len
    rw [h3 ty, h2.uniq (hKs g)]
  have hcr : CmpReads Tryz.prog 39 #[] (encM h) (fun a b => Lib.compareInt (K a) (K b)) g0 0 gs.toArray.size w := fun m os dk _ x y =>
    cmpLen_any _ (h x) (h y) (K x) (K y) (hlen _ x (hW m os dk x)) (hlen _ y (hW m os dk y))
  have eg : ∀ args w, (callFunc 39 args).run Tryz.prog w = .ok (.enter 39 args) w := enters_of Tryz.func39 (by kernel_rfl) rfl
  have hcon := Any.slices_SortFunc Tryz.laysF (encM h) (fun _ => rfl) _ (swo_len K) 39 #[] g0 0 cap gs.toArray w eg hcr.lays hH hb (by simp; omega)
  have hsz : gs.toArray.size = gs.length := by simp
  rw [hsz] at hcon
  refine Calls.mono hcon ?_
  rintro e w' ⟨rfl, d', m, os, hp, _, rfl⟩
  refine ⟨rfl, d'.toList, ?_, sw_row hr m os d' (by have := hp.1; simpa using this), (sw_only (encM h) w g0 m d' os).mono (fun k _ e => by have e' : k = g0 := e; rw [e']; rfl)⟩
  have h1 := hp.2.2
  have h2 : d'.size = gs.length := by have := hp.1; simpa using this
  rw [show d'.extract 0 gs.length = d' by rw [← h2]; simp, show gs.toArray.extract 0 gs.length = gs.toArray by rw [← hsz]; simp] at h1
  simpa using h1
end Go.Proofs.YtpajkeljgifndaaGreat
