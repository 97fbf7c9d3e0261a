/-
  The walk of fresh.
-/
import Derived.Test.YtjannndndbohaaaRfresh
import Derived.BigQuiet
import Derived.Deep.QuietTactic
namespace Go.Proofs.Ytjannndndbohaaa
open Go.RowKit Go.Shelf

theorem rep_length (k b : Nat) : (rep k b).length = k := by simp [rep]
theorem half_set (l : List UInt8) (k b : Nat) (h : k < l.length) : (rep k b ++ l.drop k).set k (UInt8.ofNat b) = rep (k + 1) b ++ l.drop (k + 1) := by
  rw [List.set_append_right _ _ (by rw [rep_length]; omega), rep_length, Nat.sub_self, List.drop_eq_getElem_cons h]
  simp only [List.set_cons_zero, rep, List.replicate_succ']
  simp
theorem row_head {w : World} {S : Nat → Prop} {v : Value} {l : List UInt8} (h : RowB w S v l) (hp : 0 < l.length) : ∃ g cap, v = .slice (some ⟨g, 0, none⟩) l.length cap ∧ l.length ≤ cap ∧ (∀ k (hk : k < l.length), w.cell? ⟨g, k, none⟩ = some (.int .u8 (l[k].toNat : Int))) ∧ ∀ o, w.frozen? ⟨g, o, none⟩ = false := by
  have hc := fun g hg => World.ownsRow.cells h.1 (g := g) hg
  rcases h.1.2 with ⟨_, h0⟩ | ⟨g, cap, cur, rfl, _, hg, h1, _⟩
  · omega
  · refine ⟨g, cap, rfl, h1, fun k hk => ?_, fun o => by simp [World.frozen?, hg]⟩
    have := hc g rfl k (B8 l[k]) (by simp [List.getElem?_eq_getElem hk])
    rwa [Addr.add_lit, Nat.zero_add] at this
def inB (i : Nat) (ls A : Nat → List UInt8) : Nat → List UInt8 := fun j => if j < i then rep (ls j).length j else A j

/-- c of the answers have grown -/
structure Grown (w : World) (N : Nat) (f : Nat → Value) (A : Nat → List UInt8) (B : Nat → List UInt8) (lv : Value) (gs : List Value) (c : Nat) (cur : Nat → Value) (wr : World) : Prop where
  row : RowV wr (fun g => w.heap.size ≤ g) lv gs
  get : ∀ j, j < c → gs[j]? = some (cur j)
  rest : ∀ j, c < j → cur j = f j
  fams : Fams wr N f A cur B
  on : Only (fun g => ∃ j, j < N ∧ own (f j) g) w wr
  feet : ∀ j, j < N → ∀ g, own (cur j) g → own (f j) g ∨ w.heap.size ≤ g
def bC (c q : Nat) : Nat → List UInt8 := fun j => if j < c then rep 70 (100 + j) else if j = c then rep q (100 + c) else []
theorem bC_at (c q : Nat) : bC c q c = rep q (100 + c) := by simp [bC]
theorem bC_next (c : Nat) : bC c 70 = bC (c + 1) 0 := by
  funext j
  simp only [bC]
  by_cases h1 : j < c
  · rw [if_pos h1, if_pos (by omega)]
  · rw [if_neg h1]
    by_cases h2 : j = c
    · subst h2; rw [if_pos rfl, if_pos (by omega)]
    · rw [if_neg h2, if_neg (by omega)]
      split
      · rename_i h3; subst h3; simp [rep]
      · rfl
/-- one byte more -/
theorem Grown.push {w wr : World} {N c q LA : Nat} {f cur : Nat → Value} {A : Nat → List UInt8} {lv : Value} {gs : List Value} (h : Grown w N f A (bC c q) lv gs c cur wr) (hc : c < N) (hN : N ≤ 30) (hq : q < 70) (hLA : (A c).length = LA) (hb : LA < 70000) (ty : TypeId) :
    ∃ ad cap w', (Builtin.append_ #[22, 22] ty #[cur c, .slice (some ⟨wr.heap.size, 0, none⟩) 1 1]).run Try.prog (wr.alloc (.cells #[.int .u8 (100 + (c : Int))] 5)) = .ok (.slice ad (LA + (q + 1)) cap) w' ∧ Grown w N f A (bC c (q + 1)) lv gs c (upd cur c (.slice ad (LA + (q + 1)) cap)) w' := by
  have hx : Ext wr (wr.alloc (.cells #[.int .u8 (100 + (c : Int))] 5)) := (Ext.refl wr).alloc _
  obtain ⟨ad, cap, w', hr, hf, ho, hnw⟩ := Fams.push (h.fams.ext hx) hc (UInt8.ofNat (100 + c)) wr.heap.size (100 + (c : Int)) (by simp; omega) (heap_alloc_new wr _) ty (by rw [bC_at, rep_length]; omega)
  rw [bC_at, rep_length, hLA, show LA + q + 1 = LA + (q + 1) by omega] at hr hf hnw
  have hB : upd (bC c q) c (rep q (100 + c) ++ [UInt8.ofNat (100 + c)]) = bC c (q + 1) := by
    funext j
    by_cases e : j = c
    · subst e; rw [upd_at, bC_at]; simp [rep, List.replicate_succ']
    · rw [upd_ne _ _ _ e]; simp [bC, e]
  rw [hB] at hf
  refine ⟨ad, cap, w', hr, ?_, fun j hj => by rw [upd_ne _ _ _ (by omega)]; exact h.get j hj, fun j hj => by rw [upd_ne _ _ _ (by omega)]; exact h.rest j hj, hf, (h.on.ext hx).trans (ho.mono fun g _ hg => ?_), fun j hj g hg => ?_⟩
  · have h1 := (Row.kept (Row.min (Row.ext h.row hx)) ho (row_apart (Row.ext h.row hx) (Row.ext (h.fams.fam c hc).rv hx) (by decide)))
    exact h1.wide (fun k hk => h.row.2 k hk)
  · rcases h.feet c hc g hg with h1 | h1
    · exact .inl ⟨c, hc, h1⟩
    · exact .inr h1
  · by_cases e : j = c
    · subst e
      rw [upd_at] at hg
      rcases hnw g hg with h1 | h1
      · exact h.feet j hj g h1
      · exact .inr (by have := h.on.size; simp at h1; omega)
    · rw [upd_ne _ _ _ e] at hg; exact h.feet j hj g hg

/-- the grown one is noted -/
theorem Grown.long {w wr w5 : World} {N c g5 cap5 cl : Nat} {f cur : Nat → Value} {A : Nat → List UInt8} {al : Option Addr} {gs : List Value} {gv : Value} (h : Grown w N f A (bC c 70) (.slice al c cl) gs c cur wr) (hgl : gs.length = c) (hgv : cur c = gv)
    (hr5 : Row w5 (Up (own (.slice al c cl)) wr.heap.size) 22 1 (.slice (some ⟨g5, 0, none⟩) (c + 1) cap5) (c + 1) (gs ++ [gv])) (ho5 : Only (own (.slice al c cl)) wr w5) :
    (gs ++ [gv]).length = c + 1 ∧ (∀ j, c + 1 ≤ j → cur j = f j) ∧ Grown w N f A (bC (c + 1) 0) (.slice (some ⟨g5, 0, none⟩) (c + 1) cap5) (gs ++ [gv]) (c + 1) cur w5 := by
  have hlen : (gs ++ [gv]).length = c + 1 := by simp [hgl]
  refine ⟨hlen, fun j hj => h.rest j (by omega), rowV_of hr5 hlen.symm rfl (fun k hk => ?_), fun j hj => ?_, fun j hj => h.rest j (by omega), ?_, h.on.trans (ho5.mono fun g _ hg => .inr (h.row.2 g hg)), h.feet⟩
  · rcases hk with hk | hk
    · exact h.row.2 k hk
    · exact Nat.le_trans h.on.size hk
  · by_cases e : j < c
    · rw [List.getElem?_append_left (by omega)]; exact h.get j e
    · obtain rfl : j = c := by omega
      rw [List.getElem?_append_right (by omega), hgl, Nat.sub_self, hgv]; rfl
  · rw [← bC_next]
    refine h.fams.kept ho5 (fun j hj g hg hg2 => ?_)
    rcases hg with hg | hg
    · exact row_apart h.row (h.fams.fam j hj).ra (by decide) g hg2 hg
    · exact row_apart h.row (h.fams.fam j hj).rv (by decide) g hg2 hg

set_option maxRecDepth 100000 in
set_option maxHeartbeats 8000000 in
theorem fresh_any (w : World) (St Su : Nat → Prop) (t u : Value) (vs us : List Value) (n : Nat) (f fu : Nat → Value) (A : Nat → List UInt8) (ht : RowV w St t vs) (hu : RowV w Su u us) (hvn : vs.length = n) (hun : us.length = n) (hvf : ∀ j (h : j < vs.length), vs[j] = f j) (huf : ∀ j (h : j < us.length), us[j] = fu j)
    (hn : n ≤ 30) (hA : ∀ j, (A j).length < 65536) (hr : Rws w n f A) (hus : ∀ j, j < n → Sl w (fu j) (A j)) :
    Calls Try.prog 33 #[t, u] w fun x w' => x = .returned (.bool true) ∧ Only (fun g => ∃ j, j < n ∧ own (f j) g) w w' := by
  obtain ⟨at1, ct, hts⟩ := row_slice ht
  obtain ⟨au, cu, hus1⟩ := row_slice hu
  rw [hvn] at hts
  rw [hun] at hus1
  subst hts hus1
  have hth : Hid (RowV w St (.slice at1 n ct) vs) := ht
  have huh : Hid (RowV w Su (.slice au n cu) us) := hu
  have hrh : Hid (Rws w n f A) := hr
  have hush : Hid (∀ j, j < n → Sl w (fu j) (A j)) := hus
  have hAh : Hid (∀ j, (A j).length < 65536) := hA
  -- the row of the answers stands while the answers are written
  have htc : Hid (∀ (W : World) i, Only (fun g => ∃ j, j < n ∧ own (f j) g) w W → i < n → ∃ g, at1 = some ⟨g, 0, none⟩ ∧ n ≤ ct ∧ W.cell? ⟨g, i, none⟩ = some (f i)) := fun W i ho hi => by
    have h1 : RowV W (own (.slice at1 n ct)) (.slice at1 n ct) vs := Row.kept (Row.min hth.out) ho (fun g hg => by
      rintro ⟨j, hj, hg2⟩
      exact row_apart hth.out (hrh.out.row j hj) (by decide) g hg hg2)
    obtain ⟨g, cap, e, hcap, hc⟩ := h1.cell (i := i) (by omega)
    rw [hvn] at e hcap
    cases e
    exact ⟨g, rfl, hcap, by rw [hc, hvf]⟩
  have huc : Hid (∀ (W : World) i, Ext w W → i < n → ∃ g, au = some ⟨g, 0, none⟩ ∧ n ≤ cu ∧ W.cell? ⟨g, i, none⟩ = some (fu i)) := fun W i hx hi => by
    obtain ⟨g, cap, e, hcap, hc⟩ := RowV.cell (Row.ext huh.out hx) (i := i) (by omega)
    rw [hun] at e hcap
    cases e
    exact ⟨g, rfl, hcap, by rw [hc, huf]⟩
  clear ht hu hr hus hA hvf huf hvn hun hth huh
  go_enter Try.func33, Try.ntmps33
  go_wp2
  go_loopw [5, 15] (fun _ iv wr => ∃ i : Nat, i ≤ n ∧ iv = .int .i64 i ∧ Ext w wr) (fun _ iv _ => n - (intOf iv).toNat)
  case atStart => exact ⟨0, Nat.zero_le _, rfl, Ext.refl _⟩
  case round =>
    obtain ⟨i, hi, rfl, hx⟩ := hrel
    by_cases hlt : i < n
    · obtain ⟨gt, rfl, hct, hc1⟩ := htc.out wr i hx.only hlt
      obtain ⟨gu, rfl, hcu, hc2⟩ := huc.out wr i hx hlt
      have hs1 := (RowB.sl (hrh.out.row i hlt)).ext hx
      have hs2 := (hush.out i hlt).ext hx
      have hv1 : ∀ m, (convert 22 9 (f i)).run Try.prog (wr.drewN m) = .ok (.string (str (A i))) (wr.drewN m) := fun m => sl_conv (hs1.ext ((Ext.refl wr).drewN m))
      have hv2 : ∀ m, (convert 22 9 (fu i)).run Try.prog (wr.drewN m) = .ok (.string (str (A i))) (wr.drewN m) := fun m => sl_conv (hs2.ext ((Ext.refl wr).drewN m))
      have hlt' : (i : Int) < (n : Int) := by omega
      clear hs1 hs2
      go_wp2
      go_quiet (fail)
      go_wp2
      go_roundw
      case rel => exact ⟨i + 1, hlt, by go_num, hx.drewN nq⟩
      case measure => simp [intOf]; omega
    · obtain rfl : i = n := by omega
      have hr1 : Hid (Rws wr i f (inB 0 A A)) := by
        have : inB 0 A A = A := by funext j; simp [inB]
        show Rws _ _ _ _
        rw [this]; exact hrh.out.ext hx
      have hx1 : Hid (Ext w wr) := hx
      clear hx hrh hush huc
      obtain ⟨w1, hw1⟩ : ∃ w1, w1 = wr := ⟨_, rfl⟩
      subst hw1
      go_wp2
      go_loopw [6, 7, 32, 40] (fun _ _ iv _ wr => ∃ q : Nat, q ≤ i ∧ iv = .int .i64 q ∧ Hid (Rws wr i f (inB q A A)) ∧ Only (fun g => ∃ j, j < i ∧ own (f j) g) w wr) (fun _ _ iv _ _ => i - (intOf iv).toNat)
      case atStart => exact ⟨0, Nat.zero_le _, rfl, hr1, hx1.out.only⟩
      case round =>
        obtain ⟨q, hq, rfl, hrq, hoq⟩ := hrel
        by_cases hlt2 : q < i
        · obtain ⟨gt, rfl, hct, hc1⟩ := htc.out wr q hoq hlt2
          have hrow0 := hrq.out.row q hlt2
          rw [show inB q A A q = A q by simp [inB]] at hrow0
          obtain ⟨aq, cq, hfq⟩ := row_slice hrow0
          have hLA0 := hAh.out q
          obtain ⟨LA, hLA⟩ : ∃ LA, (A q).length = LA := ⟨_, rfl⟩
          have hLAh : Hid ((A q).length = LA) := hLA
          rw [hLA] at hfq
          have hfqh : Hid (f q = .slice aq LA cq) := hfq
          rw [hfq] at hc1
          have hLAb : (LA : Int) < 70000 := by omega
          have hq30 : (q : Int) < 30 := by omega
          have hqi : (q : Int) < (i : Int) := by omega
          have hin : Hid (Rws wr i f (upd (inB q A A) q (rep 0 q ++ (A q).drop 0))) := by
            have e : upd (inB q A A) q (rep 0 q ++ (A q).drop 0) = inB q A A := by
              funext j
              by_cases e : j = q
              · subst e; rw [upd_at]; simp [rep, inB]
              · rw [upd_ne _ _ _ e]
            show Rws _ _ _ _
            rw [e]; exact hrq.out
          have hoqh : Hid (Only (fun g => ∃ j, j < i ∧ own (f j) g) w wr) := hoq
          clear hrow0 hLA hLA0 hfq hrq hoq
          go_wp2
          go_loopw [7, 40] (fun _ kv wq => ∃ k : Nat, k ≤ LA ∧ kv = .int .i64 k ∧ Hid (Rws wq i f (upd (inB q A A) q (rep k q ++ (A q).drop k))) ∧ Hid (Only (fun g => ∃ j, j < i ∧ own (f j) g) w wq)) (fun _ kv _ => LA - (intOf kv).toNat)
          case atStart => exact ⟨0, Nat.zero_le _, rfl, hin, hoqh⟩
          case round =>
            obtain ⟨k, hk, rfl, hrk, hok⟩ := hrel
            by_cases hlk : k < LA
            · obtain ⟨gt', e', _, hc1'⟩ := htc.out wr q hok.out hlt2
              cases e'
              rw [hfqh.out] at hc1'
              have hrow1 := hrk.out.row q hlt2
              rw [upd_at] at hrow1
              have hlen1 : (rep k q ++ (A q).drop k).length = LA := by rw [List.length_append, rep_length, List.length_drop, hLAh.out]; omega
              obtain ⟨g, cap, e2, hcap, hcs, hfz⟩ := row_head hrow1 (by rw [hlen1]; omega)
              rw [hfqh.out, hlen1] at e2
              have hck := hcs k (by rw [hlen1]; exact hlk)
              rw [hlen1] at hcap
              cases e2
              have hput := hrk.out.put hlt2 hfqh.out k (by rw [upd_at, hlen1]; exact hlk) (UInt8.ofNat q) (q : Int) (by simp; omega)
              have hputh : Hid (Rws (wr.setCell ⟨g, k, none⟩ (.int .u8 (q : Int))) i f (upd (inB q A A) q (rep (k + 1) q ++ (A q).drop (k + 1)))) := by
                have e : upd (upd (inB q A A) q (rep k q ++ (A q).drop k)) q ((upd (inB q A A) q (rep k q ++ (A q).drop k) q).set k (UInt8.ofNat q)) = upd (inB q A A) q (rep (k + 1) q ++ (A q).drop (k + 1)) := by
                  funext j
                  by_cases e : j = q
                  · subst e; rw [upd_at, upd_at, upd_at, half_set _ _ _ (by rw [hLAh.out]; exact hlk)]
                  · rw [upd_ne _ _ _ e, upd_ne _ _ _ e, upd_ne _ _ _ e]
                rw [e] at hput
                exact hput
              have hfk := hfz k
              have hklt : (k : Int) < (LA : Int) := by omega
              have hown : own (f q) g := by rw [hfqh.out]; rfl
              have honh : Hid (Only (fun g => ∃ j, j < i ∧ own (f j) g) w (wr.setCell ⟨g, k, none⟩ (.int .u8 (q : Int)))) := hok.out.setCell (.inl ⟨q, hlt2, hown⟩) _
              generalize (rep k q ++ (A q).drop k)[k]'(by rw [hlen1]; exact hlk) = bk at hck
              clear hrow1 hput hcs hfz hrk hok hlen1
              go_wp2
              go_roundw
              case rel => exact ⟨k + 1, hlk, by go_num, hputh, honh⟩
              case measure => simp [intOf]; omega
            · obtain rfl : k = LA := by omega
              have hnext : Hid (Rws wr i f (inB (q + 1) A A)) := by
                have e : upd (inB q A A) q (rep k q ++ (A q).drop k) = inB (q + 1) A A := by
                  funext j
                  by_cases e : j = q
                  · subst e; rw [upd_at, List.drop_of_length_le (by rw [hLAh.out]; exact Nat.le_refl _)]; simp [inB, hLAh.out]
                  · rw [upd_ne _ _ _ e]
                    simp only [inB]
                    by_cases h1 : j < q
                    · rw [if_pos h1, if_pos (by omega)]
                    · rw [if_neg h1, if_neg (by omega)]
                have h9 := hrk.out
                rw [e] at h9
                exact h9
              clear hrk hin
              go_wp2
              go_roundw
              case rel => exact ⟨q + 1, hlt2, by go_num, hnext, hok.out⟩
              case measure => simp [intOf]; omega
        · obtain rfl : q = i := by omega
          obtain ⟨A1, hA1⟩ : ∃ A1 : Nat → List UInt8, inB q A A = A1 := ⟨_, rfl⟩
          have hA1l : Hid (∀ j, j < q → A1 j = rep (A j).length j) := fun j hj => by rw [← hA1]; simp [inB, hj]
          have hst : Hid (Grown w q f A1 (bC 0 0) (.slice none 0 0) [] 0 f wr) := by
            have h9 := hrq.out
            rw [hA1] at h9
            refine ⟨row_nil _ _ _ _, fun j hj => by omega, fun j hj => rfl, ?_, hoq, fun j _ g hg => .inl hg⟩
            have e : bC 0 0 = fun _ => [] := by funext j; simp [bC, rep]
            rw [e]
            exact Fams.start h9
          clear hrq hoq hA1 hr1 hx1
          go_wp2
          go_loopw [8, 9, 10, 55, 62] (fun lv _ _ cv _ wq => ∃ (c : Nat) (gs : List Value) (cur : Nat → Value) (al : Option Addr) (cl : Nat), c ≤ q ∧ cv = .int .i64 c ∧ lv = .slice al c cl ∧ Hid (gs.length = c ∧ (∀ j, c ≤ j → cur j = f j) ∧ Grown w q f A1 (bC c 0) (.slice al c cl) gs c cur wq)) (fun _ _ _ cv _ _ => q - (intOf cv).toNat)
          case atStart => exact ⟨0, [], f, none, 0, Nat.zero_le _, rfl, rfl, ⟨rfl, fun _ _ => rfl, hst.out⟩⟩
          case round =>
            obtain ⟨c, gs, cur, al, cl, hcq, rfl, rfl, hgr⟩ := hrel
            by_cases hlc : c < q
            · obtain ⟨gt, rfl, hct, hc1⟩ := htc.out wr c hgr.out.2.2.on hlc
              have hrowc := (hgr.out.2.2.fams.fam c hlc).ra
              obtain ⟨ac, cc, hfc⟩ := row_slice hrowc
              have hLA0 := hAh.out c
              obtain ⟨LA, hLA⟩ : ∃ LA, (A1 c).length = LA := ⟨_, rfl⟩
              have hLAl : LA < 70000 := by rw [← hLA, hA1l.out c hlc, rep_length]; omega
              have hLAh : Hid ((A1 c).length = LA) := hLA
              rw [hLA] at hfc
              have hfch : Hid (f c = .slice ac LA cc) := hfc
              rw [hfc] at hc1
              have hci : (c : Int) < (q : Int) := by omega
              have hc30 : (c : Int) < 30 := by omega
              have hcurc : Hid (cur c = .slice ac LA cc) := by show _ = _; rw [hgr.out.2.1 c (Nat.le_refl _)]; exact hfc
              clear hrowc hLA hLA0 hfc
              go_wp2
              go_loopw [10, 62] (fun gv qv wq => ∃ (r : Nat) (cur' : Nat → Value) (ad : Option Addr) (cap : Nat), r ≤ 70 ∧ qv = .int .i64 r ∧ gv = .slice ad (LA + r) cap ∧ Hid (cur' c = .slice ad (LA + r) cap ∧ Grown w q f A1 (bC c r) (.slice al c cl) gs c cur' wq)) (fun _ qv _ => 70 - (intOf qv).toNat)
              case atStart => exact ⟨0, cur, ac, cc, by omega, rfl, rfl, ⟨hcurc.out, hgr.out.2.2⟩⟩
              case round =>
                obtain ⟨r, cur', ad, cap, hr70, rfl, rfl, hg2⟩ := hrel
                by_cases hlr : r < 70
                · obtain ⟨ad', cap', w', hrun, hgn⟩ := Grown.push hg2.out.2 hlc hn hlr hLAh.out hLAl 22
                  rw [hg2.out.1] at hrun
                  have hgnh : Hid (upd cur' c (.slice ad' (LA + (r + 1)) cap') c = .slice ad' (LA + (r + 1)) cap' ∧ Grown w q f A1 (bC c (r + 1)) (.slice al c cl) gs c (upd cur' c (.slice ad' (LA + (r + 1)) cap')) w') := ⟨upd_at _ _ _, hgn⟩
                  clear hgn
                  go_wp2_with (at_builtin; refine Hid.out ?_)
                  refine Lib.wpList_append_run _ rfl _ _ _ _ rfl _ _ rfl rfl _ _ hrun ?_
                  go_wp2
                  go_roundw
                  case rel => exact ⟨r + 1, _, ad', cap', by omega, by go_num, rfl, hgnh⟩
                  case measure => simp [intOf]; omega
                · obtain rfl : r = 70 := by omega
                  have hrl : Hid (Row wr (own (.slice al c cl)) 22 1 (.slice al c cl) c gs) := by
                    have := Row.min hg2.out.2.row
                    rwa [hgr.out.1] at this
                  go_wp2_with (at_builtin; refine Hid.out ?_)
                  refine wpList_rowpush rfl _ _ 58 22 _ 1 24 infoV Try.underlying58 rfl (by decide) rfl _ _ _ _ _ _ hrl.out rfl 1 1 _ rfl rfl rfl ?h1 (by decide) ?h2 ?h3 ?_
                  case h1 => simp [Value.oneCell']
                  case h2 => simp only [maxLen]; omega
                  case h3 => omega
                  intro g5 cap5 w5 hr5 ho5
                  have hfin : Hid _ := Grown.long hg2.out.2 hgr.out.1 hg2.out.1 hr5 ho5
                  clear hr5 ho5
                  go_wp2
                  go_roundw
                  case rel => exact ⟨c + 1, _, cur', some ⟨g5, 0, none⟩, cap5, hlc, by go_num, rfl, hfin⟩
                  case measure => simp [intOf]; omega
            · obtain rfl : c = q := by omega
              have hlc1 : Hid (∀ i, i < c → ∃ g ai ci, al = some ⟨g, 0, none⟩ ∧ c ≤ cl ∧ wr.cell? ⟨g, i, none⟩ = some (.slice ai ((A i).length + 70) ci) ∧
                  (∀ k, k < (A i).length + 70 → ∃ gi, ai = some ⟨gi, 0, none⟩ ∧ (A i).length + 70 ≤ ci ∧ (¬ k < (A i).length → wr.cell? ⟨gi, k, none⟩ = some (.int .u8 (100 + (i : Int)))))) := fun i hi => by
                obtain ⟨hgl, _, hgrn⟩ := hgr.out
                obtain ⟨g, cap, e, hcap, hcl⟩ := hgrn.row.cell (i := i) (by omega)
                rw [hgl] at e hcap
                cases e
                have hget := hgrn.get i hi
                rw [List.getElem?_eq_getElem (by omega)] at hget
                rw [Option.some.inj hget] at hcl
                have hrv := (hgrn.fams.fam i hi).rv
                have hlen : (A1 i ++ bC c 0 i).length = (A i).length + 70 := by rw [hA1l.out i hi]; simp [bC, hi, rep_length]
                obtain ⟨gi, ci, ei, hci, hcs, _⟩ := row_head hrv (by rw [hlen]; omega)
                rw [hlen] at ei hci
                refine ⟨g, some ⟨gi, 0, none⟩, ci, rfl, hcap, by rw [hcl, ei], fun k hk => ⟨gi, rfl, hci, fun hnk => ?_⟩⟩
                rw [hcs k (by rw [hlen]; exact hk)]
                have e2 : (A1 i ++ bC c 0 i)[k]'(by rw [hlen]; exact hk) = UInt8.ofNat (100 + i) := by
                  rw [List.getElem_append_right (by rw [hA1l.out i hi, rep_length]; omega)]
                  have hb : bC c 0 i = List.replicate 70 (UInt8.ofNat (100 + i)) := by simp only [bC, if_pos hi, rep]
                  simp only [hb, List.getElem_replicate]
                rw [e2]
                congr 2
                simp; omega
              have hlf : Hid (∀ i, i < c → ∃ g af cf, at1 = some ⟨g, 0, none⟩ ∧ c ≤ ct ∧ wr.cell? ⟨g, i, none⟩ = some (.slice af (A i).length cf) ∧
                  (∀ k, k < (A i).length → ∃ gf, af = some ⟨gf, 0, none⟩ ∧ (A i).length ≤ cf ∧ wr.cell? ⟨gf, k, none⟩ = some (.int .u8 (i : Int)))) := fun i hi => by
                obtain ⟨hgl, _, hgrn⟩ := hgr.out
                obtain ⟨g, rfl, hct, hc1⟩ := htc.out wr i hgrn.on hi
                have hra := (hgrn.fams.fam i hi).ra
                obtain ⟨af, cf, ef⟩ := row_slice hra
                have hlen : (A1 i).length = (A i).length := by rw [hA1l.out i hi, rep_length]
                rw [hlen] at ef
                refine ⟨g, af, cf, rfl, hct, by rw [hc1, ef], fun k hk => ?_⟩
                obtain ⟨gi, ci, ei, hci, hcs, _⟩ := row_head hra (by rw [hlen]; omega)
                rw [hlen, ef] at ei
                rw [hlen] at hci
                cases ei
                refine ⟨gi, rfl, hci, ?_⟩
                rw [hcs k (by rw [hlen]; exact hk)]
                have e2 : (A1 i)[k]'(by rw [hlen]; exact hk) = UInt8.ofNat i := by simp [hA1l.out i hi, rep]
                rw [e2]
                congr 2
                simp; omega
              have hon9 : Hid (Only (fun g => ∃ j, j < c ∧ own (f j) g) w wr) := hgr.out.2.2.on
              clear hgr hst htc hA1l
              obtain ⟨w9, hw9⟩ : ∃ w9, w9 = wr := ⟨_, rfl⟩
              subst hw9
              go_wp2
              go_loopw [11, 12, 78, 86] (fun _ _ iv _ wq => ∃ i : Nat, i ≤ c ∧ iv = .int .i64 i ∧ w9 = wq) (fun _ _ iv _ _ => c - (intOf iv).toNat)
              case atStart => exact ⟨0, Nat.zero_le _, rfl, rfl⟩
              case round =>
                obtain ⟨i, hic, rfl, rfl⟩ := hrel
                by_cases hli : i < c
                · obtain ⟨gl, ai, ci, rfl, hcl, hcell1, hks⟩ := hlc1.out i hli
                  obtain ⟨gt, af, cf, rfl, hct, hcell2, hks2⟩ := hlf.out i hli
                  have hLA0 := hAh.out i
                  obtain ⟨LA, hLA⟩ : ∃ LA, (A i).length = LA := ⟨_, rfl⟩
                  simp only [hLA] at hcell1 hcell2 hks hks2 hLA0
                  obtain ⟨M, hM⟩ : ∃ M, LA + 70 = M := ⟨_, rfl⟩
                  simp only [hM] at hcell1 hks
                  have hMb : M < 80000 := by omega
                  have hLM : LA ≤ M := by omega
                  have hksh : Hid (∀ k, k < M → ∃ gi, ai = some ⟨gi, 0, none⟩ ∧ M ≤ ci ∧ (¬ k < LA → w9.cell? ⟨gi, k, none⟩ = some (.int .u8 (100 + (i : Int))))) := hks
                  have hks2h : Hid (∀ k, k < LA → ∃ gf, af = some ⟨gf, 0, none⟩ ∧ LA ≤ cf ∧ w9.cell? ⟨gf, k, none⟩ = some (.int .u8 (i : Int))) := hks2
                  have hi30 : (i : Int) < 30 := by omega
                  have hic' : (i : Int) < (c : Int) := by omega
                  clear hks hks2 hLA hLA0 hM
                  go_wp2
                  go_loopw [12, 86] (fun _ kv wq => ∃ k : Nat, k ≤ M ∧ kv = .int .i64 k ∧ w9 = wq) (fun _ kv _ => M - (intOf kv).toNat)
                  case atStart => exact ⟨0, Nat.zero_le _, rfl, rfl⟩
                  case round =>
                    obtain ⟨k, hk, rfl, rfl⟩ := hrel
                    by_cases hlk : k < M
                    · obtain ⟨gi, rfl, hci, hbig⟩ := hksh.out k hlk
                      by_cases hkl : k < LA
                      · obtain ⟨gf, rfl, hcf, hsm⟩ := hks2h.out k hkl
                        clear hbig
                        go_wp2
                        go_roundw
                        case rel => exact ⟨k + 1, hlk, by go_num, trivial⟩
                        case measure => simp [intOf]; omega
                      · have hb9 := hbig hkl
                        have hkl' : (LA : Int) ≤ (k : Int) := by omega
                        clear hbig
                        go_wp2
                        go_roundw
                        case rel => exact ⟨k + 1, hlk, by go_num, trivial⟩
                        case measure => simp [intOf]; omega
                    · go_wp2
                      go_roundw
                      case rel => exact ⟨i + 1, hli, by go_num, trivial⟩
                      case measure => simp [intOf]; omega
                · go_wp2
                  go_ret
                  exact ⟨rfl, hon9.out⟩
end Go.Proofs.Ytjannndndbohaaa
