/-
  put: each word that nobody has yet is given to a place.
-/
import Derived.Test.YtbioickfookjeaaGreatDoorSmap
namespace Go.Proofs.YtbioickfookjeaaGreatDoor
open Go.RowKit Go.Maps

def encS (s : ByteArray) : Value := .string s
theorem oneS (x : ByteArray) : (encS x).oneCell' = true := rfl
theorem infoStr : (Tryz.prog.info? 9).map (fun i => (i.zero, i.size, i.bytes)) = some (some (.string ⟨#[]⟩), 1, 16) := by kernel_rfl
def put1 (z : Int) (f : List UInt8 → Option Int) (x : ByteArray) : List UInt8 → Option Int := if (f (lowL (byt x))).getD (-1) = -1 then upd f (lowL (byt x)) z else f
def putL (z : Int) (f : List UInt8 → Option Int) (ws : List ByteArray) : List UInt8 → Option Int := ws.foldl (put1 z) f
theorem putL_take (z : Int) (f : List UInt8 → Option Int) (ws : List ByteArray) (k : Nat) (h : k < ws.length) : putL z f (ws.take (k + 1)) = put1 z (putL z f (ws.take k)) ws[k] := by
  rw [List.take_succ_eq_append_getElem h, putL, List.foldl_append]; rfl
section
variable {α : Type} {enc : α → Value}
theorem Sl.only {S : Nat → Prop} {w w' : World} {v : Value} {l : List α} (h : Sl enc w v l) (k : Only S w w') (hS : ∀ g c t fz, w.heap[g]? = some (.cells c t fz) → ¬ S g) : Sl enc w' v l := by
  obtain ⟨a, cap, rfl, h1, h2, h3⟩ := h
  refine ⟨a, cap, rfl, h1, h2, fun j hj => ?_⟩
  obtain ⟨g, o, e, hc⟩ := h3 j hj
  refine ⟨g, o, e, k.cell hc ?_⟩
  cases hh : w.heap[g]? with
  | none => simp [World.cell?, hh] at hc
  | some ob =>
    cases ob with
    | cells c t fz => exact hS g c t fz hh
    | _ => simp [World.cell?, hh] at hc
end
theorem MapAt.apart {w : World} {m n : Nat} {f : List UInt8 → Option Int} (h : MapAt w m n f) : ∀ g c t fz, w.heap[g]? = some (.cells c t fz) → ¬ (fun k => k = m) g := fun g c t fz e hg => by
  have hg' : g = m := hg
  subst hg'; exact h.notCells c t fz e
/-- a word ahead of others, in a row of its own -/
theorem run_ahead (w : World) (x : ByteArray) (v : Value) (l : List ByteArray) (ty : TypeId) (hs : Sl encS w v l) (hl : l.length ≤ 1000000000) :
    ∃ w' a cap, (Builtin.append_ #[47, 47] ty #[.slice (some ⟨w.heap.size, 0, none⟩) 1 1, v]).run Tryz.prog (w.alloc (.cells #[.string x] 9)) = .ok (.slice a (1 + l.length) cap) w' ∧
      RowE 9 encS w' (fun k => w.heap.size ≤ k) (.slice a (1 + l.length) cap) (x :: l) ∧ Ext w w' := by
  have hrow : Row (w.alloc (.cells #[.string x] 9)) (fun k => w.heap.size ≤ k) 9 1 (.slice (some ⟨w.heap.size, 0, none⟩) 1 1) 1 [.string x] := by
    refine ⟨⟨rfl, .inr ⟨w.heap.size, 1, #[.string x], rfl, Nat.zero_le _, heap_alloc_new w _, by omega, by unfold maxLen; omega, by simp, rfl⟩⟩, fun k hk => ?_⟩
    simp only [Value.ownBlock, Option.some.injEq] at hk
    omega
  have hsrc := srcV Tryz.underlying47 oneS (hs.ext ((Ext.refl w).alloc (.cells #[.string x] 9)))
  obtain ⟨v', w', h1, h2, h3, a, cap, rfl⟩ := run_append_row1 _ _ 47 9 47 ty _ 16 infoStr Tryz.underlying47 rfl _ 1 _ hrow v l.length (l.map encS) hsrc (by unfold maxLen; omega) (by omega)
  refine ⟨w', a, cap, h1, rowE_of h2 (by simp; omega) (by simp [encS]) ?_, ((Ext.refl w).alloc _).then h3 (fun g hg => hg)⟩
  rintro k (hk | hk)
  · exact hk
  · simp only [World.size_alloc] at hk; omega

set_option maxRecDepth 100000 in
set_option maxHeartbeats 4000000 in
theorem put_any (w : World) (m n : Nat) (f : List UInt8 → Option Int) (z : Int) (hz : (Lit.int .i64 z).wf = true) (x : ByteArray) (v : Value) (l : List ByteArray) (hm : MapAt w m n f) (hs : Sl encS w v l) (hx : ∀ y ∈ x :: l, y.size ≤ 281474976710656) (hl : l.length ≤ 1000000000) (hn : n ≤ 1000000000) :
    Calls Tryz.prog 95 #[.map (some m), .int .i64 z, .string x, v] w fun e w' => e = .returned (.tuple #[]) ∧ MapAt w' m (n + (1 + l.length)) (putL z f (x :: l)) ∧ Only (fun k => k = m) w w' := by
  obtain ⟨w2, a2, c2, hr2, r2, x2⟩ := run_ahead w x v l 47 hs hl
  have hr2h : Hid _ := hr2
  have hm2 : Hid (MapAt w2 m n f) := hm.ext x2
  have sl2 : Hid (Sl encS w2 (.slice a2 (1 + l.length) c2) (x :: l)) := r2.sl
  obtain ⟨a, nn, cc, rfl, _⟩ := hs.shape
  have hcap := r2.sl.len.2.1
  have hx2 : Hid (Ext w w2) := x2
  obtain ⟨L, hL⟩ : ∃ L, 1 + l.length = L := ⟨_, rfl⟩
  have hLh : Hid ((x :: l).length = L) := by show _ = _; rw [← hL]; simp; omega
  have hLb : L ≤ 1000000001 := by omega
  rw [hL] at hr2h sl2 hcap ⊢
  clear hr2 r2 hs hm x2 hL hl
  generalize x :: l = ws at *
  go_enter Tryz.func95, Tryz.ntmps95
  go_wp2_with (at_builtin; refine Hid.out ?_)
  refine Lib.wpList_append_run _ rfl _ _ _ _ rfl _ _ rfl rfl _ _ hr2h.out ?_
  clear hr2h
  go_wp2
  go_loopw [9, 15] (fun _ i wr => ∃ k : Nat, k ≤ L ∧ i = .int .i64 k ∧ Hid (MapAt wr m (n + k) (putL z f (ws.take k)) ∧ Only (fun q => q = m) w2 wr ∧ Sl encS wr (.slice a2 L c2) ws)) (fun _ i _ => L - (intOf i).toNat)
  case atStart => exact ⟨0, Nat.zero_le _, rfl, hm2, Only.refl _ _, sl2⟩
  case round =>
    obtain ⟨k, hk, rfl, HR⟩ := hrel
    obtain ⟨M, O, SL⟩ := HR.out
    clear HR hm2 sl2
    by_cases hlt : k < L
    · have hlt' : (k : Int) < (L : Int) := by omega
      have hkw : k < ws.length := by have := hLh.out; omega
      obtain ⟨g, o, rfl, ck⟩ := SL.at k hkw
      have hsz := hx ws[k] (List.getElem_mem _)
      have hstep := putL_take z f ws k hkw
      unfold encS at ck
      generalize ws[k] = y at *
      have hf := fun w1 (h : Ext wr w1) => find_any w1 m (n + k) _ y (M.ext h) hsz
      have hsm := fun w1 => small_any w1 y hsz
      have hyl : (str (lowL (byt y))).size ≤ maxLen := by rw [← byt_length, byt_str]; simp [lowL, byt_length]; unfold maxLen; omega
      have hst := fun w1 (h : Ext wr w1) => (M.ext h).store (str (lowL (byt y))) hyl z hz (by unfold maxLen; omega)
      simp only [byt_str] at hst
      have hSLh : Hid (Sl encS wr (.slice (some ⟨g, o, none⟩) L c2) ws) := SL
      have hMh : Hid (MapAt wr m (n + k) (putL z f (ws.take k))) := M
      have hOh : Hid (Only (fun q => q = m) w2 wr) := O
      have hsth : Hid _ := hst
      clear SL M O hyl hst
      by_cases hc : (putL z f (ws.take k) (lowL (byt y))).getD (-1) = -1
      · have hnew : Hid (putL z f (ws.take (k + 1)) = upd (putL z f (ws.take k)) (lowL (byt y)) z) := by show _ = _; rw [hstep, put1, if_pos hc]
        rw [hc] at hf
        clear hc hstep
        generalize str (lowL (byt y)) = q at *
        go_wp2_with (first
          | (go_at_call 157; refine (hf _ (Ext.refl _)).mono ?_; rintro e w3 ⟨rfl, x3⟩)
          | (go_at_call 158; refine (hsm _).mono ?_; rintro e w4 ⟨rfl, x4⟩; obtain ⟨w5, hr5, M5, O5⟩ := hsth.out _ (x3.trans x4)))
        go_roundw
        case rel =>
          refine ⟨k + 1, hlt, by go_num, ?_, hOh.out.then ((x3.trans x4).only.then O5), (hSLh.out.ext (x3.trans x4)).only O5 (hMh.out.ext (x3.trans x4)).apart⟩
          rw [hnew.out]; exact M5
        case measure => simp [intOf]; omega
      · have hnew : Hid (putL z f (ws.take (k + 1)) = putL z f (ws.take k)) := by show _ = _; rw [hstep, put1, if_neg hc]
        generalize (putL z f (ws.take k) (lowL (byt y))).getD (-1) = c at *
        clear hstep
        go_wp2_with (go_at_call 157; refine (hf _ (Ext.refl _)).mono ?_; rintro e w3 ⟨rfl, x3⟩)
        go_roundw
        case rel =>
          refine ⟨k + 1, hlt, by go_num, ?_, hOh.out.then x3.only, hSLh.out.ext x3⟩
          rw [hnew.out]
          obtain ⟨D, ho, hd⟩ := hMh.out.ext x3
          exact ⟨D, ho.mono (by omega), hd⟩
        case measure => simp [intOf]; omega
    · have hlt' : ¬ (k : Int) < (L : Int) := by omega
      have hend : Hid (ws.take k = ws) := List.take_of_length_le (by have := hLh.out; omega)
      obtain rfl : k = L := by omega
      go_wp2
      go_end0
      refine ⟨rfl, ?_, ?_⟩
      · rw [hend.out] at M; exact M
      · exact (hx2.out.only).then O
end Go.Proofs.YtbioickfookjeaaGreatDoor
