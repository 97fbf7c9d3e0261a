/-
  A row of steps cut into its parts.
-/
import Derived.Test.YtbgoddcpgogpdaaNst2ToNst3
import Derived.Test.YtbgoddcpgogpdaaSputToXpush
namespace Go.Proofs.Ytbgoddcpgogpdaa
open Go.RowKit

theorem infoS6 : (Try.prog.info? 9).map (fun i => (i.zero, i.size, i.bytes)) = some (some (.string ⟨#[]⟩), 1, 16) := by kernel_rfl
theorem ne_empty6 {s : ByteArray} (h : ¬ s.size = 0) : s.toList.isEmpty = false := by
  rw [ByteArray.toList_eq]
  cases hl : s.data.toList with
  | nil => exfalso; apply h; rw [← byt_length]; unfold byt; rw [hl]; rfl
  | cons a l => rfl
theorem stepL_fin (l : List UInt8) : stepL (l.length + 1) (-1) l = none ∨ ∃ r, stepL (l.length + 1) (-1) l = some r ∧ r.length < l.length := by
  cases h : stepL (l.length + 1) (-1) l with
  | none => exact .inl rfl
  | some r => exact .inr ⟨r, rfl, (stepL_suf _ _ _ _ h).2⟩

set_option maxRecDepth 100000 in
set_option maxHeartbeats 4000000 in
theorem cut_any (w : World) (s : ByteArray) (hs : s.size ≤ 1000000000) :
    Calls Try.prog 30 #[.string s] w fun e w' => Ext w w' ∧ ((stepsL (byt s) = none ∧ e = .returned (.tuple #[.slice none 0 0, .bool false])) ∨
      ∃ q v, stepsL (byt s) = some q ∧ e = .returned (.tuple #[v, .bool true]) ∧ RowE 9 encS w' (fun k => w.heap.size ≤ k) v (q.map str)) := by
  have hcs := fun w1 (t : ByteArray) (h : t.size ≤ 140737488355328) => cutStep_any w1 t h
  go_enter Try.func30, Try.ntmps30
  go_wp2
  go_loopw [2, 4] (fun v x wr => ∃ (l : List UInt8) (acc : List (List UInt8)), x = .string (str l) ∧ Hid ((stepsL l).map (acc ++ ·) = stepsL (byt s)) ∧ acc.length + l.length ≤ s.size ∧ RowE 9 encS wr (fun k => w.heap.size ≤ k) v (acc.map str) ∧ Ext w wr) (fun _ x _ => match x with | .string t => t.size | _ => 0)
  case atStart => exact ⟨byt s, [], by rw [str_byt], by show _ = _; cases stepsL (byt s) <;> simp, by rw [byt_length]; simp, row_nil _ _ _ _, Ext.refl _⟩
  case round =>
    obtain ⟨l, acc, rfl, HI, hl, hrow, hx⟩ := hrel
    cases l with
    | nil =>
      have hv : Hid (stepsL (byt s) = some acc) := by have h0 := HI.out; rw [stepsL_nil] at h0; show _ = _; rw [← h0]; simp
      have hb0 : str [] = ⟨#[]⟩ := rfl
      rw [hb0]
      clear HI hcs
      obtain ⟨ra, rc, hre⟩ := row_slice hrow
      subst hre
      go_wp2
      go_ret2
      exact ⟨hx, .inr ⟨acc, _, hv.out, rfl, hrow⟩⟩
    | cons c r =>
      obtain ⟨l, hle⟩ : ∃ l, l = c :: r := ⟨_, rfl⟩
      rw [← hle] at HI hl ⊢
      have hln : l ≠ [] := by rw [hle]; simp
      have hne : (str l).toList.isEmpty = false := by rw [hle]; exact str_ne
      have hsz : (str l).size = l.length := by rw [← byt_length, byt_str]
      have hc := hcs wr (str l) (by omega)
      rw [byt_str, hsz] at hc
      have hst := stepsL_step hln
      clear hcs hle
      rcases stepL_fin l with hf | ⟨r2, hf, hr2⟩
      · rw [hf] at hc hst
        simp only [stV] at hc
        have hv : Hid (stepsL (byt s) = none) := by show _ = _; rw [← HI.out, hst]; rfl
        clear hst hf HI
        go_wp2_with (go_at_call 43; refine hc.mono ?_; rintro _ w1 ⟨rfl, x1⟩)
        go_ret2
        exact ⟨hx.trans x1, .inl ⟨hv.out, rfl⟩⟩
      · have hsuf := (stepL_suf _ _ _ _ hf).1
        rw [hf] at hc hst
        simp only [stV] at hc
        have htl : (l.take (l.length - r2.length)).length = l.length - r2.length := by rw [List.length_take]; omega
        obtain ⟨st, hsth⟩ : ∃ st, st = str (l.take (l.length - r2.length)) := ⟨_, rfl⟩
        rw [← hsth] at hc
        have hss : st.size = l.length - r2.length := by rw [hsth, ← byt_length, byt_str, htl]
        have hsn : st.toList.isEmpty = false := ne_empty6 (by omega)
        have hsl : (st.size : Int) ≤ ((str l).size : Int) := by omega
        have hex : Hid ((str l).extract st.size (str l).size = str r2) := by
          show _ = _
          rw [← str_byt ((str l).extract st.size _), byt_from, byt_str, hss, ← List.suffix_iff_eq_drop.1 hsuf]
        have hN : Hid ((stepsL r2).map ((acc ++ [l.take (l.length - r2.length)]) ++ ·) = stepsL (byt s)) := by
          show _ = _
          rw [← HI.out, hst]
          simp only
          generalize stepsL r2 = zz
          cases zz <;> simp
        have hsth2 : Hid (st = str (l.take (l.length - r2.length)) ∧ r2.length < l.length ∧ (str l).size = l.length) := ⟨hsth, hr2, hsz⟩
        obtain ⟨ra, rc, hre⟩ := row_slice hrow
        subst hre
        have hrh : Hid (Row wr (fun k => w.heap.size ≤ k) 9 1 (.slice ra acc.length rc) acc.length ((acc.map str).map encS)) := by
          have h0 := hrow; unfold RowE at h0; rw [List.length_map] at h0; exact h0
        have hlb : acc.length ≤ 1000000000 := by omega
        rw [List.length_map]
        clear hst hf HI hrow hsth hss hsz
        go_wp2_with (first | (go_at_call 43; refine hc.mono ?_; rintro _ w1 ⟨rfl, x1⟩) | (at_builtin; refine Hid.out ?_))
        refine wpList_rowpush rfl _ _ 58 9 _ 1 16 infoS6 Try.underlying58 rfl (by decide) (by rfl) w1 (fun k => w.heap.size ≤ k) (.slice ra acc.length rc) acc.length ((acc.map str).map encS) #[.string st] (Row.ext hrh.out x1) (by rfl) 1 1 w1.heap.size (by rfl) (by rfl) (by rfl) (by intro u hu; simp only [List.mem_singleton] at hu; subst hu; rfl) (by decide) (by unfold maxLen; omega) (by omega) ?_
        intro g5 cap5 w5 r5 o5
        go_wp2
        go_roundw
        case rel =>
          obtain ⟨h1, h2, h3⟩ := hsth2.out
          refine ⟨r2, acc ++ [l.take (l.length - r2.length)], by rw [hex.out], hN, by simp; omega, ?_, hx.trans x1 |>.then o5 (fun k hk => hk)⟩
          refine rowE_of r5 (by simp) (by rw [h1]; simp [encS]) (fun k hk => hk.elim id (fun h' => ?_))
          have := (hx.trans x1).size
          omega
        case measure =>
          obtain ⟨h1, h2, h3⟩ := hsth2.out
          rw [hex.out]
          simp only
          rw [h3, ← byt_length, byt_str]
          exact h2
end Go.Proofs.Ytbgoddcpgogpdaa
