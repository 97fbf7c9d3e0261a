/-
  PacketJust's own look at pieces.
-/
import Derived.Test.YtmcodhdphdckkaaGreatDoorQJ
import Derived.BigQuiet
import Derived.Shelf.RegionOpenPlain
namespace Go.Proofs.YtmcodhdphdckkaaGreatDoor
open Go.RowKit Go.Shelf

/-- a row of headers in memory -/
structure TRow (w : World) (g : Nat) (ts : List Tl) : Prop where
  c : ∀ i (hi : i < ts.length), w.cell? ⟨g, i * 5, none⟩ = some (.int .i8 ts[i].cls) ∧ w.cell? ⟨g, i * 5 + 1, none⟩ = some (.bool ts[i].cons) ∧ w.cell? ⟨g, i * 5 + 2, none⟩ = some (.int .i64 ts[i].num) ∧ w.cell? ⟨g, i * 5 + 3, none⟩ = some (.int .i64 ts[i].fro) ∧ w.cell? ⟨g, i * 5 + 4, none⟩ = some (.int .i64 ts[i].til)
theorem TRow.ext {w w' : World} {g : Nat} {ts : List Tl} (h : TRow w g ts) (x : Ext w w') : TRow w' g ts := ⟨fun i hi => by
  obtain ⟨h0, h1, h2, h3, h4⟩ := h.c i hi
  exact ⟨x.cell h0, x.cell h1, x.cell h2, x.cell h3, x.cell h4⟩⟩
theorem pcs_bad {ts : List Tl} {i : Nat} (hi : i < ts.length) {t : Tl} (ht : ts[i] = t) (hinv : 0 < i → jPieces ts = jPcM (ts.drop i)) (hbad : jTag t < 128 ∨ 130 < jTag t ∨ (jTag t = 128 ∧ 0 < i) ∨ (jTag t = 130 ∧ i + 1 < ts.length) ∨ 65536 < t.til - t.fro) : jPieces ts = false := by
  have hd := List.drop_eq_getElem_cons hi
  have hl : (ts.drop (i + 1)).length = ts.length - (i + 1) := List.length_drop
  have hM : ¬ (jTag t = 128 ∧ i = 0) → jPcM (t :: ts.drop (i + 1)) = false := by
    intro h0
    by_cases hs : 65536 < t.til - t.fro
    · simp [jPcM, jSz]; omega
    · have h9 : ¬ jTag t = 129 := by omega
      by_cases h3 : jTag t = 130
      · have : ts.drop (i + 1) ≠ [] := fun h => by rw [h] at hl; simp at hl; omega
        simp [jPcM, h9, this]
      · simp [jPcM, h9, h3]
  by_cases h0 : 0 < i
  · rw [hinv h0, hd, ht]; exact hM (by omega)
  · obtain rfl : i = 0 := by omega
    have hts : ts = t :: ts.drop 1 := by rw [← ht]; simpa using hd
    have hM' : ¬ (jTag t = 128 ∧ 0 = 0) → jPcM (t :: ts.drop 1) = false := hM
    generalize ts.drop 1 = u at hts hM'
    rw [hts, jPieces]
    by_cases h8 : jTag t = 128
    · rw [if_pos h8]; simp [jSz]; omega
    · rw [if_neg h8]; exact hM' (by omega)
theorem pcs_good {ts : List Tl} {i : Nat} (hi : i < ts.length) {t : Tl} (ht : ts[i] = t) (hinv : 0 < i → jPieces ts = jPcM (ts.drop i)) (hg : (jTag t = 128 ∧ i = 0 ∨ jTag t = 129 ∨ jTag t = 130 ∧ i + 1 = ts.length) ∧ t.til - t.fro ≤ 65536) : jPieces ts = jPcM (ts.drop (i + 1)) := by
  have hd := List.drop_eq_getElem_cons hi
  have hl : (ts.drop (i + 1)).length = ts.length - (i + 1) := List.length_drop
  have hz : jSz t = true := by simp [jSz]; omega
  have hM : ¬ (jTag t = 128 ∧ i = 0) → jPcM (t :: ts.drop (i + 1)) = jPcM (ts.drop (i + 1)) := by
    intro h0
    by_cases h3 : jTag t = 129
    · simp [jPcM, h3, hz]
    · have h4 : jTag t = 130 := by omega
      have : ts.drop (i + 1) = [] := List.length_eq_zero_iff.mp (by omega)
      simp [jPcM, h4, this, hz]
  by_cases h0 : 0 < i
  · rw [hinv h0, hd, ht]; exact hM (by omega)
  · obtain rfl : i = 0 := by omega
    have hts : ts = t :: ts.drop 1 := by rw [← ht]; simpa using hd
    have hM' : ¬ (jTag t = 128 ∧ 0 = 0) → jPcM (t :: ts.drop 1) = jPcM (ts.drop 1) := hM
    show jPieces ts = jPcM (ts.drop 1)
    generalize ts.drop 1 = u at hts hM'
    rw [hts, jPieces]
    by_cases h8 : jTag t = 128
    · rw [if_pos h8]; simp [hz]
    · rw [if_neg h8]; exact hM' (by omega)
set_option maxRecDepth 100000 in
set_option maxHeartbeats 4000000 in
theorem jPieces_any (w : World) (X : Value) (g cap : Nat) (ts : List Tl) (hlen : ts.length ≤ cap) (hsm : ts.length < 36028797018963968) (hr : TRow w g ts) (hf : ∀ t ∈ ts, t.Fine) : Calls Tryz.prog 41 #[X, .slice (some ⟨g, 0, none⟩) ts.length cap] w fun e w' => e = .returned (.bool (jPieces ts)) ∧ Ext w w' := by
  obtain ⟨n, hn⟩ : ∃ n, ts.length = n := ⟨_, rfl⟩
  rw [hn] at hlen hsm
  have hnh : Hid (ts.length = n) := hn
  rw [hn]
  clear hn
  have hfh : Hid (∀ t ∈ ts, t.Fine) := hf
  clear hf
  go_enter Tryz.func41, Tryz.ntmps41
  go_wp2
  go_loopw [9] (fun a wr => ∃ i : Nat, i ≤ n ∧ a = .int .i64 i ∧ (0 < i → jPieces ts = jPcM (ts.drop i)) ∧ Ext w wr) (fun a _ => n - (intOf a).toNat)
  case atStart => exact ⟨0, Nat.zero_le _, rfl, fun h => absurd h (by omega), Ext.refl _⟩
  case round =>
    obtain ⟨i, hi, rfl, hinv, hx⟩ := hrel
    have hinvh : Hid (0 < i → jPieces ts = jPcM (ts.drop i)) := hinv
    clear hinv
    by_cases hlt : i < n
    · have hlt' : i < ts.length := by rw [hnh.out]; exact hlt
      obtain ⟨c0, c1, c2, c3, c4⟩ := (hr.ext hx).c i hlt'
      have ht := hfh.out ts[i] (List.getElem_mem hlt')
      have hT := fun W => jTag_any W ts[i] ht
      generalize htt : ts[i] = t at c0 c1 c2 c3 c4 ht hT
      have htt' : Hid (ts[i] = t) := htt
      clear htt
      obtain ⟨-, -, f3, f4⟩ := ht
      generalize hk : jTag t = k at hT
      have hkh : Hid (jTag t = k) := hk
      clear hk
      obtain ⟨cls, cons, num, fro, til⟩ := t
      simp only [jV] at c0 c1 c2 c3 c4 f3 f4 hT
      go_wp2_with fail
      go_at_call 38
      refine (hT _).mono ?_
      rintro _ w2 ⟨rfl, x2⟩
      have d3 := x2.cell c3
      have d4 := x2.cell c4
      clear c0 c1 c2 c3 c4 hT
      try dsimp only
      obtain ⟨sz, hsz⟩ : ∃ sz : Nat, (til : Int) - (fro : Int) = (sz : Int) := ⟨til - fro, by omega⟩
      obtain ⟨m, hm⟩ : ∃ m : Nat, (n : Int) - 1 = (m : Int) := ⟨n - 1, by omega⟩
      have hw1 : IntKind.i64.wrap (sz : Int) = (sz : Int) := by rw [IntKind.wrap_i64]; omega
      have hw2 : IntKind.i64.wrap (m : Int) = (m : Int) := by rw [IntKind.wrap_i64]; omega
      go_upto_region 5 with fail
      by_cases h1 : k < 128
      · have b0 : decide ((k : Int) < 128) = true := decide_eq_true (by omega)
        go_quiet (fail)
        go_wp2
        go_ret
        refine ⟨?_, (hx.trans x2).drewN _⟩
        rw [pcs_bad hlt' htt'.out hinvh.out (by rw [hkh.out, hnh.out]; dsimp only; omega)]
        rfl
      have b2 : decide ((k : Int) < 128) = false := decide_eq_false (by omega)
      by_cases h2 : 130 < k
      · have b0 : decide ((130 : Int) < (k : Int)) = true := decide_eq_true (by omega)
        go_quiet (fail)
        go_wp2
        go_ret
        refine ⟨?_, (hx.trans x2).drewN _⟩
        rw [pcs_bad hlt' htt'.out hinvh.out (by rw [hkh.out, hnh.out]; dsimp only; omega)]
        rfl
      have b3 : decide ((130 : Int) < (k : Int)) = false := decide_eq_false (by omega)
      by_cases h3 : k = 128
      · have b4 : ((k : Int) == 128) = true := by simp; omega
        have b5 : ((k : Int) == 130) = false := by simp; omega
        by_cases h4 : 0 < i
        · have b6 : decide ((0 : Int) < (i : Int)) = true := decide_eq_true (by omega)
          have b7 : decide (0 < i) = true := decide_eq_true h4
          go_quiet (fail)
          go_wp2
          go_ret
          refine ⟨?_, (hx.trans x2).drewN _⟩
          rw [pcs_bad hlt' htt'.out hinvh.out (by rw [hkh.out, hnh.out]; dsimp only; omega)]
          rfl
        · have b6 : decide ((0 : Int) < (i : Int)) = false := decide_eq_false (by omega)
          have b7 : decide (0 < i) = false := decide_eq_false h4
          by_cases hbig : 65536 < til - fro
          · have b1 : decide ((65536 : Int) < (sz : Int)) = true := decide_eq_true (by omega)
            go_quiet (fail)
            go_wp2
            go_ret
            refine ⟨?_, (hx.trans x2).drewN _⟩
            rw [pcs_bad hlt' htt'.out hinvh.out (by rw [hkh.out, hnh.out]; dsimp only; omega)]
            rfl
          · have b1 : decide ((65536 : Int) < (sz : Int)) = false := decide_eq_false (by omega)
            go_quiet (fail)
            go_wp2
            go_roundw
            case rel => exact ⟨i + 1, by omega, by go_num, fun _ => pcs_good hlt' htt'.out hinvh.out (by rw [hkh.out, hnh.out]; dsimp only; omega), (hx.trans x2).drewN _⟩
            case measure => simp [intOf]; omega
      have b4 : ((k : Int) == 128) = false := by simp; omega
      by_cases h5 : k = 130
      · have b5 : ((k : Int) == 130) = true := by simp; omega
        by_cases h6 : i < m
        · have b6 : decide ((i : Int) < (m : Int)) = true := decide_eq_true (by omega)
          have b7 : decide (i < m) = true := decide_eq_true h6
          go_quiet (fail)
          go_wp2
          go_ret
          refine ⟨?_, (hx.trans x2).drewN _⟩
          rw [pcs_bad hlt' htt'.out hinvh.out (by rw [hkh.out, hnh.out]; dsimp only; omega)]
          rfl
        · have b6 : decide ((i : Int) < (m : Int)) = false := decide_eq_false (by omega)
          have b7 : decide (i < m) = false := decide_eq_false h6
          by_cases hbig : 65536 < til - fro
          · have b1 : decide ((65536 : Int) < (sz : Int)) = true := decide_eq_true (by omega)
            go_quiet (fail)
            go_wp2
            go_ret
            refine ⟨?_, (hx.trans x2).drewN _⟩
            rw [pcs_bad hlt' htt'.out hinvh.out (by rw [hkh.out, hnh.out]; dsimp only; omega)]
            rfl
          · have b1 : decide ((65536 : Int) < (sz : Int)) = false := decide_eq_false (by omega)
            go_quiet (fail)
            go_wp2
            go_roundw
            case rel => exact ⟨i + 1, by omega, by go_num, fun _ => pcs_good hlt' htt'.out hinvh.out (by rw [hkh.out, hnh.out]; dsimp only; omega), (hx.trans x2).drewN _⟩
            case measure => simp [intOf]; omega
      have b5 : ((k : Int) == 130) = false := by simp; omega
      by_cases hbig : 65536 < til - fro
      · have b1 : decide ((65536 : Int) < (sz : Int)) = true := decide_eq_true (by omega)
        go_quiet (fail)
        go_wp2
        go_ret
        refine ⟨?_, (hx.trans x2).drewN _⟩
        rw [pcs_bad hlt' htt'.out hinvh.out (by rw [hkh.out, hnh.out]; dsimp only; omega)]
        rfl
      · have b1 : decide ((65536 : Int) < (sz : Int)) = false := decide_eq_false (by omega)
        go_quiet (fail)
        go_wp2
        go_roundw
        case rel => exact ⟨i + 1, by omega, by go_num, fun _ => pcs_good hlt' htt'.out hinvh.out (by rw [hkh.out, hnh.out]; dsimp only; omega), (hx.trans x2).drewN _⟩
        case measure => simp [intOf]; omega
    · obtain rfl : i = n := by omega
      go_wp2
      go_ret
      refine ⟨?_, hx⟩
      by_cases h0 : 0 < i
      · rw [hinvh.out h0, List.drop_eq_nil_of_le (by rw [hnh.out]; exact Nat.le_refl _)]
        simp [jPcM, h0]
      · have : ts = [] := List.length_eq_zero_iff.mp (by rw [hnh.out]; omega)
        rw [this]
        simp [jPieces]; omega
end Go.Proofs.YtmcodhdphdckkaaGreatDoor

/-
  PacketJust's own look at a rule's items.
-/
namespace Go.Proofs.YtmcodhdphdckkaaGreatDoor
open Go.RowKit Go.Shelf

theorem rul_bad {l : List UInt8} {t : Tl} {r : List Tl} {a : Nat} {v n : Bool} (h : jTag t ≤ a ∨ 132 < jTag t ∨ 65536 < t.til - t.fro) : jRul l (t :: r) a v n = false := by rw [jRul, if_pos h]
theorem keep_rule (w : World) (d : ByteArray) (hd : d.size ≤ 281474976710656) : FV w (.agg (F9.arr ⟨9, none, 0, 0, ⟨#[]⟩, ⟨#[]⟩, ⟨#[]⟩, none, 0, 0, ⟨#[]⟩, d, false⟩)) { ownK 9 with rule := d } .nil :=
  ⟨_, rfl, ⟨rfl, rfl, rfl, rfl, rfl, rfl, rfl, ⟨Nat.zero_le _, Nat.zero_le _, Nat.zero_le _, Nat.zero_le _, hd⟩, ssl_nil rfl (Nat.zero_le _), (fun s hs => by cases hs), by show (-128 : Int) ≤ 9 ∧ (9 : Int) ≤ 127; decide⟩, fkids_nil _ _ _ _ _ _ _ _ _ _ _⟩
theorem rul_s129 {l : List UInt8} {t : Tl} {r : List Tl} {a : Nat} {v n : Bool} (ht : jTag t = 129) (ha : a < 129) (hs : ¬ 65536 < t.til - t.fro) : jRul l (t :: r) a v n = if cutB l t.fro t.til = [] then jRul l r 129 v n else if (checkL { ownK 9 with rule := str (cutB l t.fro t.til) } .nil).1 = 0 then jRul l r 129 v true else false := by
  rw [jRul, if_neg (by omega), if_pos ht]
theorem rul_s130 {l : List UInt8} {t : Tl} {r : List Tl} {a : Nat} {v n : Bool} (ht : jTag t = 130) (ha : a < 130) (hs : ¬ 65536 < t.til - t.fro) : jRul l (t :: r) a v n = if cutB l t.fro t.til = [] then jRul l r 130 v n else if jDesc l t then jRul l r 130 v true else false := by
  rw [jRul, if_neg (by omega), if_neg (by omega), if_pos ht]
theorem rul_s131 {l : List UInt8} {t : Tl} {r : List Tl} {a : Nat} {v n : Bool} (ht : jTag t = 131) (ha : a < 131) (hs : ¬ 65536 < t.til - t.fro) : jRul l (t :: r) a v n = jRul l r 131 true n := by
  rw [jRul, if_neg (by omega), if_neg (by omega), if_neg (by omega), if_pos ht]
theorem rul_s132 {l : List UInt8} {t : Tl} {r : List Tl} {a : Nat} {v n : Bool} (ht : jTag t = 132) (ha : a < 132) (hs : ¬ 65536 < t.til - t.fro) : jRul l (t :: r) a v n = if cutB l t.fro t.til = [0] ∨ cutB l t.fro t.til = [255] then jRul l r 132 v n else false := by
  rw [jRul, if_neg (by omega), if_neg (by omega), if_neg (by omega), if_neg (by omega), if_pos ht]
set_option maxRecDepth 100000 in
set_option maxHeartbeats 8000000 in
theorem jRule_any (w : World) (X : Nat) (vb : Value) (l : List UInt8) (pn : Int) (hX : JfAt w X vb pn) (hs : Sl w vb l) (hll : l.length ≤ 281474976710656) (g cap : Nat) (ts : List Tl) (hlen : ts.length ≤ cap) (hsm : ts.length < 36028797018963968) (hr : TRow w g ts) (hf : ∀ t ∈ ts, t.Fine ∧ t.til ≤ l.length) : Calls Tryz.prog 42 #[.pointer (some ⟨X, 0, none⟩), .slice (some ⟨g, 0, none⟩) ts.length cap] w fun e w' => e = .returned (.bool (jRule l ts)) ∧ Ext w w' := by
  obtain ⟨n, hn⟩ : ∃ n, ts.length = n := ⟨_, rfl⟩
  rw [hn] at hlen hsm
  have hnh : Hid (ts.length = n) := hn
  rw [hn]
  clear hn
  have hfh : Hid (∀ t ∈ ts, t.Fine ∧ t.til ≤ l.length) := hf
  clear hf
  have hmix : Tryz.prog.follows Departure.mixedOrders = true := by kernel_rfl
  obtain ⟨sa, sc, rfl, hs1, hs2, hs3⟩ := id hs
  clear hs2 hs3
  go_enter Tryz.func42, Tryz.ntmps42
  go_wp2
  go_loopw [5, 6, 7, 16] (fun a v m i wr => ∃ (ii aa : Nat) (vv nn : Bool), ii ≤ n ∧ i = .int .i64 ii ∧ a = .int .i64 aa ∧ v = .bool vv ∧ m = .bool nn ∧ 128 ≤ aa ∧ aa ≤ 132 ∧ jRule l ts = jRul l (ts.drop ii) aa vv nn ∧ Ext w wr) (fun _ _ _ a _ => n - (intOf a).toNat)
  case atStart => exact ⟨0, 128, false, false, Nat.zero_le _, rfl, rfl, rfl, rfl, by omega, by omega, rfl, Ext.refl _⟩
  case round =>
    obtain ⟨i, aa, vv, nn, hi, rfl, rfl, rfl, rfl, ha1, ha2, hinv, hx⟩ := hrel
    have hinvh : Hid (jRule l ts = jRul l (ts.drop i) aa vv nn) := hinv
    clear hinv
    by_cases hlt : i < n
    · have hlt' : i < ts.length := by rw [hnh.out]; exact hlt
      obtain ⟨c0, c1, c2, c3, c4⟩ := (hr.ext hx).c i hlt'
      have htf := hfh.out ts[i] (List.getElem_mem hlt')
      have hdr : Hid (ts.drop i = ts[i] :: ts.drop (i + 1)) := List.drop_eq_getElem_cons hlt'
      generalize ts[i] = t at c0 c1 c2 c3 c4 htf hdr
      obtain ⟨ht, htl⟩ := htf
      have hT := fun W => jTag_any W t ht
      have hD := fun W (y : Ext w W) => jDesc_any W X _ l pn t ht (hX.ext y) (hs.ext y) htl hll
      have hbadh : Hid ((jTag t ≤ aa ∨ 132 < jTag t ∨ 65536 < t.til - t.fro) → jRule l ts = false) := fun h => by rw [hinvh.out, hdr.out]; exact rul_bad h
      have hstep : Hid (jRule l ts = jRul l (t :: ts.drop (i + 1)) aa vv nn) := by show _ = _; rw [hinvh.out, hdr.out]
      clear hdr hinvh
      obtain ⟨-, -, f3, f4⟩ := ht
      generalize hk : jTag t = k at hT hbadh
      have hkh : Hid (jTag t = k) := hk
      clear hk
      obtain ⟨jd, hjd0⟩ : ∃ jd, Hid (jd = jDesc l t) := ⟨_, rfl⟩
      rw [← hjd0.out] at hD
      obtain ⟨cls, cons, num, fro, til⟩ := t
      simp only [jV] at c0 c1 c2 c3 c4 f3 f4 hT hD htl hbadh
      have hsc : Hid (∀ W, Sl W (.slice sa l.length sc) l → (convert 22 9 (sliced sa fro til sc 1)).run Tryz.prog W = .ok (.string (str (cutB l fro til))) W) := fun W h => (h.sub fro til f3 htl).conv (Ext.refl W)
      have htc : til ≤ sc := Nat.le_trans htl hs1
      have hsl : Hid (sliced sa fro til sc 1 = .slice (if sc = fro then sa else sa.map (·.add fro)) (til - fro) (sc - fro)) := by show _ = _; simp [sliced]
      rw [hsl.out] at hsc
      go_wp2_with fail
      go_at_call 38
      refine (hT _).mono ?_
      rintro _ w2 ⟨rfl, x2⟩
      have d0 := x2.cell c0
      have d1 := x2.cell c1
      have d2 := x2.cell c2
      have d3 := x2.cell c3
      have d4 := x2.cell c4
      have x3 := hx.trans x2
      clear c0 c1 c2 c3 c4 hT hx x2
      try dsimp only
      obtain ⟨sz, hsz⟩ : ∃ sz : Nat, (til : Int) - (fro : Int) = (sz : Int) := ⟨til - fro, by omega⟩
      have hw1 : IntKind.i64.wrap (sz : Int) = (sz : Int) := by rw [IntKind.wrap_i64]; omega
      go_upto_region 7 with fail
      by_cases h1 : k ≤ aa
      · have b0 : decide ((k : Int) ≤ (aa : Int)) = true := decide_eq_true (by omega)
        have b1 : decide (k ≤ aa) = true := decide_eq_true h1
        go_quiet (fail)
        go_wp2
        go_ret
        refine ⟨?_, x3.drewN _⟩
        rw [hbadh.out (by omega)]
        rfl
      have b0 : decide ((k : Int) ≤ (aa : Int)) = false := decide_eq_false (by omega)
      have b1 : decide (k ≤ aa) = false := decide_eq_false h1
      by_cases h2 : 132 < k
      · have b2 : decide ((132 : Int) < (k : Int)) = true := decide_eq_true (by omega)
        go_quiet (fail)
        go_wp2
        go_ret
        refine ⟨?_, x3.drewN _⟩
        rw [hbadh.out (by omega)]
        rfl
      have b2 : decide ((132 : Int) < (k : Int)) = false := decide_eq_false (by omega)
      by_cases h3 : 65536 < til - fro
      · have b3 : decide ((65536 : Int) < (sz : Int)) = true := decide_eq_true (by omega)
        go_quiet (fail)
        go_wp2
        go_ret
        refine ⟨?_, x3.drewN _⟩
        rw [hbadh.out (by omega)]
        rfl
      have b3 : decide ((65536 : Int) < (sz : Int)) = false := decide_eq_false (by omega)
      go_quiet (fail)
      have x4 := x3.drewN nq
      have d0' := ((Ext.refl w2).drewN nq).cell d0
      have d1' := ((Ext.refl w2).drewN nq).cell d1
      have d2' := ((Ext.refl w2).drewN nq).cell d2
      have d3' := ((Ext.refl w2).drewN nq).cell d3
      have d4' := ((Ext.refl w2).drewN nq).cell d4
      clear d0 d1 d2 d3 d4 x3
      generalize w2.drewN nq = w4 at x4 d0' d1' d2' d3' d4' ⊢
      clear b0 b1 b2 b3 hw1 hsz
      go_upto_region 10 with fail
      obtain ⟨e0, -, -⟩ := (hX.ext x4).cells
      have hcv := hsc.out w4.drew ((hs.ext x4).ext (Ext.refl w4).drew)
      go_region_o
      have x5 := x4.drew
      have g0 := (Ext.refl w4).drew.cell d0'
      have g1 := (Ext.refl w4).drew.cell d1'
      have g2 := (Ext.refl w4).drew.cell d2'
      have g3 := (Ext.refl w4).drew.cell d3'
      have g4 := (Ext.refl w4).drew.cell d4'
      clear d0' d1' d2' d3' d4' x4 hcv hsc hsl e0 hbadh
      generalize w4.drew = w5 at x5 g0 g1 g2 g3 g4 ⊢
      have hD5 := hD w5 x5
      have hcl : (cutB l fro til).length ≤ 281474976710656 := by rw [cutB_length _ _ _ htl]; omega
      have hC := fun W => Check_any W _ _ _ (keep_rule W (str (cutB l fro til)) (by rw [str_size]; exact hcl))
      have hck : Hid (checkL { ownK 9 with rule := str (cutB l fro til) } .nil = checkL { ownK 9 with rule := str (cutB l fro til) } .nil) := rfl
      have hjd : Hid (jd = jDesc l ⟨cls, cons, num, fro, til⟩) := hjd0
      have hst9 : Hid (∀ q, k = q → jTag (⟨cls, cons, num, fro, til⟩ : Tl) = q) := fun q h => hkh.out.trans h
      have q1 : ((str (cutB l fro til)).toList == []) = decide (cutB l fro til = []) := by rw [toList_byt, byt_str, Bool.eq_iff_iff]; simp
      have q1' : (str (cutB l fro til)).toList.isEmpty = decide (cutB l fro til = []) := by rw [toList_byt, byt_str, Bool.eq_iff_iff]; simp
      have q2 : ((str (cutB l fro til)).toList == [0]) = decide (cutB l fro til = [0]) := by rw [toList_byt, byt_str, Bool.eq_iff_iff]; simp
      have q3 : ((str (cutB l fro til)).toList == [255]) = decide (cutB l fro til = [255]) := by rw [toList_byt, byt_str, Bool.eq_iff_iff]; simp
      have hS9 := hstep
      clear hstep hD hcl hck
      rcases (show k = 129 ∨ k = 130 ∨ k = 131 ∨ k = 132 by omega) with hk | hk | hk | hk
      · have hR : Hid (jRule l ts = if cutB l fro til = [] then jRul l (ts.drop (i + 1)) 129 vv nn else if (checkL { ownK 9 with rule := str (cutB l fro til) } .nil).1 = 0 then jRul l (ts.drop (i + 1)) 129 vv true else false) := by
          show _ = _
          rw [hS9.out]
          exact rul_s129 (t := ⟨cls, cons, num, fro, til⟩) (hst9.out _ hk) (by omega) h3
        subst hk
        clear hS9 hst9 hkh hD5 hjd q2 q3 h1 h2
        by_cases h0 : cutB l fro til = []
        · rw [decide_eq_true h0] at q1 q1'
          have hR' : Hid (jRule l ts = jRul l (ts.drop (i + 1)) 129 vv nn) := by show _ = _; rw [hR.out, if_pos h0]
          have hsv : str (cutB l fro til) = ⟨#[]⟩ := by rw [h0]; rfl
          rw [hsv]
          clear hC hR h0 q1 q1' hsv
          go_wp2
          go_roundw
          case rel => exact ⟨i + 1, 129, vv, nn, by omega, by go_num, rfl, rfl, rfl, by omega, by omega, hR'.out, x5⟩
          case measure => simp [intOf]; omega
        · rw [decide_eq_false h0] at q1 q1'
          have hR' : Hid (jRule l ts = if (checkL { ownK 9 with rule := str (cutB l fro til) } .nil).1 = 0 then jRul l (ts.drop (i + 1)) 129 vv true else false) := by show _ = _; rw [hR.out, if_neg h0]
          clear hR h0
          generalize checkL { ownK 9 with rule := str (cutB l fro til) } .nil = ck at hC hR'
          obtain ⟨ck1, ck2, ck3⟩ := ck
          simp only [F9.arr] at hC hR'
          generalize str (cutB l fro til) = sv at q1 q1' hC ⊢
          go_wp2_with fail
          all_goals
            go_at_call 57
            refine (hC _).mono ?_
            rintro _ w6 ⟨rfl, x6⟩
            clear hC
            try dsimp only
            by_cases hc : ck1 = 0
            · have z1 : ((ck1 : Int) != 0) = false := by simp; exact hc
              have hR2 : Hid (jRule l ts = jRul l (ts.drop (i + 1)) 129 vv true) := by show _ = _; rw [hR'.out, if_pos hc]
              clear hc hR'
              go_wp2
              go_roundw
              case rel => exact ⟨i + 1, 129, vv, true, by omega, by go_num, rfl, rfl, rfl, by omega, by omega, hR2.out, x5.trans x6⟩
              case measure => simp [intOf]; omega
            · have z1 : ((ck1 : Int) != 0) = true := by simp; exact hc
              have hR2 : Hid (jRule l ts = false) := by show _ = _; rw [hR'.out, if_neg hc]
              clear hc hR'
              go_wp2
              go_ret
              exact ⟨by rw [hR2.out]; rfl, x5.trans x6⟩
      · have hR : Hid (jRule l ts = if cutB l fro til = [] then jRul l (ts.drop (i + 1)) 130 vv nn else if jd then jRul l (ts.drop (i + 1)) 130 vv true else false) := by
          show _ = _
          rw [hS9.out, hjd.out]
          exact rul_s130 (t := ⟨cls, cons, num, fro, til⟩) (hst9.out _ hk) (by omega) h3
        subst hk
        clear hS9 hst9 hkh hC hjd q2 q3 h1 h2
        by_cases h0 : cutB l fro til = []
        · rw [decide_eq_true h0] at q1 q1'
          have hR' : Hid (jRule l ts = jRul l (ts.drop (i + 1)) 130 vv nn) := by show _ = _; rw [hR.out, if_pos h0]
          have hsv : str (cutB l fro til) = ⟨#[]⟩ := by rw [h0]; rfl
          rw [hsv]
          clear hD5 hR h0 q1 q1' hsv
          go_wp2
          go_roundw
          case rel => exact ⟨i + 1, 130, vv, nn, by omega, by go_num, rfl, rfl, rfl, by omega, by omega, hR'.out, x5⟩
          case measure => simp [intOf]; omega
        · rw [decide_eq_false h0] at q1 q1'
          have hR' : Hid (jRule l ts = if jd then jRul l (ts.drop (i + 1)) 130 vv true else false) := by show _ = _; rw [hR.out, if_neg h0]
          clear hR h0
          generalize str (cutB l fro til) = sv at q1 q1' ⊢
          go_wp2_with fail
          all_goals
            go_at_call 40
            refine hD5.mono ?_
            rintro _ w6 ⟨rfl, x6⟩
            clear hD5
            try dsimp only
            cases jd with
            | true =>
              have hR2 : Hid (jRule l ts = jRul l (ts.drop (i + 1)) 130 vv true) := by show _ = _; rw [hR'.out]; rfl
              clear hR'
              go_wp2
              go_roundw
              case rel => exact ⟨i + 1, 130, vv, true, by omega, by go_num, rfl, rfl, rfl, by omega, by omega, hR2.out, x5.trans x6⟩
              case measure => simp [intOf]; omega
            | false =>
              have hR2 : Hid (jRule l ts = false) := by show _ = _; rw [hR'.out]; rfl
              clear hR'
              go_wp2
              go_ret
              exact ⟨by rw [hR2.out]; rfl, x5.trans x6⟩
      · have hR : Hid (jRule l ts = jRul l (ts.drop (i + 1)) 131 true nn) := by
          show _ = _
          rw [hS9.out]
          exact rul_s131 (t := ⟨cls, cons, num, fro, til⟩) (hst9.out _ hk) (by omega) h3
        subst hk
        clear hS9 hst9 hkh hC hjd q1 q1' q2 q3 h1 h2 hD5
        generalize str (cutB l fro til) = sv
        go_wp2
        go_roundw
        case rel => exact ⟨i + 1, 131, true, nn, by omega, by go_num, rfl, rfl, rfl, by omega, by omega, hR.out, x5⟩
        case measure => simp [intOf]; omega
      · have hR : Hid (jRule l ts = if cutB l fro til = [0] ∨ cutB l fro til = [255] then jRul l (ts.drop (i + 1)) 132 vv nn else false) := by
          show _ = _
          rw [hS9.out]
          exact rul_s132 (t := ⟨cls, cons, num, fro, til⟩) (hst9.out _ hk) (by omega) h3
        subst hk
        clear hS9 hst9 hkh hC hjd q1 q1' h1 h2 hD5
        by_cases hA : cutB l fro til = [0]
        · rw [decide_eq_true hA] at q2
          have hR' : Hid (jRule l ts = jRul l (ts.drop (i + 1)) 132 vv nn) := by show _ = _; rw [hR.out, if_pos (Or.inl hA)]
          have hsv : str (cutB l fro til) = ⟨#[0]⟩ := by rw [hA]; rfl
          rw [hsv]
          clear hR q2 q3 hA hsv
          go_wp2
          go_roundw
          case rel => exact ⟨i + 1, 132, vv, nn, by omega, by go_num, rfl, rfl, rfl, by omega, by omega, hR'.out, x5⟩
          case measure => simp [intOf]; omega
        · rw [decide_eq_false hA] at q2
          by_cases hB : cutB l fro til = [255]
          · rw [decide_eq_true hB] at q3
            have hR' : Hid (jRule l ts = jRul l (ts.drop (i + 1)) 132 vv nn) := by show _ = _; rw [hR.out, if_pos (Or.inr hB)]
            clear hR hA hB
            generalize str (cutB l fro til) = sv at q2 q3 ⊢
            go_wp2
            go_roundw
            case rel => exact ⟨i + 1, 132, vv, nn, by omega, by go_num, rfl, rfl, rfl, by omega, by omega, hR'.out, x5⟩
            case measure => simp [intOf]; omega
          · rw [decide_eq_false hB] at q3
            have hR' : Hid (jRule l ts = false) := by show _ = _; rw [hR.out, if_neg (fun h => h.elim hA hB)]
            clear hR hA hB
            generalize str (cutB l fro til) = sv at q2 q3 ⊢
            go_wp2
            all_goals
              go_ret
              exact ⟨by rw [hR'.out]; rfl, x5⟩
    · obtain rfl : i = n := by omega
      have hfin : Hid (jRule l ts = (vv && nn)) := by show _ = _; rw [hinvh.out, List.drop_eq_nil_of_le (by rw [hnh.out]; exact Nat.le_refl _)]; rfl
      clear hinvh
      cases vv
      · go_wp2
        go_ret
        exact ⟨by rw [hfin.out]; rfl, hx⟩
      · go_wp2
        go_ret
        exact ⟨by rw [hfin.out]; rfl, hx⟩
end Go.Proofs.YtmcodhdphdckkaaGreatDoor

/-
  PacketJust's own look at an item: what does not read a whole body (written by gen/mkje.py).
-/
namespace Go.Proofs.YtmcodhdphdckkaaGreatDoor
open Go.RowKit Go.Shelf

/-- the law's form and its bytes in memory -/
structure JW (w : World) (X : Nat) (v : Value) (l : List UInt8) (q : Nat) : Prop where
  jf : JfAt w X v q
  sl : Sl w v l
theorem JW.ext {w w' : World} {X : Nat} {v : Value} {l : List UInt8} {q : Nat} (h : JW w X v l q) (x : Ext w w') : JW w' X v l q := ⟨h.jf.ext x, h.sl.ext x⟩
def Off (v : Value) (X : Nat) : Prop := ∀ a n c, v = .slice (some a) n c → a.block ≠ X
theorem JW.set {w : World} {X : Nat} {v : Value} {l : List UInt8} {q : Nat} (h : JW w X v l q) (ho : Off v X) (m : Nat) : JW (w.setCell ⟨X, 1, none⟩ (.int .i64 m)) X v l m := by
  refine ⟨heap_setCell_at w X 1 _ _ _ _ h.jf, ?_⟩
  obtain ⟨a, n, c, rfl⟩ := h.sl.lit
  exact h.sl.onlyB (S := fun g => g = X) (Only.setCell (S := fun g => g = X) (Only.refl _ w) (p := ⟨X, 1, none⟩) (.inl rfl) _) (fun a' e => fun hx => ho a' n c (by rw [e]) hx)
def IsPost (w : World) (X : Nat) (v : Value) (l : List UInt8) (o : Option Nat) (e : Ending) (w' : World) : Prop := e = .returned (.bool o.isSome) ∧ Only (fun g => g = X) w w' ∧ ∃ n, JW w' X v l n ∧ ∀ q, o = some q → n = q
def IsSpec (l : List UInt8) (X : Nat) (v : Value) (f : Nat) : Prop := ∀ (w : World) (t : Tl) (p : Nat), JW w X v l p → p ≤ 65536 → t.Fine → t.til ≤ l.length → Calls Tryz.prog 11 #[.pointer (some ⟨X, 0, none⟩), jV t, .int .i64 (64 - f : Nat)] w (IsPost w X v l (jIs l f t p))
set_option maxRecDepth 100000 in
set_option maxHeartbeats 8000000 in
theorem is_long (l : List UInt8) (X : Nat) (v : Value) (f : Nat) (hf : f < 64) (w : World) (t : Tl) (p : Nat) (hj : JW w X v l p) (ho : Off v X) (hp : p ≤ 65536) (ht : t.Fine) (htl : t.til ≤ l.length) (_hll : l.length ≤ 1099511627776) (hk : jTag t ≠ 162) (hbig : 65536 ≤ p) : Calls Tryz.prog 11 #[.pointer (some ⟨X, 0, none⟩), jV t, .int .i64 (64 - (f + 1) : Nat)] w (IsPost w X v l (jIs l (f + 1) t p)) := by
  have hmix : Tryz.prog.follows Departure.mixedOrders = true := by kernel_rfl
  obtain ⟨ab, hab⟩ : ∃ ab : Nat, Hid (ab = 64 - (f + 1)) := ⟨_, rfl⟩
  have hab1 : decide ((64 : Int) ≤ (ab : Int)) = false := decide_eq_false (by have := hab.out; omega)
  rw [← hab.out]
  have hT := fun W => jTag_any W t ht
  obtain ⟨b0, x0⟩ := jbox w t
  have hV : Hid (jIs l (f + 1) t p = none) := by show _ = _; simp only [jIs]; rw [if_pos (by unfold jUp; rw [if_neg hk]; omega)]
  generalize jIs l (f + 1) t p = oo at hV ⊢
  generalize hkk : jTag t = k at *
  have hkh : Hid (jTag t = k) := hkk
  clear hkk
  obtain ⟨cls, cons, num, fro, til⟩ := t
  obtain ⟨hf1, hf2, hf3, hf4⟩ := id ht
  simp only [jV] at hT b0 x0 htl hf1 hf2 hf3 hf4 ⊢
  go_enter Tryz.func11, Tryz.ntmps11
  go_upto_region 1 with fail
  generalize w.alloc _ = w1 at b0 x0 ⊢
  obtain ⟨c0, c1, c2, c3, c4⟩ := jcells (t := ⟨cls, cons, num, fro, til⟩) b0
  simp only at c0 c1 c2 c3 c4
  go_wp2_with fail
  go_at_call 38
  refine (hT _).mono ?_
  rintro _ w2 ⟨rfl, x2⟩
  have b2 := (x2.block _ (Array.getElem?_eq_some_iff.1 b0).1).trans b0
  have hB : Hid (w.heap.size ≠ X) := by have := (Array.getElem?_eq_some_iff.1 hj.jf).1; show _ ≠ _; omega
  have hj2 := hj.ext (x0.trans x2)
  have x3 := x0.trans x2
  obtain ⟨e0, e1, ez⟩ := hj2.jf.cells
  have ez1 := ez 1
  clear c0 c1 c2 c3 c4 b0 x0 x2 hT ez hj
  try dsimp only
  have n0 : ((k : Int) != 162) = true := by simp; omega
  obtain ⟨q, hq⟩ : ∃ q : Nat, Hid (q = p + 1) := ⟨_, rfl⟩
  have hqi : (p : Int) + 1 = (q : Int) := by have := hq.out; omega
  have hqw : IntKind.i64.wrap (q : Int) = (q : Int) := by rw [IntKind.wrap_i64]; have := hq.out; omega
  go_upto_region 6 with fail
  have hj3 := hj2.set ho q
  have o3 : Only (fun g => g = X) w (w2.setCell ⟨X, 1, none⟩ (.int .i64 q)) := (x3.only (S := fun g => g = X)).setCell (.inl rfl) _
  have b3 : (w2.setCell ⟨X, 1, none⟩ (.int .i64 q)).heap[w.heap.size]? = _ := (((Only.refl (fun g => g = X) w2).setCell (p := ⟨X, 1, none⟩) (.inl rfl) (.int .i64 q)).block _ (Array.getElem?_eq_some_iff.1 b2).1 hB.out).trans b2
  clear e0 e1 ez1 b2 hj2 x3 hqi hqw
  generalize w2.setCell ⟨X, 1, none⟩ (.int .i64 q) = w3 at hj3 o3 b3 ⊢
  obtain ⟨e0, e1, -⟩ := hj3.jf.cells
  obtain ⟨c0, c1, c2, c3, c4⟩ := jcells (t := ⟨cls, cons, num, fro, til⟩) b3
  simp only at c0 c1 c2 c3 c4
  have n1 : decide ((65536 : Int) < (q : Int)) = true := decide_eq_true (by have := hq.out; omega)
  go_wp2
  go_ret
  rw [hV.out]
  exact ⟨rfl, o3, q, hj3, fun q h => by cases h⟩
set_option maxRecDepth 100000 in
set_option maxHeartbeats 8000000 in
theorem is_bad (l : List UInt8) (X : Nat) (v : Value) (f : Nat) (hf : f < 64) (w : World) (t : Tl) (p : Nat) (hj : JW w X v l p) (ho : Off v X) (hp : p ≤ 65536) (ht : t.Fine) (htl : t.til ≤ l.length) (_hll : l.length ≤ 1099511627776) (hk : jTag t ≠ 162) (hbig : p < 65536) (h135 : jTag t ≠ 135) (hb : jTag t < 160 ∨ 169 < jTag t ∨ jTag t = 167) : Calls Tryz.prog 11 #[.pointer (some ⟨X, 0, none⟩), jV t, .int .i64 (64 - (f + 1) : Nat)] w (IsPost w X v l (jIs l (f + 1) t p)) := by
  have hmix : Tryz.prog.follows Departure.mixedOrders = true := by kernel_rfl
  obtain ⟨ab, hab⟩ : ∃ ab : Nat, Hid (ab = 64 - (f + 1)) := ⟨_, rfl⟩
  have hab1 : decide ((64 : Int) ≤ (ab : Int)) = false := decide_eq_false (by have := hab.out; omega)
  rw [← hab.out]
  have hT := fun W => jTag_any W t ht
  obtain ⟨b0, x0⟩ := jbox w t
  have hV : Hid (jIs l (f + 1) t p = none) := by show _ = _; simp only [jIs]; rw [if_neg (by unfold jUp; rw [if_neg hk]; omega)]; unfold jBody; rw [if_neg h135, if_pos hb]
  generalize jIs l (f + 1) t p = oo at hV ⊢
  generalize hkk : jTag t = k at *
  have hkh : Hid (jTag t = k) := hkk
  clear hkk
  obtain ⟨cls, cons, num, fro, til⟩ := t
  obtain ⟨hf1, hf2, hf3, hf4⟩ := id ht
  simp only [jV] at hT b0 x0 htl hf1 hf2 hf3 hf4 ⊢
  go_enter Tryz.func11, Tryz.ntmps11
  go_upto_region 1 with fail
  generalize w.alloc _ = w1 at b0 x0 ⊢
  obtain ⟨c0, c1, c2, c3, c4⟩ := jcells (t := ⟨cls, cons, num, fro, til⟩) b0
  simp only at c0 c1 c2 c3 c4
  go_wp2_with fail
  go_at_call 38
  refine (hT _).mono ?_
  rintro _ w2 ⟨rfl, x2⟩
  have b2 := (x2.block _ (Array.getElem?_eq_some_iff.1 b0).1).trans b0
  have hB : Hid (w.heap.size ≠ X) := by have := (Array.getElem?_eq_some_iff.1 hj.jf).1; show _ ≠ _; omega
  have hj2 := hj.ext (x0.trans x2)
  have x3 := x0.trans x2
  obtain ⟨e0, e1, ez⟩ := hj2.jf.cells
  have ez1 := ez 1
  clear c0 c1 c2 c3 c4 b0 x0 x2 hT ez hj
  try dsimp only
  have n0 : ((k : Int) != 162) = true := by simp; omega
  obtain ⟨q, hq⟩ : ∃ q : Nat, Hid (q = p + 1) := ⟨_, rfl⟩
  have hqi : (p : Int) + 1 = (q : Int) := by have := hq.out; omega
  have hqw : IntKind.i64.wrap (q : Int) = (q : Int) := by rw [IntKind.wrap_i64]; have := hq.out; omega
  go_upto_region 6 with fail
  have hj3 := hj2.set ho q
  have o3 : Only (fun g => g = X) w (w2.setCell ⟨X, 1, none⟩ (.int .i64 q)) := (x3.only (S := fun g => g = X)).setCell (.inl rfl) _
  have b3 : (w2.setCell ⟨X, 1, none⟩ (.int .i64 q)).heap[w.heap.size]? = _ := (((Only.refl (fun g => g = X) w2).setCell (p := ⟨X, 1, none⟩) (.inl rfl) (.int .i64 q)).block _ (Array.getElem?_eq_some_iff.1 b2).1 hB.out).trans b2
  clear e0 e1 ez1 b2 hj2 x3 hqi hqw
  generalize w2.setCell ⟨X, 1, none⟩ (.int .i64 q) = w3 at hj3 o3 b3 ⊢
  obtain ⟨e0, e1, -⟩ := hj3.jf.cells
  obtain ⟨c0, c1, c2, c3, c4⟩ := jcells (t := ⟨cls, cons, num, fro, til⟩) b3
  simp only at c0 c1 c2 c3 c4
  have n1 : decide ((65536 : Int) < (q : Int)) = false := decide_eq_false (by have := hq.out; omega)
  have n2 : ((k : Int) == 135) = false := by simp; omega
  rcases hb with hb | hb | hb
  · have n3 : decide ((k : Int) < 160) = true := decide_eq_true (by omega)
    go_wp2
    go_ret
    rw [hV.out]
    exact ⟨rfl, o3, q, hj3, fun q h => by cases h⟩
  · have n3 : decide ((k : Int) < 160) = false := decide_eq_false (by omega)
    have n4 : decide ((169 : Int) < (k : Int)) = true := decide_eq_true (by omega)
    go_wp2
    go_ret
    rw [hV.out]
    exact ⟨rfl, o3, q, hj3, fun q h => by cases h⟩
  · have n3 : decide ((k : Int) < 160) = false := decide_eq_false (by omega)
    have n4 : decide ((169 : Int) < (k : Int)) = false := decide_eq_false (by omega)
    have n5 : ((k : Int) == 167) = true := by simp; omega
    go_wp2
    go_ret
    rw [hV.out]
    exact ⟨rfl, o3, q, hj3, fun q h => by cases h⟩
set_option maxRecDepth 100000 in
set_option maxHeartbeats 8000000 in
theorem is_have (l : List UInt8) (X : Nat) (v : Value) (f : Nat) (hf : f < 64) (w : World) (t : Tl) (p : Nat) (hj : JW w X v l p) (ho : Off v X) (hp : p ≤ 65536) (ht : t.Fine) (htl : t.til ≤ l.length) (hll : l.length ≤ 1099511627776) (hk : jTag t = 135) (hbig : p < 65536) : Calls Tryz.prog 11 #[.pointer (some ⟨X, 0, none⟩), jV t, .int .i64 (64 - (f + 1) : Nat)] w (IsPost w X v l (jIs l (f + 1) t p)) := by
  have hmix : Tryz.prog.follows Departure.mixedOrders = true := by kernel_rfl
  obtain ⟨ab, hab⟩ : ∃ ab : Nat, Hid (ab = 64 - (f + 1)) := ⟨_, rfl⟩
  have hab1 : decide ((64 : Int) ≤ (ab : Int)) = false := decide_eq_false (by have := hab.out; omega)
  rw [← hab.out]
  have hT := fun W => jTag_any W t ht
  have hJX := fun W => jText_any W (.pointer (some ⟨X, 0, none⟩)) t 135 ht
  obtain ⟨b0, x0⟩ := jbox w t
  have hV : Hid (jIs l (f + 1) t p = if (jText t 135 && jDesc l t) = true then some (p + 1) else none) := by show _ = _; have hu : jUp t p = p + 1 := by unfold jUp; rw [if_neg (by omega)]
                                                                                                             simp only [jIs]; rw [hu, if_neg (by omega)]; unfold jBody; rw [if_pos hk]
  generalize jIs l (f + 1) t p = oo at hV ⊢
  have hDs := fun W (m : Int) (hx : JfAt W X v m) (hs : Sl W v l) => jDesc_any W X v l m t ht hx hs htl (by omega)
  generalize jText t 135 = jt at hV hJX
  generalize jDesc l t = jd at hV hDs
  generalize hkk : jTag t = k at *
  have hkh : Hid (jTag t = k) := hkk
  clear hkk
  obtain ⟨cls, cons, num, fro, til⟩ := t
  obtain ⟨hf1, hf2, hf3, hf4⟩ := id ht
  have hJX' := hJX
  clear hJX
  simp only [jV] at hJX' hDs
  simp only [jV] at hT b0 x0 htl hf1 hf2 hf3 hf4 ⊢
  go_enter Tryz.func11, Tryz.ntmps11
  go_upto_region 1 with fail
  generalize w.alloc _ = w1 at b0 x0 ⊢
  obtain ⟨c0, c1, c2, c3, c4⟩ := jcells (t := ⟨cls, cons, num, fro, til⟩) b0
  simp only at c0 c1 c2 c3 c4
  go_wp2_with fail
  go_at_call 38
  refine (hT _).mono ?_
  rintro _ w2 ⟨rfl, x2⟩
  have b2 := (x2.block _ (Array.getElem?_eq_some_iff.1 b0).1).trans b0
  have hB : Hid (w.heap.size ≠ X) := by have := (Array.getElem?_eq_some_iff.1 hj.jf).1; show _ ≠ _; omega
  have hj2 := hj.ext (x0.trans x2)
  have x3 := x0.trans x2
  obtain ⟨e0, e1, ez⟩ := hj2.jf.cells
  have ez1 := ez 1
  clear c0 c1 c2 c3 c4 b0 x0 x2 hT ez hj
  try dsimp only
  have n0 : ((k : Int) != 162) = true := by simp; omega
  obtain ⟨q, hq⟩ : ∃ q : Nat, Hid (q = p + 1) := ⟨_, rfl⟩
  have hqi : (p : Int) + 1 = (q : Int) := by have := hq.out; omega
  have hqw : IntKind.i64.wrap (q : Int) = (q : Int) := by rw [IntKind.wrap_i64]; have := hq.out; omega
  go_upto_region 6 with fail
  have hj3 := hj2.set ho q
  have o3 : Only (fun g => g = X) w (w2.setCell ⟨X, 1, none⟩ (.int .i64 q)) := (x3.only (S := fun g => g = X)).setCell (.inl rfl) _
  have b3 : (w2.setCell ⟨X, 1, none⟩ (.int .i64 q)).heap[w.heap.size]? = _ := (((Only.refl (fun g => g = X) w2).setCell (p := ⟨X, 1, none⟩) (.inl rfl) (.int .i64 q)).block _ (Array.getElem?_eq_some_iff.1 b2).1 hB.out).trans b2
  clear e0 e1 ez1 b2 hj2 x3 hqi hqw
  generalize w2.setCell ⟨X, 1, none⟩ (.int .i64 q) = w3 at hj3 o3 b3 ⊢
  obtain ⟨e0, e1, -⟩ := hj3.jf.cells
  obtain ⟨c0, c1, c2, c3, c4⟩ := jcells (t := ⟨cls, cons, num, fro, til⟩) b3
  simp only at c0 c1 c2 c3 c4
  have n1 : decide ((65536 : Int) < (q : Int)) = false := decide_eq_false (by have := hq.out; omega)
  have n2 : ((k : Int) == 135) = true := by simp; omega
  cases jt with
  | false =>
    go_wp2_with fail
    go_at_call 39
    refine (hJX' _).mono ?_
    rintro _ w4 ⟨rfl, x4⟩
    try dsimp only
    go_wp2
    go_ret
    rw [hV.out]
    exact ⟨rfl, o3.ext x4, q, hj3.ext x4, fun q h => by cases h⟩
  | true =>
    go_wp2_with fail
    go_at_call 39
    refine (hJX' _).mono ?_
    rintro _ w4 ⟨rfl, x4⟩
    have hj4 := hj3.ext x4
    have hD4 := hDs w4 _ hj4.jf hj4.sl
    have d0 := x4.cell c0
    have d1 := x4.cell c1
    have d2 := x4.cell c2
    have d3 := x4.cell c3
    have d4 := x4.cell c4
    clear c0 c1 c2 c3 c4 hDs
    try dsimp only
    go_wp2_with fail
    go_at_call 40
    refine hD4.mono ?_
    rintro _ w5 ⟨rfl, x5⟩
    try dsimp only
    go_wp2
    go_ret
    rw [hV.out]
    cases jd with
    | false => exact ⟨rfl, (o3.ext x4).ext x5, q, hj4.ext x5, fun q h => by cases h⟩
    | true => exact ⟨rfl, (o3.ext x4).ext x5, q, hj4.ext x5, fun q h => by cases h; exact hq.out⟩
end Go.Proofs.YtmcodhdphdckkaaGreatDoor

/-
  PacketJust's own look at an item: those that read a whole body, but for kids (written by gen/mkje.py).
-/
namespace Go.Proofs.YtmcodhdphdckkaaGreatDoor
open Go.RowKit Go.Shelf

theorem RowT.lit {w : World} {S : Nat → Prop} {v : Value} {l : List Tl} (h : RowT w S v l) : ∃ a cap, v = .slice a l.length cap := by
  rcases h.1.2 with ⟨e, h0⟩ | ⟨g, cap, cur, rfl, _⟩
  · exact ⟨none, 0, by rw [e, h0]⟩
  · exact ⟨_, _, rfl⟩
theorem RowT.trow {w : World} {S : Nat → Prop} {v : Value} {l : List Tl} (h : RowT w S v l) (hp : 0 < l.length) : ∃ g cap, v = .slice (some ⟨g, 0, none⟩) l.length cap ∧ l.length ≤ cap ∧ TRow w g l ∧ S g := by
  obtain ⟨g, cap, e, h1, h2⟩ := h.cells hp
  refine ⟨g, cap, e, h1, ⟨fun i hi => ?_⟩, ?_⟩
  · rw [Nat.mul_comm i 5]; exact h2.out i hi
  · exact h.2 g (by rw [e]; rfl)
theorem two_of {ts : List Tl} (h : ts.length = 2) : ∃ a c, ts = [a, c] := by
  match ts, h with
  | [a, c], _ => exact ⟨a, c, rfl⟩
theorem against_two {l : List UInt8} {ts : List Tl} (h : jAgainst l ts = true) : ts.length = 2 := by
  match ts, h with
  | [_, _], _ => rfl
theorem part_two {l : List UInt8} {ts : List Tl} (h : jPart l ts = true) : ts.length = 2 := by
  match ts, h with
  | [_, _], _ => rfl
theorem TRow.two {w : World} {g : Nat} {a c : Tl} (h : TRow w g [a, c]) : (w.cell? ⟨g, 0, none⟩ = some (.int .i8 a.cls) ∧ w.cell? ⟨g, 1, none⟩ = some (.bool a.cons) ∧ w.cell? ⟨g, 2, none⟩ = some (.int .i64 a.num) ∧ w.cell? ⟨g, 3, none⟩ = some (.int .i64 a.fro) ∧ w.cell? ⟨g, 4, none⟩ = some (.int .i64 a.til)) ∧ (w.cell? ⟨g, 5, none⟩ = some (.int .i8 c.cls) ∧ w.cell? ⟨g, 6, none⟩ = some (.bool c.cons) ∧ w.cell? ⟨g, 7, none⟩ = some (.int .i64 c.num) ∧ w.cell? ⟨g, 8, none⟩ = some (.int .i64 c.fro) ∧ w.cell? ⟨g, 9, none⟩ = some (.int .i64 c.til)) := ⟨h.c 0 (by simp), h.c 1 (by simp)⟩
set_option maxRecDepth 100000 in
set_option maxHeartbeats 8000000 in
theorem is_against (l : List UInt8) (X : Nat) (v : Value) (f : Nat) (hf : f < 64) (w : World) (t : Tl) (p : Nat) (hj : JW w X v l p) (ho : Off v X) (hp : p ≤ 65536) (ht : t.Fine) (htl : t.til ≤ l.length) (hll : l.length ≤ 1099511627776) (hk : jTag t = 163 ∨ jTag t = 165 ∨ jTag t = 166 ∨ jTag t = 168) (hbig : p < 65536) : Calls Tryz.prog 11 #[.pointer (some ⟨X, 0, none⟩), jV t, .int .i64 (64 - (f + 1) : Nat)] w (IsPost w X v l (jIs l (f + 1) t p)) := by
  have hmix : Tryz.prog.follows Departure.mixedOrders = true := by kernel_rfl
  obtain ⟨ab, hab⟩ : ∃ ab : Nat, Hid (ab = 64 - (f + 1)) := ⟨_, rfl⟩
  have hab1 : decide ((64 : Int) ≤ (ab : Int)) = false := decide_eq_false (by have := hab.out; omega)
  rw [← hab.out]
  have hT := fun W => jTag_any W t ht
  obtain ⟨b0, x0⟩ := jbox w t
  have hV : Hid (jIs l (f + 1) t p = if sideB l t = false ∨ sideT l t = [] then none else if jAgainst l (sideT l t) = true then some (p + 1) else none) := by
    show _ = _
    have hu : jUp t p = p + 1 := by unfold jUp; rw [if_neg (by omega)]
    simp only [jIs]
    rw [hu, if_neg (by omega)]
    unfold jBody
    rw [if_neg (by omega), if_neg (by omega)]; split; rfl; rw [if_neg (by omega), if_neg (by omega), if_neg (by omega)]
  generalize jIs l (f + 1) t p = oo at hV ⊢
  generalize hkk : jTag t = k at *
  have hkh : Hid (jTag t = k) := hkk
  clear hkk
  obtain ⟨cls, cons, num, fro, til⟩ := t
  obtain ⟨hf1, hf2, hf3, hf4⟩ := id ht
  simp only [jV] at hT b0 x0 htl hf1 hf2 hf3 hf4 ⊢
  go_enter Tryz.func11, Tryz.ntmps11
  go_upto_region 1 with fail
  generalize w.alloc _ = w1 at b0 x0 ⊢
  obtain ⟨c0, c1, c2, c3, c4⟩ := jcells (t := ⟨cls, cons, num, fro, til⟩) b0
  simp only at c0 c1 c2 c3 c4
  go_wp2_with fail
  go_at_call 38
  refine (hT _).mono ?_
  rintro _ w2 ⟨rfl, x2⟩
  have b2 := (x2.block _ (Array.getElem?_eq_some_iff.1 b0).1).trans b0
  have hB : Hid (w.heap.size ≠ X) := by have := (Array.getElem?_eq_some_iff.1 hj.jf).1; show _ ≠ _; omega
  have hj2 := hj.ext (x0.trans x2)
  have x3 := x0.trans x2
  obtain ⟨e0, e1, ez⟩ := hj2.jf.cells
  have ez1 := ez 1
  clear c0 c1 c2 c3 c4 b0 x0 x2 hT ez hj
  try dsimp only
  have n0 : ((k : Int) != 162) = true := by simp; omega
  obtain ⟨q, hq⟩ : ∃ q : Nat, Hid (q = p + 1) := ⟨_, rfl⟩
  have hqi : (p : Int) + 1 = (q : Int) := by have := hq.out; omega
  have hqw : IntKind.i64.wrap (q : Int) = (q : Int) := by rw [IntKind.wrap_i64]; have := hq.out; omega
  go_upto_region 6 with fail
  have hj3 := hj2.set ho q
  have o3 : Only (fun g => g = X) w (w2.setCell ⟨X, 1, none⟩ (.int .i64 q)) := (x3.only (S := fun g => g = X)).setCell (.inl rfl) _
  have b3 : (w2.setCell ⟨X, 1, none⟩ (.int .i64 q)).heap[w.heap.size]? = _ := (((Only.refl (fun g => g = X) w2).setCell (p := ⟨X, 1, none⟩) (.inl rfl) (.int .i64 q)).block _ (Array.getElem?_eq_some_iff.1 b2).1 hB.out).trans b2
  clear e0 e1 ez1 b2 hj2 x3 hqi hqw
  generalize w2.setCell ⟨X, 1, none⟩ (.int .i64 q) = w3 at hj3 o3 b3 ⊢
  obtain ⟨e0, e1, -⟩ := hj3.jf.cells
  obtain ⟨c0, c1, c2, c3, c4⟩ := jcells (t := ⟨cls, cons, num, fro, til⟩) b3
  simp only at c0 c1 c2 c3 c4
  have n1 : decide ((65536 : Int) < (q : Int)) = false := decide_eq_false (by have := hq.out; omega)
  have n2 : ((k : Int) == 135) = false := by simp; omega
  have n3 : decide ((k : Int) < 160) = false := decide_eq_false (by omega)
  have n4 : decide ((169 : Int) < (k : Int)) = false := decide_eq_false (by omega)
  have n5 : ((k : Int) == 167) = false := by simp; omega
  have hWh := fun W (y : Ext w3 W) => Whole_any W v l fro til (hj3.sl.ext y) hll
  have hWL : Hid (wholeL l fro til = if (sideL l fro til).2 = 0 then sideT l ⟨cls, cons, num, fro, til⟩ else []) := rfl
  have hSB : Hid (sideB l ⟨cls, cons, num, fro, til⟩ = decide ((sideL l fro til).2 = 0)) := rfl
  generalize (sideL l fro til).2 = sb at hWh hWL hSB
  generalize wholeL l fro til = wl at hWh hWL
  generalize hST : sideT l ⟨cls, cons, num, fro, til⟩ = ts at hWL
  have hSTh : Hid (sideT l ⟨cls, cons, num, fro, til⟩ = ts) := hST
  clear hST
  go_upto_region 12 with fail
  refine wp_region_last (fun w' => w'.cell? ⟨X, 0, none⟩ = some v ∧ w'.cell? ⟨w.heap.size, 3, none⟩ = some (.int .i64 fro) ∧ w'.cell? ⟨w.heap.size, 4, none⟩ = some (.int .i64 til)) 13 hmix ?_
  change wpAnyT _ _ _ _ _ _ 14 _ _ w3.drew
  have hS : w3.drew.cell? ⟨X, 0, none⟩ = some v ∧ w3.drew.cell? ⟨w.heap.size, 3, none⟩ = some (.int .i64 fro) ∧ w3.drew.cell? ⟨w.heap.size, 4, none⟩ = some (.int .i64 til) := ⟨e0, c3, c4⟩
  have y3 : Ext w3 w3.drew := (Ext.refl w3).drew
  clear e0 e1 c0 c1 c2 c3 c4
  generalize w3.drew = w4 at hS y3 ⊢
  refine wpAnyT_take (i := 0) (v := ?_) rfl (by kernel_rfl) (by kernel_rfl) (by kernel_rfl) (by kernel_rfl) (fun _ _ _ h => h) (Or.inl ⟨by rfl, ?hyhS0⟩) hS ?_
  case hyhS0 => (intro w' hSw'; obtain ⟨k0, k1, k2⟩ := hSw'; go_simp; try with_reducible rfl)
  dsimp only [Act.put, List.getElem_toArray, List.getElem_cons_zero, List.getElem_cons_succ]
  simp only [List.setIfInBounds_toArray, List.set_cons_zero, List.set_cons_succ]
  refine wpAnyT_take (i := 1) (v := ?_) rfl (by kernel_rfl) (by kernel_rfl) (by kernel_rfl) (by kernel_rfl) (fun _ _ _ h => h) (Or.inl ⟨by rfl, ?hyhS1⟩) hS ?_
  case hyhS1 => (intro w' hSw'; obtain ⟨k0, k1, k2⟩ := hSw'; go_simp; try with_reducible rfl)
  dsimp only [Act.put, List.getElem_toArray, List.getElem_cons_zero, List.getElem_cons_succ]
  simp only [List.setIfInBounds_toArray, List.set_cons_zero, List.set_cons_succ]
  refine wpAnyT_take (i := 2) (v := ?_) rfl (by kernel_rfl) (by kernel_rfl) (by kernel_rfl) (by kernel_rfl) (fun _ _ _ h => h) (Or.inl ⟨by rfl, ?hyhS2⟩) hS ?_
  case hyhS2 => (intro w' hSw'; obtain ⟨k0, k1, k2⟩ := hSw'; go_simp; try with_reducible rfl)
  dsimp only [Act.put, List.getElem_toArray, List.getElem_cons_zero, List.getElem_cons_succ]
  simp only [List.setIfInBounds_toArray, List.set_cons_zero, List.set_cons_succ]
  refine wpAnyT_take (i := 3) (v := ?_) rfl (by kernel_rfl) (by kernel_rfl) (by kernel_rfl) (by kernel_rfl) (fun _ _ _ h => h) (Or.inl ⟨by rfl, ?hyhS3⟩) hS ?_
  case hyhS3 => (intro w' hSw'; obtain ⟨k0, k1, k2⟩ := hSw'; go_simp; try with_reducible rfl)
  dsimp only [Act.put, List.getElem_toArray, List.getElem_cons_zero, List.getElem_cons_succ]
  simp only [List.setIfInBounds_toArray, List.set_cons_zero, List.set_cons_succ]
  refine wpAnyT_take (i := 4) (v := ?_) rfl (by kernel_rfl) (by kernel_rfl) (by kernel_rfl) (by kernel_rfl) (fun _ _ _ h => h) (Or.inl ⟨by rfl, ?hyhS4⟩) hS ?_
  case hyhS4 => (intro w' hSw'; obtain ⟨k0, k1, k2⟩ := hSw'; go_simp; try with_reducible rfl)
  dsimp only [Act.put, List.getElem_toArray, List.getElem_cons_zero, List.getElem_cons_succ]
  simp only [List.setIfInBounds_toArray, List.set_cons_zero, List.set_cons_succ]
  refine wpAnyT_take (i := 5) (v := ?_) rfl (by kernel_rfl) (by kernel_rfl) (by kernel_rfl) (by kernel_rfl) (fun _ _ _ h => h) (Or.inl ⟨by rfl, ?hyhS5⟩) hS ?_
  case hyhS5 => (intro w' hSw'; obtain ⟨k0, k1, k2⟩ := hSw'; go_simp; try with_reducible rfl)
  dsimp only [Act.put, List.getElem_toArray, List.getElem_cons_zero, List.getElem_cons_succ]
  simp only [List.setIfInBounds_toArray, List.set_cons_zero, List.set_cons_succ]
  refine wpAnyT_take (i := 6) (v := ?_) rfl (by kernel_rfl) (by kernel_rfl) (by kernel_rfl) (by kernel_rfl) (fun _ _ _ h => h) (Or.inl ⟨by rfl, ?hyhS6⟩) hS ?_
  case hyhS6 => (intro w' hSw'; obtain ⟨k0, k1, k2⟩ := hSw'; go_simp; try with_reducible rfl)
  dsimp only [Act.put, List.getElem_toArray, List.getElem_cons_zero, List.getElem_cons_succ]
  simp only [List.setIfInBounds_toArray, List.set_cons_zero, List.set_cons_succ]
  refine wpAnyT_take (i := 7) (v := ?_) rfl (by kernel_rfl) (by kernel_rfl) (by kernel_rfl) (by kernel_rfl) (fun _ _ _ h => h) (Or.inl ⟨by rfl, ?hyhS7⟩) hS ?_
  case hyhS7 => (intro w' hSw'; obtain ⟨k0, k1, k2⟩ := hSw'; go_simp; try with_reducible rfl)
  dsimp only [Act.put, List.getElem_toArray, List.getElem_cons_zero, List.getElem_cons_succ]
  simp only [List.setIfInBounds_toArray, List.set_cons_zero, List.set_cons_succ]
  refine wpAnyT_one (i := 8) rfl (by kernel_rfl) ?_
  rw [if_pos (by rfl)]
  go_simp
  go_at_call 10
  refine (hWh _ y3).mono ?_
  rintro _ w5 ⟨u, rfl, hrow, x5⟩
  obtain ⟨k0, k1, k2⟩ := hS
  have hS5 : w5.cell? ⟨X, 0, none⟩ = some v ∧ w5.cell? ⟨w.heap.size, 3, none⟩ = some (.int .i64 fro) ∧ w5.cell? ⟨w.heap.size, 4, none⟩ = some (.int .i64 til) := ⟨x5.cell k0, x5.cell k1, x5.cell k2⟩
  clear k0 k1 k2
  try dsimp only
  refine ⟨hS5, ?_⟩
  refine wpAnyT_one (i := 9) rfl (by kernel_rfl) ?_
  rw [if_pos (by rfl)]
  go_simp
  try refine ⟨hS5, ?_⟩
  refine wpAnyT_take (i := 10) (v := ?_) rfl (by kernel_rfl) (by kernel_rfl) (by kernel_rfl) (by kernel_rfl) (fun _ _ _ h => h) (Or.inl ⟨by rfl, ?hyhS510⟩) hS5 ?_
  case hyhS510 => (intro w' hSw'; obtain ⟨k0, k1, k2⟩ := hSw'; go_simp; try with_reducible rfl)
  dsimp only [Act.put, List.getElem_toArray, List.getElem_cons_zero, List.getElem_cons_succ]
  simp only [List.setIfInBounds_toArray, List.set_cons_zero, List.set_cons_succ]
  refine wpAnyT_take (i := 11) (v := ?_) rfl (by kernel_rfl) (by kernel_rfl) (by kernel_rfl) (by kernel_rfl) (fun _ _ _ h => h) (Or.inl ⟨by rfl, ?hyhS511⟩) hS5 ?_
  case hyhS511 => (intro w' hSw'; obtain ⟨k0, k1, k2⟩ := hSw'; go_simp; try with_reducible rfl)
  dsimp only [Act.put, List.getElem_toArray, List.getElem_cons_zero, List.getElem_cons_succ]
  simp only [List.setIfInBounds_toArray, List.set_cons_zero, List.set_cons_succ]
  refine wpAnyT_one (i := 12) rfl (by kernel_rfl) ?_
  rw [if_pos (by rfl)]
  go_simp
  try refine ⟨hS5, ?_⟩
  refine wpAnyT_one (i := 13) rfl (by kernel_rfl) ?_
  rw [if_pos (by rfl)]
  go_simp
  refine wpAnyT_done (by kernel_rfl) ?_
  have z5 := y3.trans x5
  have o5 := o3.ext z5
  have hj5 := hj3.ext z5
  have hup : Hid (∀ g, w4.heap.size ≤ g → g ≠ X) := fun g hg => by have := (Array.getElem?_eq_some_iff.1 hj3.jf).1; have := y3.size; omega
  clear hS5 hWh y3 x5 z5 b3 hj3 o3
  by_cases hsb : sb = 0
  · have hW2 : wl = ts := by rw [hWL.out, if_pos hsb]
    subst hW2
    have hBt : sideB l ⟨cls, cons, num, fro, til⟩ = true := by rw [hSB.out]; exact decide_eq_true hsb
    rw [hBt, hSTh.out] at hV
    have m0 : ((sb : Int) != 0) = false := by simp; exact hsb
    clear hSB hWL hBt hsb
    by_cases hne : wl = []
    · subst hne
      have hV' : Hid (oo = none) := by show _ = _; rw [hV.out]; simp
      obtain ⟨ua, uc, rfl⟩ := hrow.lit
      simp only [List.length_nil]
      go_wp2
      go_ret
      rw [hV'.out]
      exact ⟨rfl, o5, _, hj5, fun q h => by cases h⟩
    · have hpos : 0 < wl.length := List.length_pos_iff.mpr hne
      obtain ⟨g, cap, rfl, hcap, hrw, hg⟩ := hrow.trow hpos
      have hfine : ∀ t ∈ wl, t.Fine ∧ t.til ≤ l.length := by
        intro t' ht'
        rw [← hSTh.out] at ht'
        have := (side_its (l := l) (t := ⟨cls, cons, num, fro, til⟩) hf3 htl).fine htl (by omega) t' ht'
        exact ⟨this.1, Nat.le_trans this.2 htl⟩
      have hwlen : wl.length < 36028797018963968 := by
        have := (side_its (l := l) (t := ⟨cls, cons, num, fro, til⟩) hf3 htl).len
        rw [hSTh.out] at this
        simp only at this
        omega
      have hgX := hup.out g hg
      have hV2 : Hid (oo = if jAgainst l wl = true then some (p + 1) else none) := by show _ = _; rw [hV.out]; simp [hne]
      clear hV hrow hup hSTh
      obtain ⟨n, hn⟩ : ∃ n, wl.length = n := ⟨_, rfl⟩
      rw [hn] at hcap hwlen ⊢
      have m3 : (n == 0) = false := by simp; omega
      have m4 : ((n : Int) == 0) = false := by simp; omega
      by_cases h2 : n = 2
      · obtain ⟨a, c, rfl⟩ := two_of (hn.trans h2)
        · subst h2
          have ha := hfine a (by simp)
          have hc := hfine c (by simp)
          obtain ⟨a0, a1⟩ := TRow.two hrw
          have hAt := fun W => jText_any W (.pointer (some ⟨X, 0, none⟩)) a 4 ha.1
          have hCt := fun W => jText_any W (.pointer (some ⟨X, 0, none⟩)) c 4 hc.1
          have hAd := fun W (m : Int) (hx : JfAt W X v m) (hs : Sl W v l) => jDesc_any W X v l m a ha.1 hx hs ha.2 (by omega)
          have hV3 : Hid (oo = if (jText a 4 && jDesc l a && jText c 4) = true then some (p + 1) else none) := hV2
          clear hV2 hrw hfine hne hpos
          generalize jText a 4 = ja at hAt hV3
          generalize jDesc l a = jd at hAd hV3
          generalize jText c 4 = jc at hCt hV3
          obtain ⟨acls, acons, anum, afro, atil⟩ := a
          obtain ⟨ccls, ccons, cnum, cfro, ctil⟩ := c
          simp only [jV] at a0 a1 hAt hCt hAd
          obtain ⟨p0, p1, p2, p3, p4⟩ := a0
          obtain ⟨r0, r1, r2, r3, r4⟩ := a1
          have n6 : ((k : Int) == 160) = false := by simp; omega
          have n7 : ((k : Int) == 161) = false := by simp; omega
          have n8 : ((k : Int) == 162) = false := by simp; omega
          have n9 : ((k : Int) == 164) = false := by simp; omega
          have nA : ((k : Int) == 169) = false := by simp; omega
          go_wp2_with fail
          go_at_call 39
          refine (hAt _).mono ?_
          rintro _ w6 ⟨rfl, x6⟩
          have hj6 := hj5.ext x6
          have s0 := x6.cell p0
          have s1 := x6.cell p1
          have s2 := x6.cell p2
          have s3 := x6.cell p3
          have s4 := x6.cell p4
          have t0 := x6.cell r0
          have t1 := x6.cell r1
          have t2 := x6.cell r2
          have t3 := x6.cell r3
          have t4 := x6.cell r4
          clear p0 p1 p2 p3 p4 r0 r1 r2 r3 r4 hAt
          try dsimp only
          cases ja with
          | false =>
            go_wp2
            go_ret
            rw [hV3.out]
            exact ⟨rfl, o5.ext x6, _, hj6, fun q h => by cases h⟩
          | true =>
            have hD6 := hAd w6 _ hj6.jf hj6.sl
            go_wp2_with fail
            go_at_call 40
            refine hD6.mono ?_
            rintro _ w7 ⟨rfl, x7⟩
            have hj7 := hj6.ext x7
            have u0 := x7.cell t0
            have u1 := x7.cell t1
            have u2 := x7.cell t2
            have u3 := x7.cell t3
            have u4 := x7.cell t4
            clear s0 s1 s2 s3 s4 t0 t1 t2 t3 t4 hAd hD6
            try dsimp only
            cases jd with
            | false =>
              go_wp2
              go_ret
              rw [hV3.out]
              exact ⟨rfl, (o5.ext x6).ext x7, _, hj7, fun q h => by cases h⟩
            | true =>
              go_wp2_with fail
              go_at_call 39
              refine (hCt _).mono ?_
              rintro _ w8 ⟨rfl, x8⟩
              try dsimp only
              go_wp2
              go_ret
              rw [hV3.out]
              cases jc with
              | false => exact ⟨rfl, ((o5.ext x6).ext x7).ext x8, _, hj7.ext x8, fun q h => by cases h⟩
              | true => exact ⟨rfl, ((o5.ext x6).ext x7).ext x8, _, hj7.ext x8, fun q h => by cases h; exact hq.out⟩
      · have hV' : Hid (oo = none) := by
          show _ = _
          rw [hV2.out, if_neg]
          intro hh
          have := against_two hh
          omega
        have n6 : ((k : Int) == 160) = false := by simp; omega
        have n7 : ((k : Int) == 161) = false := by simp; omega
        have n8 : ((k : Int) == 162) = false := by simp; omega
        have n9 : ((k : Int) == 164) = false := by simp; omega
        have nA : ((k : Int) == 169) = false := by simp; omega
        have m5 : ((n : Int) == 2) = false := by simp; omega
        clear h2
        go_wp2
        go_ret
        rw [hV'.out]
        exact ⟨rfl, o5, _, hj5, fun q h => by cases h⟩
  · have hBt : sideB l ⟨cls, cons, num, fro, til⟩ = false := by rw [hSB.out]; exact decide_eq_false hsb
    rw [hBt] at hV
    have hV' : Hid (oo = none) := by show _ = _; rw [hV.out]; simp
    have m0 : ((sb : Int) != 0) = true := by simp; exact hsb
    obtain ⟨ua, uc, rfl⟩ := hrow.lit
    clear hV hSB hWL hBt
    go_wp2
    go_ret
    rw [hV'.out]
    exact ⟨rfl, o5, _, hj5, fun q h => by cases h⟩
set_option maxRecDepth 100000 in
set_option maxHeartbeats 8000000 in
theorem is_rule (l : List UInt8) (X : Nat) (v : Value) (f : Nat) (hf : f < 64) (w : World) (t : Tl) (p : Nat) (hj : JW w X v l p) (ho : Off v X) (hp : p ≤ 65536) (ht : t.Fine) (htl : t.til ≤ l.length) (hll : l.length ≤ 1099511627776) (hk : jTag t = 169) (hbig : p < 65536) : Calls Tryz.prog 11 #[.pointer (some ⟨X, 0, none⟩), jV t, .int .i64 (64 - (f + 1) : Nat)] w (IsPost w X v l (jIs l (f + 1) t p)) := by
  have hmix : Tryz.prog.follows Departure.mixedOrders = true := by kernel_rfl
  obtain ⟨ab, hab⟩ : ∃ ab : Nat, Hid (ab = 64 - (f + 1)) := ⟨_, rfl⟩
  have hab1 : decide ((64 : Int) ≤ (ab : Int)) = false := decide_eq_false (by have := hab.out; omega)
  rw [← hab.out]
  have hT := fun W => jTag_any W t ht
  obtain ⟨b0, x0⟩ := jbox w t
  have hV : Hid (jIs l (f + 1) t p = if sideB l t = false ∨ sideT l t = [] then none else if jRule l (sideT l t) = true then some (p + 1) else none) := by
    show _ = _
    have hu : jUp t p = p + 1 := by unfold jUp; rw [if_neg (by omega)]
    simp only [jIs]
    rw [hu, if_neg (by omega)]
    unfold jBody
    rw [if_neg (by omega), if_neg (by omega)]; split; rfl; simp [hk]
  generalize jIs l (f + 1) t p = oo at hV ⊢
  generalize hkk : jTag t = k at *
  have hkh : Hid (jTag t = k) := hkk
  clear hkk
  obtain ⟨cls, cons, num, fro, til⟩ := t
  obtain ⟨hf1, hf2, hf3, hf4⟩ := id ht
  simp only [jV] at hT b0 x0 htl hf1 hf2 hf3 hf4 ⊢
  go_enter Tryz.func11, Tryz.ntmps11
  go_upto_region 1 with fail
  generalize w.alloc _ = w1 at b0 x0 ⊢
  obtain ⟨c0, c1, c2, c3, c4⟩ := jcells (t := ⟨cls, cons, num, fro, til⟩) b0
  simp only at c0 c1 c2 c3 c4
  go_wp2_with fail
  go_at_call 38
  refine (hT _).mono ?_
  rintro _ w2 ⟨rfl, x2⟩
  have b2 := (x2.block _ (Array.getElem?_eq_some_iff.1 b0).1).trans b0
  have hB : Hid (w.heap.size ≠ X) := by have := (Array.getElem?_eq_some_iff.1 hj.jf).1; show _ ≠ _; omega
  have hj2 := hj.ext (x0.trans x2)
  have x3 := x0.trans x2
  obtain ⟨e0, e1, ez⟩ := hj2.jf.cells
  have ez1 := ez 1
  clear c0 c1 c2 c3 c4 b0 x0 x2 hT ez hj
  try dsimp only
  have n0 : ((k : Int) != 162) = true := by simp; omega
  obtain ⟨q, hq⟩ : ∃ q : Nat, Hid (q = p + 1) := ⟨_, rfl⟩
  have hqi : (p : Int) + 1 = (q : Int) := by have := hq.out; omega
  have hqw : IntKind.i64.wrap (q : Int) = (q : Int) := by rw [IntKind.wrap_i64]; have := hq.out; omega
  go_upto_region 6 with fail
  have hj3 := hj2.set ho q
  have o3 : Only (fun g => g = X) w (w2.setCell ⟨X, 1, none⟩ (.int .i64 q)) := (x3.only (S := fun g => g = X)).setCell (.inl rfl) _
  have b3 : (w2.setCell ⟨X, 1, none⟩ (.int .i64 q)).heap[w.heap.size]? = _ := (((Only.refl (fun g => g = X) w2).setCell (p := ⟨X, 1, none⟩) (.inl rfl) (.int .i64 q)).block _ (Array.getElem?_eq_some_iff.1 b2).1 hB.out).trans b2
  clear e0 e1 ez1 b2 hj2 x3 hqi hqw
  generalize w2.setCell ⟨X, 1, none⟩ (.int .i64 q) = w3 at hj3 o3 b3 ⊢
  obtain ⟨e0, e1, -⟩ := hj3.jf.cells
  obtain ⟨c0, c1, c2, c3, c4⟩ := jcells (t := ⟨cls, cons, num, fro, til⟩) b3
  simp only at c0 c1 c2 c3 c4
  have n1 : decide ((65536 : Int) < (q : Int)) = false := decide_eq_false (by have := hq.out; omega)
  have n2 : ((k : Int) == 135) = false := by simp; omega
  have n3 : decide ((k : Int) < 160) = false := decide_eq_false (by omega)
  have n4 : decide ((169 : Int) < (k : Int)) = false := decide_eq_false (by omega)
  have n5 : ((k : Int) == 167) = false := by simp; omega
  have hWh := fun W (y : Ext w3 W) => Whole_any W v l fro til (hj3.sl.ext y) hll
  have hWL : Hid (wholeL l fro til = if (sideL l fro til).2 = 0 then sideT l ⟨cls, cons, num, fro, til⟩ else []) := rfl
  have hSB : Hid (sideB l ⟨cls, cons, num, fro, til⟩ = decide ((sideL l fro til).2 = 0)) := rfl
  generalize (sideL l fro til).2 = sb at hWh hWL hSB
  generalize wholeL l fro til = wl at hWh hWL
  generalize hST : sideT l ⟨cls, cons, num, fro, til⟩ = ts at hWL
  have hSTh : Hid (sideT l ⟨cls, cons, num, fro, til⟩ = ts) := hST
  clear hST
  go_upto_region 12 with fail
  refine wp_region_last (fun w' => w'.cell? ⟨X, 0, none⟩ = some v ∧ w'.cell? ⟨w.heap.size, 3, none⟩ = some (.int .i64 fro) ∧ w'.cell? ⟨w.heap.size, 4, none⟩ = some (.int .i64 til)) 13 hmix ?_
  change wpAnyT _ _ _ _ _ _ 14 _ _ w3.drew
  have hS : w3.drew.cell? ⟨X, 0, none⟩ = some v ∧ w3.drew.cell? ⟨w.heap.size, 3, none⟩ = some (.int .i64 fro) ∧ w3.drew.cell? ⟨w.heap.size, 4, none⟩ = some (.int .i64 til) := ⟨e0, c3, c4⟩
  have y3 : Ext w3 w3.drew := (Ext.refl w3).drew
  clear e0 e1 c0 c1 c2 c3 c4
  generalize w3.drew = w4 at hS y3 ⊢
  refine wpAnyT_take (i := 0) (v := ?_) rfl (by kernel_rfl) (by kernel_rfl) (by kernel_rfl) (by kernel_rfl) (fun _ _ _ h => h) (Or.inl ⟨by rfl, ?hyhS0⟩) hS ?_
  case hyhS0 => (intro w' hSw'; obtain ⟨k0, k1, k2⟩ := hSw'; go_simp; try with_reducible rfl)
  dsimp only [Act.put, List.getElem_toArray, List.getElem_cons_zero, List.getElem_cons_succ]
  simp only [List.setIfInBounds_toArray, List.set_cons_zero, List.set_cons_succ]
  refine wpAnyT_take (i := 1) (v := ?_) rfl (by kernel_rfl) (by kernel_rfl) (by kernel_rfl) (by kernel_rfl) (fun _ _ _ h => h) (Or.inl ⟨by rfl, ?hyhS1⟩) hS ?_
  case hyhS1 => (intro w' hSw'; obtain ⟨k0, k1, k2⟩ := hSw'; go_simp; try with_reducible rfl)
  dsimp only [Act.put, List.getElem_toArray, List.getElem_cons_zero, List.getElem_cons_succ]
  simp only [List.setIfInBounds_toArray, List.set_cons_zero, List.set_cons_succ]
  refine wpAnyT_take (i := 2) (v := ?_) rfl (by kernel_rfl) (by kernel_rfl) (by kernel_rfl) (by kernel_rfl) (fun _ _ _ h => h) (Or.inl ⟨by rfl, ?hyhS2⟩) hS ?_
  case hyhS2 => (intro w' hSw'; obtain ⟨k0, k1, k2⟩ := hSw'; go_simp; try with_reducible rfl)
  dsimp only [Act.put, List.getElem_toArray, List.getElem_cons_zero, List.getElem_cons_succ]
  simp only [List.setIfInBounds_toArray, List.set_cons_zero, List.set_cons_succ]
  refine wpAnyT_take (i := 3) (v := ?_) rfl (by kernel_rfl) (by kernel_rfl) (by kernel_rfl) (by kernel_rfl) (fun _ _ _ h => h) (Or.inl ⟨by rfl, ?hyhS3⟩) hS ?_
  case hyhS3 => (intro w' hSw'; obtain ⟨k0, k1, k2⟩ := hSw'; go_simp; try with_reducible rfl)
  dsimp only [Act.put, List.getElem_toArray, List.getElem_cons_zero, List.getElem_cons_succ]
  simp only [List.setIfInBounds_toArray, List.set_cons_zero, List.set_cons_succ]
  refine wpAnyT_take (i := 4) (v := ?_) rfl (by kernel_rfl) (by kernel_rfl) (by kernel_rfl) (by kernel_rfl) (fun _ _ _ h => h) (Or.inl ⟨by rfl, ?hyhS4⟩) hS ?_
  case hyhS4 => (intro w' hSw'; obtain ⟨k0, k1, k2⟩ := hSw'; go_simp; try with_reducible rfl)
  dsimp only [Act.put, List.getElem_toArray, List.getElem_cons_zero, List.getElem_cons_succ]
  simp only [List.setIfInBounds_toArray, List.set_cons_zero, List.set_cons_succ]
  refine wpAnyT_take (i := 5) (v := ?_) rfl (by kernel_rfl) (by kernel_rfl) (by kernel_rfl) (by kernel_rfl) (fun _ _ _ h => h) (Or.inl ⟨by rfl, ?hyhS5⟩) hS ?_
  case hyhS5 => (intro w' hSw'; obtain ⟨k0, k1, k2⟩ := hSw'; go_simp; try with_reducible rfl)
  dsimp only [Act.put, List.getElem_toArray, List.getElem_cons_zero, List.getElem_cons_succ]
  simp only [List.setIfInBounds_toArray, List.set_cons_zero, List.set_cons_succ]
  refine wpAnyT_take (i := 6) (v := ?_) rfl (by kernel_rfl) (by kernel_rfl) (by kernel_rfl) (by kernel_rfl) (fun _ _ _ h => h) (Or.inl ⟨by rfl, ?hyhS6⟩) hS ?_
  case hyhS6 => (intro w' hSw'; obtain ⟨k0, k1, k2⟩ := hSw'; go_simp; try with_reducible rfl)
  dsimp only [Act.put, List.getElem_toArray, List.getElem_cons_zero, List.getElem_cons_succ]
  simp only [List.setIfInBounds_toArray, List.set_cons_zero, List.set_cons_succ]
  refine wpAnyT_take (i := 7) (v := ?_) rfl (by kernel_rfl) (by kernel_rfl) (by kernel_rfl) (by kernel_rfl) (fun _ _ _ h => h) (Or.inl ⟨by rfl, ?hyhS7⟩) hS ?_
  case hyhS7 => (intro w' hSw'; obtain ⟨k0, k1, k2⟩ := hSw'; go_simp; try with_reducible rfl)
  dsimp only [Act.put, List.getElem_toArray, List.getElem_cons_zero, List.getElem_cons_succ]
  simp only [List.setIfInBounds_toArray, List.set_cons_zero, List.set_cons_succ]
  refine wpAnyT_one (i := 8) rfl (by kernel_rfl) ?_
  rw [if_pos (by rfl)]
  go_simp
  go_at_call 10
  refine (hWh _ y3).mono ?_
  rintro _ w5 ⟨u, rfl, hrow, x5⟩
  obtain ⟨k0, k1, k2⟩ := hS
  have hS5 : w5.cell? ⟨X, 0, none⟩ = some v ∧ w5.cell? ⟨w.heap.size, 3, none⟩ = some (.int .i64 fro) ∧ w5.cell? ⟨w.heap.size, 4, none⟩ = some (.int .i64 til) := ⟨x5.cell k0, x5.cell k1, x5.cell k2⟩
  clear k0 k1 k2
  try dsimp only
  refine ⟨hS5, ?_⟩
  refine wpAnyT_one (i := 9) rfl (by kernel_rfl) ?_
  rw [if_pos (by rfl)]
  go_simp
  try refine ⟨hS5, ?_⟩
  refine wpAnyT_take (i := 10) (v := ?_) rfl (by kernel_rfl) (by kernel_rfl) (by kernel_rfl) (by kernel_rfl) (fun _ _ _ h => h) (Or.inl ⟨by rfl, ?hyhS510⟩) hS5 ?_
  case hyhS510 => (intro w' hSw'; obtain ⟨k0, k1, k2⟩ := hSw'; go_simp; try with_reducible rfl)
  dsimp only [Act.put, List.getElem_toArray, List.getElem_cons_zero, List.getElem_cons_succ]
  simp only [List.setIfInBounds_toArray, List.set_cons_zero, List.set_cons_succ]
  refine wpAnyT_take (i := 11) (v := ?_) rfl (by kernel_rfl) (by kernel_rfl) (by kernel_rfl) (by kernel_rfl) (fun _ _ _ h => h) (Or.inl ⟨by rfl, ?hyhS511⟩) hS5 ?_
  case hyhS511 => (intro w' hSw'; obtain ⟨k0, k1, k2⟩ := hSw'; go_simp; try with_reducible rfl)
  dsimp only [Act.put, List.getElem_toArray, List.getElem_cons_zero, List.getElem_cons_succ]
  simp only [List.setIfInBounds_toArray, List.set_cons_zero, List.set_cons_succ]
  refine wpAnyT_one (i := 12) rfl (by kernel_rfl) ?_
  rw [if_pos (by rfl)]
  go_simp
  try refine ⟨hS5, ?_⟩
  refine wpAnyT_one (i := 13) rfl (by kernel_rfl) ?_
  rw [if_pos (by rfl)]
  go_simp
  refine wpAnyT_done (by kernel_rfl) ?_
  have z5 := y3.trans x5
  have o5 := o3.ext z5
  have hj5 := hj3.ext z5
  have hup : Hid (∀ g, w4.heap.size ≤ g → g ≠ X) := fun g hg => by have := (Array.getElem?_eq_some_iff.1 hj3.jf).1; have := y3.size; omega
  clear hS5 hWh y3 x5 z5 b3 hj3 o3
  by_cases hsb : sb = 0
  · have hW2 : wl = ts := by rw [hWL.out, if_pos hsb]
    subst hW2
    have hBt : sideB l ⟨cls, cons, num, fro, til⟩ = true := by rw [hSB.out]; exact decide_eq_true hsb
    rw [hBt, hSTh.out] at hV
    have m0 : ((sb : Int) != 0) = false := by simp; exact hsb
    clear hSB hWL hBt hsb
    by_cases hne : wl = []
    · subst hne
      have hV' : Hid (oo = none) := by show _ = _; rw [hV.out]; simp
      obtain ⟨ua, uc, rfl⟩ := hrow.lit
      simp only [List.length_nil]
      go_wp2
      go_ret
      rw [hV'.out]
      exact ⟨rfl, o5, _, hj5, fun q h => by cases h⟩
    · have hpos : 0 < wl.length := List.length_pos_iff.mpr hne
      obtain ⟨g, cap, rfl, hcap, hrw, hg⟩ := hrow.trow hpos
      have hfine : ∀ t ∈ wl, t.Fine ∧ t.til ≤ l.length := by
        intro t' ht'
        rw [← hSTh.out] at ht'
        have := (side_its (l := l) (t := ⟨cls, cons, num, fro, til⟩) hf3 htl).fine htl (by omega) t' ht'
        exact ⟨this.1, Nat.le_trans this.2 htl⟩
      have hwlen : wl.length < 36028797018963968 := by
        have := (side_its (l := l) (t := ⟨cls, cons, num, fro, til⟩) hf3 htl).len
        rw [hSTh.out] at this
        simp only at this
        omega
      have hgX := hup.out g hg
      have hV2 : Hid (oo = if jRule l wl = true then some (p + 1) else none) := by show _ = _; rw [hV.out]; simp [hne]
      clear hV hrow hup hSTh
      have hRu := jRule_any w5 X v l _ hj5.jf hj5.sl (by omega) g cap wl hcap hwlen hrw hfine
      obtain ⟨n, hn⟩ : ∃ n, wl.length = n := ⟨_, rfl⟩
      rw [hn] at hcap hwlen hRu ⊢
      have m3 : (n == 0) = false := by simp; omega
      have m4 : ((n : Int) == 0) = false := by simp; omega
      generalize jRule l wl = jr at hRu hV2
      clear hfine hne hrw
      have n6 : ((k : Int) == 160) = false := by simp; omega
      have n7 : ((k : Int) == 161) = false := by simp; omega
      have n8 : ((k : Int) == 162) = false := by simp; omega
      have n9 : ((k : Int) == 164) = false := by simp; omega
      have nA : ((k : Int) == 169) = true := by simp; omega
      go_wp2_with fail
      go_at_call 42
      refine hRu.mono ?_
      rintro _ w6 ⟨rfl, x6⟩
      try dsimp only
      go_wp2
      go_ret
      rw [hV2.out]
      cases jr with
      | false => exact ⟨rfl, o5.ext x6, _, hj5.ext x6, fun q h => by cases h⟩
      | true => exact ⟨rfl, o5.ext x6, _, hj5.ext x6, fun q h => by cases h; exact hq.out⟩
  · have hBt : sideB l ⟨cls, cons, num, fro, til⟩ = false := by rw [hSB.out]; exact decide_eq_false hsb
    rw [hBt] at hV
    have hV' : Hid (oo = none) := by show _ = _; rw [hV.out]; simp
    have m0 : ((sb : Int) != 0) = true := by simp; exact hsb
    obtain ⟨ua, uc, rfl⟩ := hrow.lit
    clear hV hSB hWL hBt
    go_wp2
    go_ret
    rw [hV'.out]
    exact ⟨rfl, o5, _, hj5, fun q h => by cases h⟩
end Go.Proofs.YtmcodhdphdckkaaGreatDoor

/-
  PacketJust's own look at an item: a part (written by gen/mkje.py).
-/
namespace Go.Proofs.YtmcodhdphdckkaaGreatDoor
open Go.RowKit Go.Shelf

set_option maxRecDepth 100000 in
set_option maxHeartbeats 4000000 in
theorem jPieces_nil (w : World) (X : Value) (a : Option Addr) (cap : Nat) : Calls Tryz.prog 41 #[X, .slice a 0 cap] w fun e w' => e = .returned (.bool (jPieces [])) ∧ Ext w w' := by
  go_enter Tryz.func41, Tryz.ntmps41
  go_wp2
  go_loopw [9] (fun a wr => a = .int .i64 0 ∧ wr = w) (fun _ _ => 0)
  case atStart => exact ⟨rfl, rfl⟩
  case round =>
    obtain ⟨rfl, rfl⟩ := hrel
    go_wp2
    go_ret
    exact ⟨rfl, Ext.refl _⟩
set_option maxRecDepth 100000 in
set_option maxHeartbeats 8000000 in
theorem is_part (l : List UInt8) (X : Nat) (v : Value) (f : Nat) (hf : f < 64) (w : World) (t : Tl) (p : Nat) (hj : JW w X v l p) (ho : Off v X) (hp : p ≤ 65536) (ht : t.Fine) (htl : t.til ≤ l.length) (hll : l.length ≤ 1099511627776) (hk : jTag t = 164) (hbig : p < 65536) : Calls Tryz.prog 11 #[.pointer (some ⟨X, 0, none⟩), jV t, .int .i64 (64 - (f + 1) : Nat)] w (IsPost w X v l (jIs l (f + 1) t p)) := by
  have hmix : Tryz.prog.follows Departure.mixedOrders = true := by kernel_rfl
  obtain ⟨ab, hab⟩ : ∃ ab : Nat, Hid (ab = 64 - (f + 1)) := ⟨_, rfl⟩
  have hab1 : decide ((64 : Int) ≤ (ab : Int)) = false := decide_eq_false (by have := hab.out; omega)
  rw [← hab.out]
  have hT := fun W => jTag_any W t ht
  obtain ⟨b0, x0⟩ := jbox w t
  have hV : Hid (jIs l (f + 1) t p = if sideB l t = false ∨ sideT l t = [] then none else if jPart l (sideT l t) = true then some (p + 1) else none) := by
    show _ = _
    have hu : jUp t p = p + 1 := by unfold jUp; rw [if_neg (by omega)]
    simp only [jIs]
    rw [hu, if_neg (by omega)]
    unfold jBody
    rw [if_neg (by omega), if_neg (by omega)]; split; rfl; simp [hk]
  generalize jIs l (f + 1) t p = oo at hV ⊢
  generalize hkk : jTag t = k at *
  have hkh : Hid (jTag t = k) := hkk
  clear hkk
  obtain ⟨cls, cons, num, fro, til⟩ := t
  obtain ⟨hf1, hf2, hf3, hf4⟩ := id ht
  simp only [jV] at hT b0 x0 htl hf1 hf2 hf3 hf4 ⊢
  go_enter Tryz.func11, Tryz.ntmps11
  go_upto_region 1 with fail
  generalize w.alloc _ = w1 at b0 x0 ⊢
  obtain ⟨c0, c1, c2, c3, c4⟩ := jcells (t := ⟨cls, cons, num, fro, til⟩) b0
  simp only at c0 c1 c2 c3 c4
  go_wp2_with fail
  go_at_call 38
  refine (hT _).mono ?_
  rintro _ w2 ⟨rfl, x2⟩
  have b2 := (x2.block _ (Array.getElem?_eq_some_iff.1 b0).1).trans b0
  have hB : Hid (w.heap.size ≠ X) := by have := (Array.getElem?_eq_some_iff.1 hj.jf).1; show _ ≠ _; omega
  have hj2 := hj.ext (x0.trans x2)
  have x3 := x0.trans x2
  obtain ⟨e0, e1, ez⟩ := hj2.jf.cells
  have ez1 := ez 1
  clear c0 c1 c2 c3 c4 b0 x0 x2 hT ez hj
  try dsimp only
  have n0 : ((k : Int) != 162) = true := by simp; omega
  obtain ⟨q, hq⟩ : ∃ q : Nat, Hid (q = p + 1) := ⟨_, rfl⟩
  have hqi : (p : Int) + 1 = (q : Int) := by have := hq.out; omega
  have hqw : IntKind.i64.wrap (q : Int) = (q : Int) := by rw [IntKind.wrap_i64]; have := hq.out; omega
  go_upto_region 6 with fail
  have hj3 := hj2.set ho q
  have o3 : Only (fun g => g = X) w (w2.setCell ⟨X, 1, none⟩ (.int .i64 q)) := (x3.only (S := fun g => g = X)).setCell (.inl rfl) _
  have b3 : (w2.setCell ⟨X, 1, none⟩ (.int .i64 q)).heap[w.heap.size]? = _ := (((Only.refl (fun g => g = X) w2).setCell (p := ⟨X, 1, none⟩) (.inl rfl) (.int .i64 q)).block _ (Array.getElem?_eq_some_iff.1 b2).1 hB.out).trans b2
  clear e0 e1 ez1 b2 hj2 x3 hqi hqw
  generalize w2.setCell ⟨X, 1, none⟩ (.int .i64 q) = w3 at hj3 o3 b3 ⊢
  obtain ⟨e0, e1, -⟩ := hj3.jf.cells
  obtain ⟨c0, c1, c2, c3, c4⟩ := jcells (t := ⟨cls, cons, num, fro, til⟩) b3
  simp only at c0 c1 c2 c3 c4
  have n1 : decide ((65536 : Int) < (q : Int)) = false := decide_eq_false (by have := hq.out; omega)
  have n2 : ((k : Int) == 135) = false := by simp; omega
  have n3 : decide ((k : Int) < 160) = false := decide_eq_false (by omega)
  have n4 : decide ((169 : Int) < (k : Int)) = false := decide_eq_false (by omega)
  have n5 : ((k : Int) == 167) = false := by simp; omega
  have hWh := fun W (y : Ext w3 W) => Whole_any W v l fro til (hj3.sl.ext y) hll
  have hWL : Hid (wholeL l fro til = if (sideL l fro til).2 = 0 then sideT l ⟨cls, cons, num, fro, til⟩ else []) := rfl
  have hSB : Hid (sideB l ⟨cls, cons, num, fro, til⟩ = decide ((sideL l fro til).2 = 0)) := rfl
  generalize (sideL l fro til).2 = sb at hWh hWL hSB
  generalize wholeL l fro til = wl at hWh hWL
  generalize hST : sideT l ⟨cls, cons, num, fro, til⟩ = ts at hWL
  have hSTh : Hid (sideT l ⟨cls, cons, num, fro, til⟩ = ts) := hST
  clear hST
  go_upto_region 12 with fail
  refine wp_region_last (fun w' => w'.cell? ⟨X, 0, none⟩ = some v ∧ w'.cell? ⟨w.heap.size, 3, none⟩ = some (.int .i64 fro) ∧ w'.cell? ⟨w.heap.size, 4, none⟩ = some (.int .i64 til)) 13 hmix ?_
  change wpAnyT _ _ _ _ _ _ 14 _ _ w3.drew
  have hS : w3.drew.cell? ⟨X, 0, none⟩ = some v ∧ w3.drew.cell? ⟨w.heap.size, 3, none⟩ = some (.int .i64 fro) ∧ w3.drew.cell? ⟨w.heap.size, 4, none⟩ = some (.int .i64 til) := ⟨e0, c3, c4⟩
  have y3 : Ext w3 w3.drew := (Ext.refl w3).drew
  clear e0 e1 c0 c1 c2 c3 c4
  generalize w3.drew = w4 at hS y3 ⊢
  refine wpAnyT_take (i := 0) (v := ?_) rfl (by kernel_rfl) (by kernel_rfl) (by kernel_rfl) (by kernel_rfl) (fun _ _ _ h => h) (Or.inl ⟨by rfl, ?hyhS0⟩) hS ?_
  case hyhS0 => (intro w' hSw'; obtain ⟨k0, k1, k2⟩ := hSw'; go_simp; try with_reducible rfl)
  dsimp only [Act.put, List.getElem_toArray, List.getElem_cons_zero, List.getElem_cons_succ]
  simp only [List.setIfInBounds_toArray, List.set_cons_zero, List.set_cons_succ]
  refine wpAnyT_take (i := 1) (v := ?_) rfl (by kernel_rfl) (by kernel_rfl) (by kernel_rfl) (by kernel_rfl) (fun _ _ _ h => h) (Or.inl ⟨by rfl, ?hyhS1⟩) hS ?_
  case hyhS1 => (intro w' hSw'; obtain ⟨k0, k1, k2⟩ := hSw'; go_simp; try with_reducible rfl)
  dsimp only [Act.put, List.getElem_toArray, List.getElem_cons_zero, List.getElem_cons_succ]
  simp only [List.setIfInBounds_toArray, List.set_cons_zero, List.set_cons_succ]
  refine wpAnyT_take (i := 2) (v := ?_) rfl (by kernel_rfl) (by kernel_rfl) (by kernel_rfl) (by kernel_rfl) (fun _ _ _ h => h) (Or.inl ⟨by rfl, ?hyhS2⟩) hS ?_
  case hyhS2 => (intro w' hSw'; obtain ⟨k0, k1, k2⟩ := hSw'; go_simp; try with_reducible rfl)
  dsimp only [Act.put, List.getElem_toArray, List.getElem_cons_zero, List.getElem_cons_succ]
  simp only [List.setIfInBounds_toArray, List.set_cons_zero, List.set_cons_succ]
  refine wpAnyT_take (i := 3) (v := ?_) rfl (by kernel_rfl) (by kernel_rfl) (by kernel_rfl) (by kernel_rfl) (fun _ _ _ h => h) (Or.inl ⟨by rfl, ?hyhS3⟩) hS ?_
  case hyhS3 => (intro w' hSw'; obtain ⟨k0, k1, k2⟩ := hSw'; go_simp; try with_reducible rfl)
  dsimp only [Act.put, List.getElem_toArray, List.getElem_cons_zero, List.getElem_cons_succ]
  simp only [List.setIfInBounds_toArray, List.set_cons_zero, List.set_cons_succ]
  refine wpAnyT_take (i := 4) (v := ?_) rfl (by kernel_rfl) (by kernel_rfl) (by kernel_rfl) (by kernel_rfl) (fun _ _ _ h => h) (Or.inl ⟨by rfl, ?hyhS4⟩) hS ?_
  case hyhS4 => (intro w' hSw'; obtain ⟨k0, k1, k2⟩ := hSw'; go_simp; try with_reducible rfl)
  dsimp only [Act.put, List.getElem_toArray, List.getElem_cons_zero, List.getElem_cons_succ]
  simp only [List.setIfInBounds_toArray, List.set_cons_zero, List.set_cons_succ]
  refine wpAnyT_take (i := 5) (v := ?_) rfl (by kernel_rfl) (by kernel_rfl) (by kernel_rfl) (by kernel_rfl) (fun _ _ _ h => h) (Or.inl ⟨by rfl, ?hyhS5⟩) hS ?_
  case hyhS5 => (intro w' hSw'; obtain ⟨k0, k1, k2⟩ := hSw'; go_simp; try with_reducible rfl)
  dsimp only [Act.put, List.getElem_toArray, List.getElem_cons_zero, List.getElem_cons_succ]
  simp only [List.setIfInBounds_toArray, List.set_cons_zero, List.set_cons_succ]
  refine wpAnyT_take (i := 6) (v := ?_) rfl (by kernel_rfl) (by kernel_rfl) (by kernel_rfl) (by kernel_rfl) (fun _ _ _ h => h) (Or.inl ⟨by rfl, ?hyhS6⟩) hS ?_
  case hyhS6 => (intro w' hSw'; obtain ⟨k0, k1, k2⟩ := hSw'; go_simp; try with_reducible rfl)
  dsimp only [Act.put, List.getElem_toArray, List.getElem_cons_zero, List.getElem_cons_succ]
  simp only [List.setIfInBounds_toArray, List.set_cons_zero, List.set_cons_succ]
  refine wpAnyT_take (i := 7) (v := ?_) rfl (by kernel_rfl) (by kernel_rfl) (by kernel_rfl) (by kernel_rfl) (fun _ _ _ h => h) (Or.inl ⟨by rfl, ?hyhS7⟩) hS ?_
  case hyhS7 => (intro w' hSw'; obtain ⟨k0, k1, k2⟩ := hSw'; go_simp; try with_reducible rfl)
  dsimp only [Act.put, List.getElem_toArray, List.getElem_cons_zero, List.getElem_cons_succ]
  simp only [List.setIfInBounds_toArray, List.set_cons_zero, List.set_cons_succ]
  refine wpAnyT_one (i := 8) rfl (by kernel_rfl) ?_
  rw [if_pos (by rfl)]
  go_simp
  go_at_call 10
  refine (hWh _ y3).mono ?_
  rintro _ w5 ⟨u, rfl, hrow, x5⟩
  obtain ⟨k0, k1, k2⟩ := hS
  have hS5 : w5.cell? ⟨X, 0, none⟩ = some v ∧ w5.cell? ⟨w.heap.size, 3, none⟩ = some (.int .i64 fro) ∧ w5.cell? ⟨w.heap.size, 4, none⟩ = some (.int .i64 til) := ⟨x5.cell k0, x5.cell k1, x5.cell k2⟩
  clear k0 k1 k2
  try dsimp only
  refine ⟨hS5, ?_⟩
  refine wpAnyT_one (i := 9) rfl (by kernel_rfl) ?_
  rw [if_pos (by rfl)]
  go_simp
  try refine ⟨hS5, ?_⟩
  refine wpAnyT_take (i := 10) (v := ?_) rfl (by kernel_rfl) (by kernel_rfl) (by kernel_rfl) (by kernel_rfl) (fun _ _ _ h => h) (Or.inl ⟨by rfl, ?hyhS510⟩) hS5 ?_
  case hyhS510 => (intro w' hSw'; obtain ⟨k0, k1, k2⟩ := hSw'; go_simp; try with_reducible rfl)
  dsimp only [Act.put, List.getElem_toArray, List.getElem_cons_zero, List.getElem_cons_succ]
  simp only [List.setIfInBounds_toArray, List.set_cons_zero, List.set_cons_succ]
  refine wpAnyT_take (i := 11) (v := ?_) rfl (by kernel_rfl) (by kernel_rfl) (by kernel_rfl) (by kernel_rfl) (fun _ _ _ h => h) (Or.inl ⟨by rfl, ?hyhS511⟩) hS5 ?_
  case hyhS511 => (intro w' hSw'; obtain ⟨k0, k1, k2⟩ := hSw'; go_simp; try with_reducible rfl)
  dsimp only [Act.put, List.getElem_toArray, List.getElem_cons_zero, List.getElem_cons_succ]
  simp only [List.setIfInBounds_toArray, List.set_cons_zero, List.set_cons_succ]
  refine wpAnyT_one (i := 12) rfl (by kernel_rfl) ?_
  rw [if_pos (by rfl)]
  go_simp
  try refine ⟨hS5, ?_⟩
  refine wpAnyT_one (i := 13) rfl (by kernel_rfl) ?_
  rw [if_pos (by rfl)]
  go_simp
  refine wpAnyT_done (by kernel_rfl) ?_
  have z5 := y3.trans x5
  have o5 := o3.ext z5
  have hj5 := hj3.ext z5
  have hup : Hid (∀ g, w4.heap.size ≤ g → g ≠ X) := fun g hg => by have := (Array.getElem?_eq_some_iff.1 hj3.jf).1; have := y3.size; omega
  clear hS5 hWh y3 x5 z5 b3 hj3 o3
  by_cases hsb : sb = 0
  · have hW2 : wl = ts := by rw [hWL.out, if_pos hsb]
    subst hW2
    have hBt : sideB l ⟨cls, cons, num, fro, til⟩ = true := by rw [hSB.out]; exact decide_eq_true hsb
    rw [hBt, hSTh.out] at hV
    have m0 : ((sb : Int) != 0) = false := by simp; exact hsb
    clear hSB hWL hBt hsb
    by_cases hne : wl = []
    · subst hne
      have hV' : Hid (oo = none) := by show _ = _; rw [hV.out]; simp
      obtain ⟨ua, uc, rfl⟩ := hrow.lit
      simp only [List.length_nil]
      go_wp2
      go_ret
      rw [hV'.out]
      exact ⟨rfl, o5, _, hj5, fun q h => by cases h⟩
    · have hpos : 0 < wl.length := List.length_pos_iff.mpr hne
      obtain ⟨g, cap, rfl, hcap, hrw, hg⟩ := hrow.trow hpos
      have hfine : ∀ t ∈ wl, t.Fine ∧ t.til ≤ l.length := by
        intro t' ht'
        rw [← hSTh.out] at ht'
        have := (side_its (l := l) (t := ⟨cls, cons, num, fro, til⟩) hf3 htl).fine htl (by omega) t' ht'
        exact ⟨this.1, Nat.le_trans this.2 htl⟩
      have hwlen : wl.length < 36028797018963968 := by
        have := (side_its (l := l) (t := ⟨cls, cons, num, fro, til⟩) hf3 htl).len
        rw [hSTh.out] at this
        simp only at this
        omega
      have hgX := hup.out g hg
      have hV2 : Hid (oo = if jPart l wl = true then some (p + 1) else none) := by show _ = _; rw [hV.out]; simp [hne]
      clear hV hrow hup hSTh
      obtain ⟨n, hn⟩ : ∃ n, wl.length = n := ⟨_, rfl⟩
      rw [hn] at hcap hwlen ⊢
      have m3 : (n == 0) = false := by simp; omega
      have m4 : ((n : Int) == 0) = false := by simp; omega
      have n6 : ((k : Int) == 160) = false := by simp; omega
      have n7 : ((k : Int) == 161) = false := by simp; omega
      have n8 : ((k : Int) == 162) = false := by simp; omega
      have n9 : ((k : Int) == 164) = true := by simp; omega
      by_cases h2 : n = 2
      · obtain ⟨a, c, rfl⟩ := two_of (hn.trans h2)
        · subst h2
          have ha := hfine a (by simp)
          have hc := hfine c (by simp)
          obtain ⟨a0, a1⟩ := TRow.two hrw
          have hAt := fun W => jText_any W (.pointer (some ⟨X, 0, none⟩)) a 4 ha.1
          have hCt := fun W => jTag_any W c hc.1
          have hAd := fun W (m : Int) (hx : JfAt W X v m) (hs : Sl W v l) => jDesc_any W X v l m a ha.1 hx hs ha.2 (by omega)
          have hWh := fun W (hs : Sl W v l) => Whole_any W v l c.fro c.til hs hll
          have hcI := side_its hc.1.f hc.2
          have hcF : Hid (∀ t ∈ sideT l c, t.Fine) := fun t' ht' => (hcI.fine hc.2 (by omega) t' ht').1
          have hcL : (sideT l c).length < 36028797018963968 := by have := hcI.len; have := hc.2; omega
          have hWL : Hid (wholeL l c.fro c.til = if (sideL l c.fro c.til).2 = 0 then sideT l c else []) := rfl
          have hSB : Hid (sideB l c = decide ((sideL l c.fro c.til).2 = 0)) := rfl
          have hV3 : Hid (oo = if (jText a 4 && jDesc l a && decide (jTag c = 48) && sideB l c && jPieces (sideT l c)) = true then some (p + 1) else none) := hV2
          clear hV2 hrw hfine hne hpos hcI
          generalize (sideL l c.fro c.til).2 = sb2 at hWh hWL hSB
          generalize wholeL l c.fro c.til = wl2 at hWh hWL
          generalize sideT l c = ts2 at hWL hcF hcL hV3
          generalize sideB l c = bb at hSB hV3
          generalize jText a 4 = ja at hAt hV3
          generalize jDesc l a = jd at hAd hV3
          generalize jTag c = kc at hCt hV3
          obtain ⟨acls, acons, anum, afro, atil⟩ := a
          obtain ⟨ccls, ccons, cnum, cfro, ctil⟩ := c
          simp only [jV] at a0 a1 hAt hCt hAd hWh
          obtain ⟨p0, p1, p2, p3, p4⟩ := a0
          obtain ⟨r0, r1, r2, r3, r4⟩ := a1
          go_wp2_with fail
          go_at_call 39
          refine (hAt _).mono ?_
          rintro _ w6 ⟨rfl, x6⟩
          have hj6 := hj5.ext x6
          have s0 := x6.cell p0
          have s1 := x6.cell p1
          have s2 := x6.cell p2
          have s3 := x6.cell p3
          have s4 := x6.cell p4
          have t0 := x6.cell r0
          have t1 := x6.cell r1
          have t2 := x6.cell r2
          have t3 := x6.cell r3
          have t4 := x6.cell r4
          clear p0 p1 p2 p3 p4 r0 r1 r2 r3 r4 hAt
          try dsimp only
          cases ja with
          | false =>
            go_wp2
            go_ret
            rw [hV3.out]
            exact ⟨rfl, o5.ext x6, _, hj6, fun q h => by cases h⟩
          | true =>
            have hD6 := hAd w6 _ hj6.jf hj6.sl
            go_wp2_with fail
            go_at_call 40
            refine hD6.mono ?_
            rintro _ w7 ⟨rfl, x7⟩
            have hj7 := hj6.ext x7
            have u0 := x7.cell t0
            have u1 := x7.cell t1
            have u2 := x7.cell t2
            have u3 := x7.cell t3
            have u4 := x7.cell t4
            clear s0 s1 s2 s3 s4 t0 t1 t2 t3 t4 hAd hD6
            try dsimp only
            cases jd with
            | false =>
              go_wp2
              go_ret
              rw [hV3.out]
              exact ⟨rfl, (o5.ext x6).ext x7, _, hj7, fun q h => by cases h⟩
            | true =>
              go_wp2_with fail
              go_at_call 38
              refine (hCt _).mono ?_
              rintro _ w8 ⟨rfl, x8⟩
              have hj8 := hj7.ext x8
              have o8 := ((o5.ext x6).ext x7).ext x8
              have g3 := x8.cell u3
              have g4 := x8.cell u4
              clear u0 u1 u2 u3 u4 hCt x6 x7 x8 hj5 hj6 hj7 o5
              try dsimp only
              by_cases h48 : kc = 48
              · have n10 : ((kc : Int) != 48) = false := by simp; omega
                have hV4 : Hid (oo = if (bb && jPieces ts2) = true then some (p + 1) else none) := by show _ = _; rw [hV3.out]; simp [h48]
                clear hV3 h48
                go_upto_region 31 with fail
                obtain ⟨i0, -, -⟩ := hj8.jf.cells
                refine wp_region_last (fun w' => w'.cell? ⟨X, 0, none⟩ = some v ∧ w'.cell? ⟨g, 8, none⟩ = some (.int .i64 cfro) ∧ w'.cell? ⟨g, 9, none⟩ = some (.int .i64 ctil)) 17 hmix ?_
                change wpAnyT _ _ _ _ _ _ 18 _ _ w8.drew
                have hR : w8.drew.cell? ⟨X, 0, none⟩ = some v ∧ w8.drew.cell? ⟨g, 8, none⟩ = some (.int .i64 cfro) ∧ w8.drew.cell? ⟨g, 9, none⟩ = some (.int .i64 ctil) := ⟨i0, g3, g4⟩
                have y8 : Ext w8 w8.drew := (Ext.refl w8).drew
                have hj9 := hj8.ext y8
                have o9 := o8.ext y8
                clear i0 g3 g4 hj8 o8 y8
                generalize w8.drew = w9 at hR hj9 o9 ⊢
                refine wpAnyT_take (i := 0) (v := ?_) rfl (by kernel_rfl) (by kernel_rfl) (by kernel_rfl) (by kernel_rfl) (fun _ _ _ h => h) (Or.inl ⟨by rfl, ?hyhR0⟩) hR ?_
                case hyhR0 => (intro w' hSw'; obtain ⟨k0, k1, k2⟩ := hSw'; go_simp; try with_reducible rfl)
                dsimp only [Act.put, List.getElem_toArray, List.getElem_cons_zero, List.getElem_cons_succ]
                simp only [List.setIfInBounds_toArray, List.set_cons_zero, List.set_cons_succ]
                refine wpAnyT_take (i := 1) (v := ?_) rfl (by kernel_rfl) (by kernel_rfl) (by kernel_rfl) (by kernel_rfl) (fun _ _ _ h => h) (Or.inl ⟨by rfl, ?hyhR1⟩) hR ?_
                case hyhR1 => (intro w' hSw'; obtain ⟨k0, k1, k2⟩ := hSw'; go_simp; try with_reducible rfl)
                dsimp only [Act.put, List.getElem_toArray, List.getElem_cons_zero, List.getElem_cons_succ]
                simp only [List.setIfInBounds_toArray, List.set_cons_zero, List.set_cons_succ]
                refine wpAnyT_take (i := 2) (v := ?_) rfl (by kernel_rfl) (by kernel_rfl) (by kernel_rfl) (by kernel_rfl) (fun _ _ _ h => h) (Or.inl ⟨by rfl, ?hyhR2⟩) hR ?_
                case hyhR2 => (intro w' hSw'; obtain ⟨k0, k1, k2⟩ := hSw'; go_simp; try with_reducible rfl)
                dsimp only [Act.put, List.getElem_toArray, List.getElem_cons_zero, List.getElem_cons_succ]
                simp only [List.setIfInBounds_toArray, List.set_cons_zero, List.set_cons_succ]
                refine wpAnyT_take (i := 3) (v := ?_) rfl (by kernel_rfl) (by kernel_rfl) (by kernel_rfl) (by kernel_rfl) (fun _ _ _ h => h) (Or.inl ⟨by rfl, ?hyhR3⟩) hR ?_
                case hyhR3 => (intro w' hSw'; obtain ⟨k0, k1, k2⟩ := hSw'; go_simp; try with_reducible rfl)
                dsimp only [Act.put, List.getElem_toArray, List.getElem_cons_zero, List.getElem_cons_succ]
                simp only [List.setIfInBounds_toArray, List.set_cons_zero, List.set_cons_succ]
                refine wpAnyT_take (i := 4) (v := ?_) rfl (by kernel_rfl) (by kernel_rfl) (by kernel_rfl) (by kernel_rfl) (fun _ _ _ h => h) (Or.inl ⟨by rfl, ?hyhR4⟩) hR ?_
                case hyhR4 => (intro w' hSw'; obtain ⟨k0, k1, k2⟩ := hSw'; go_simp; try with_reducible rfl)
                dsimp only [Act.put, List.getElem_toArray, List.getElem_cons_zero, List.getElem_cons_succ]
                simp only [List.setIfInBounds_toArray, List.set_cons_zero, List.set_cons_succ]
                refine wpAnyT_take (i := 5) (v := ?_) rfl (by kernel_rfl) (by kernel_rfl) (by kernel_rfl) (by kernel_rfl) (fun _ _ _ h => h) (Or.inl ⟨by rfl, ?hyhR5⟩) hR ?_
                case hyhR5 => (intro w' hSw'; obtain ⟨k0, k1, k2⟩ := hSw'; go_simp; try with_reducible rfl)
                dsimp only [Act.put, List.getElem_toArray, List.getElem_cons_zero, List.getElem_cons_succ]
                simp only [List.setIfInBounds_toArray, List.set_cons_zero, List.set_cons_succ]
                refine wpAnyT_take (i := 6) (v := ?_) rfl (by kernel_rfl) (by kernel_rfl) (by kernel_rfl) (by kernel_rfl) (fun _ _ _ h => h) (Or.inl ⟨by rfl, ?hyhR6⟩) hR ?_
                case hyhR6 => (intro w' hSw'; obtain ⟨k0, k1, k2⟩ := hSw'; go_simp; try with_reducible rfl)
                dsimp only [Act.put, List.getElem_toArray, List.getElem_cons_zero, List.getElem_cons_succ]
                simp only [List.setIfInBounds_toArray, List.set_cons_zero, List.set_cons_succ]
                refine wpAnyT_take (i := 7) (v := ?_) rfl (by kernel_rfl) (by kernel_rfl) (by kernel_rfl) (by kernel_rfl) (fun _ _ _ h => h) (Or.inl ⟨by rfl, ?hyhR7⟩) hR ?_
                case hyhR7 => (intro w' hSw'; obtain ⟨k0, k1, k2⟩ := hSw'; go_simp; try with_reducible rfl)
                dsimp only [Act.put, List.getElem_toArray, List.getElem_cons_zero, List.getElem_cons_succ]
                simp only [List.setIfInBounds_toArray, List.set_cons_zero, List.set_cons_succ]
                refine wpAnyT_take (i := 8) (v := ?_) rfl (by kernel_rfl) (by kernel_rfl) (by kernel_rfl) (by kernel_rfl) (fun _ _ _ h => h) (Or.inl ⟨by rfl, ?hyhR8⟩) hR ?_
                case hyhR8 => (intro w' hSw'; obtain ⟨k0, k1, k2⟩ := hSw'; go_simp; try with_reducible rfl)
                dsimp only [Act.put, List.getElem_toArray, List.getElem_cons_zero, List.getElem_cons_succ]
                simp only [List.setIfInBounds_toArray, List.set_cons_zero, List.set_cons_succ]
                refine wpAnyT_take (i := 9) (v := ?_) rfl (by kernel_rfl) (by kernel_rfl) (by kernel_rfl) (by kernel_rfl) (fun _ _ _ h => h) (Or.inl ⟨by rfl, ?hyhR9⟩) hR ?_
                case hyhR9 => (intro w' hSw'; obtain ⟨k0, k1, k2⟩ := hSw'; go_simp; try with_reducible rfl)
                dsimp only [Act.put, List.getElem_toArray, List.getElem_cons_zero, List.getElem_cons_succ]
                simp only [List.setIfInBounds_toArray, List.set_cons_zero, List.set_cons_succ]
                refine wpAnyT_take (i := 10) (v := ?_) rfl (by kernel_rfl) (by kernel_rfl) (by kernel_rfl) (by kernel_rfl) (fun _ _ _ h => h) (Or.inl ⟨by rfl, ?hyhR10⟩) hR ?_
                case hyhR10 => (intro w' hSw'; obtain ⟨k0, k1, k2⟩ := hSw'; go_simp; try with_reducible rfl)
                dsimp only [Act.put, List.getElem_toArray, List.getElem_cons_zero, List.getElem_cons_succ]
                simp only [List.setIfInBounds_toArray, List.set_cons_zero, List.set_cons_succ]
                refine wpAnyT_take (i := 11) (v := ?_) rfl (by kernel_rfl) (by kernel_rfl) (by kernel_rfl) (by kernel_rfl) (fun _ _ _ h => h) (Or.inl ⟨by rfl, ?hyhR11⟩) hR ?_
                case hyhR11 => (intro w' hSw'; obtain ⟨k0, k1, k2⟩ := hSw'; go_simp; try with_reducible rfl)
                dsimp only [Act.put, List.getElem_toArray, List.getElem_cons_zero, List.getElem_cons_succ]
                simp only [List.setIfInBounds_toArray, List.set_cons_zero, List.set_cons_succ]
                refine wpAnyT_one (i := 12) rfl (by kernel_rfl) ?_
                rw [if_pos (by rfl)]
                go_simp
                go_at_call 10
                refine (hWh _ hj9.sl).mono ?_
                rintro _ w10 ⟨uu, rfl, hrow, x10⟩
                obtain ⟨k0, k1, k2⟩ := hR
                have hR5 : w10.cell? ⟨X, 0, none⟩ = some v ∧ w10.cell? ⟨g, 8, none⟩ = some (.int .i64 cfro) ∧ w10.cell? ⟨g, 9, none⟩ = some (.int .i64 ctil) := ⟨x10.cell k0, x10.cell k1, x10.cell k2⟩
                clear k0 k1 k2
                try dsimp only
                refine ⟨hR5, ?_⟩
                refine wpAnyT_one (i := 13) rfl (by kernel_rfl) ?_
                rw [if_pos (by rfl)]
                go_simp
                try refine ⟨hR5, ?_⟩
                refine wpAnyT_take (i := 14) (v := ?_) rfl (by kernel_rfl) (by kernel_rfl) (by kernel_rfl) (by kernel_rfl) (fun _ _ _ h => h) (Or.inl ⟨by rfl, ?hyhR514⟩) hR5 ?_
                case hyhR514 => (intro w' hSw'; obtain ⟨k0, k1, k2⟩ := hSw'; go_simp; try with_reducible rfl)
                dsimp only [Act.put, List.getElem_toArray, List.getElem_cons_zero, List.getElem_cons_succ]
                simp only [List.setIfInBounds_toArray, List.set_cons_zero, List.set_cons_succ]
                refine wpAnyT_take (i := 15) (v := ?_) rfl (by kernel_rfl) (by kernel_rfl) (by kernel_rfl) (by kernel_rfl) (fun _ _ _ h => h) (Or.inl ⟨by rfl, ?hyhR515⟩) hR5 ?_
                case hyhR515 => (intro w' hSw'; obtain ⟨k0, k1, k2⟩ := hSw'; go_simp; try with_reducible rfl)
                dsimp only [Act.put, List.getElem_toArray, List.getElem_cons_zero, List.getElem_cons_succ]
                simp only [List.setIfInBounds_toArray, List.set_cons_zero, List.set_cons_succ]
                refine wpAnyT_one (i := 16) rfl (by kernel_rfl) ?_
                rw [if_pos (by rfl)]
                go_simp
                try refine ⟨hR5, ?_⟩
                refine wpAnyT_one (i := 17) rfl (by kernel_rfl) ?_
                rw [if_pos (by rfl)]
                go_simp
                refine wpAnyT_done (by kernel_rfl) ?_
                have o10 := o9.ext x10
                have hj10 := hj9.ext x10
                clear hR5 hWh x10 hj9 o9
                by_cases hs2 : sb2 = 0
                · have hW2 : wl2 = ts2 := by rw [hWL.out, if_pos hs2]
                  subst hW2
                  have hb2 : bb = true := by rw [hSB.out]; exact decide_eq_true hs2
                  subst hb2
                  have m6 : ((sb2 : Int) == 0) = true := by simp; exact hs2
                  clear hSB hWL hs2
                  have hPi : ∀ W, Ext w10 W → Calls Tryz.prog 41 #[.pointer (some ⟨X, 0, none⟩), uu] W fun e w' => e = .returned (.bool (jPieces wl2)) ∧ Ext W w' := by
                    intro W y
                    by_cases hne : wl2 = []
                    · subst hne
                      obtain ⟨ua, uc, rfl⟩ := hrow.lit
                      exact jPieces_nil W _ ua uc
                    · obtain ⟨g2, cap2, rfl, hc2, hr2, -⟩ := hrow.trow (List.length_pos_iff.mpr hne)
                      exact jPieces_any W _ g2 cap2 wl2 hc2 hcL (hr2.ext y) hcF.out
                  have hPi' := hPi w10 (Ext.refl _)
                  clear hPi hrow hcF hcL
                  generalize jPieces wl2 = jp at hPi' hV4
                  go_wp2_with fail
                  go_at_call 41
                  refine hPi'.mono ?_
                  rintro _ w11 ⟨rfl, x11⟩
                  try dsimp only
                  go_wp2
                  go_ret
                  rw [hV4.out]
                  cases jp with
                  | false => exact ⟨rfl, o10.ext x11, _, hj10.ext x11, fun q h => by cases h⟩
                  | true => exact ⟨rfl, o10.ext x11, _, hj10.ext x11, fun q h => by cases h; exact hq.out⟩
                · have hb2 : bb = false := by rw [hSB.out]; exact decide_eq_false hs2
                  subst hb2
                  have m6 : ((sb2 : Int) == 0) = false := by simp; exact hs2
                  clear hSB hWL hs2 hrow
                  go_wp2
                  go_ret
                  rw [hV4.out]
                  exact ⟨rfl, o10, _, hj10, fun q h => by cases h⟩
              · have n10 : ((kc : Int) != 48) = true := by simp; omega
                have hV' : Hid (oo = none) := by show _ = _; rw [hV3.out]; simp [h48]
                clear h48 hV3
                go_wp2
                go_ret
                rw [hV'.out]
                exact ⟨rfl, o8, _, hj8, fun q h => by cases h⟩
      · have hV' : Hid (oo = none) := by
          show _ = _
          rw [hV2.out, if_neg]
          intro hh
          have := part_two hh
          omega
        have m5 : ((n : Int) != 2) = true := by simp; omega
        clear h2
        go_wp2
        go_ret
        rw [hV'.out]
        exact ⟨rfl, o5, _, hj5, fun q h => by cases h⟩
  · have hBt : sideB l ⟨cls, cons, num, fro, til⟩ = false := by rw [hSB.out]; exact decide_eq_false hsb
    rw [hBt] at hV
    have hV' : Hid (oo = none) := by show _ = _; rw [hV.out]; simp
    have m0 : ((sb : Int) != 0) = true := by simp; exact hsb
    obtain ⟨ua, uc, rfl⟩ := hrow.lit
    clear hV hSB hWL hBt
    go_wp2
    go_ret
    rw [hV'.out]
    exact ⟨rfl, o5, _, hj5, fun q h => by cases h⟩
end Go.Proofs.YtmcodhdphdckkaaGreatDoor

/-
  PacketJust's own look at an item: kids (written by gen/mkje.py).
-/
namespace Go.Proofs.YtmcodhdphdckkaaGreatDoor
open Go.RowKit Go.Shelf

theorem TRow.only {w w' : World} {S : Nat → Prop} {g : Nat} {ts : List Tl} (h : TRow w g ts) (o : Only S w w') (hg : ¬ S g) : TRow w' g ts := ⟨fun i hi => by
  obtain ⟨h0, h1, h2, h3, h4⟩ := h.c i hi
  exact ⟨o.cell h0 hg, o.cell h1 hg, o.cell h2 hg, o.cell h3 hg, o.cell h4 hg⟩⟩
theorem jIs_le (l : List UInt8) : ∀ (f : Nat) (t : Tl) (p q : Nat), p ≤ 65536 → jIs l f t p = some q → q ≤ 65536 := by
  intro f
  induction f with
  | zero => intro t p q _ h; simp [jIs] at h
  | succ f ih =>
    intro t p q _ h
    simp only [jIs] at h
    split at h
    · cases h
    · rename_i hu
      unfold jBody at h
      repeat' split at h
      all_goals first
        | (cases h; done)
        | (cases h; omega)
        | exact jKids_le (fun t p q hp hj => ih t p q hp hj) _ _ _ (by omega) h
set_option maxRecDepth 100000 in
set_option maxHeartbeats 8000000 in
theorem is_160 (l : List UInt8) (X : Nat) (v : Value) (f : Nat) (hf : f < 64) (w : World) (t : Tl) (p : Nat) (hj : JW w X v l p) (ho : Off v X) (hp : p ≤ 65536) (ht : t.Fine) (htl : t.til ≤ l.length) (hll : l.length ≤ 1099511627776) (hIs : IsSpec l X v f) (hk : jTag t = 160) (hbig : p < 65536) : Calls Tryz.prog 11 #[.pointer (some ⟨X, 0, none⟩), jV t, .int .i64 (64 - (f + 1) : Nat)] w (IsPost w X v l (jIs l (f + 1) t p)) := by
  have hmix : Tryz.prog.follows Departure.mixedOrders = true := by kernel_rfl
  obtain ⟨ab, hab⟩ : ∃ ab : Nat, Hid (ab = 64 - (f + 1)) := ⟨_, rfl⟩
  have hab1 : decide ((64 : Int) ≤ (ab : Int)) = false := decide_eq_false (by have := hab.out; omega)
  rw [← hab.out]
  have hT := fun W => jTag_any W t ht
  obtain ⟨b0, x0⟩ := jbox w t
  have hV : Hid (jIs l (f + 1) t p = if sideB l t = false ∨ sideT l t = [] then none else jKids (jIs l f) (sideT l t) (p + 1)) := by
    show _ = _
    have hu : jUp t p = p + 1 := by unfold jUp; rw [if_neg (by omega)]
    simp only [jIs]
    rw [hu, if_neg (by omega)]
    unfold jBody
    rw [if_neg (by omega), if_neg (by omega)]; split; rfl; simp [hk]
  generalize jIs l (f + 1) t p = oo at hV ⊢
  generalize hkk : jTag t = k at *
  have hkh : Hid (jTag t = k) := hkk
  clear hkk
  obtain ⟨cls, cons, num, fro, til⟩ := t
  obtain ⟨hf1, hf2, hf3, hf4⟩ := id ht
  simp only [jV] at hT b0 x0 htl hf1 hf2 hf3 hf4 ⊢
  go_enter Tryz.func11, Tryz.ntmps11
  go_upto_region 1 with fail
  generalize w.alloc _ = w1 at b0 x0 ⊢
  obtain ⟨c0, c1, c2, c3, c4⟩ := jcells (t := ⟨cls, cons, num, fro, til⟩) b0
  simp only at c0 c1 c2 c3 c4
  go_wp2_with fail
  go_at_call 38
  refine (hT _).mono ?_
  rintro _ w2 ⟨rfl, x2⟩
  have b2 := (x2.block _ (Array.getElem?_eq_some_iff.1 b0).1).trans b0
  have hB : Hid (w.heap.size ≠ X) := by have := (Array.getElem?_eq_some_iff.1 hj.jf).1; show _ ≠ _; omega
  have hj2 := hj.ext (x0.trans x2)
  have x3 := x0.trans x2
  obtain ⟨e0, e1, ez⟩ := hj2.jf.cells
  have ez1 := ez 1
  clear c0 c1 c2 c3 c4 b0 x0 x2 hT ez hj
  try dsimp only
  have n0 : ((k : Int) != 162) = true := by simp; omega
  obtain ⟨q, hq⟩ : ∃ q : Nat, Hid (q = p + 1) := ⟨_, rfl⟩
  have hqi : (p : Int) + 1 = (q : Int) := by have := hq.out; omega
  have hqw : IntKind.i64.wrap (q : Int) = (q : Int) := by rw [IntKind.wrap_i64]; have := hq.out; omega
  go_upto_region 6 with fail
  have hj3 := hj2.set ho q
  have o3 : Only (fun g => g = X) w (w2.setCell ⟨X, 1, none⟩ (.int .i64 q)) := (x3.only (S := fun g => g = X)).setCell (.inl rfl) _
  have b3 : (w2.setCell ⟨X, 1, none⟩ (.int .i64 q)).heap[w.heap.size]? = _ := (((Only.refl (fun g => g = X) w2).setCell (p := ⟨X, 1, none⟩) (.inl rfl) (.int .i64 q)).block _ (Array.getElem?_eq_some_iff.1 b2).1 hB.out).trans b2
  clear e0 e1 ez1 b2 hj2 x3 hqi hqw
  generalize w2.setCell ⟨X, 1, none⟩ (.int .i64 q) = w3 at hj3 o3 b3 ⊢
  obtain ⟨e0, e1, -⟩ := hj3.jf.cells
  obtain ⟨c0, c1, c2, c3, c4⟩ := jcells (t := ⟨cls, cons, num, fro, til⟩) b3
  simp only at c0 c1 c2 c3 c4
  have n1 : decide ((65536 : Int) < (q : Int)) = false := decide_eq_false (by have := hq.out; omega)
  have n2 : ((k : Int) == 135) = false := by simp; omega
  have n3 : decide ((k : Int) < 160) = false := decide_eq_false (by omega)
  have n4 : decide ((169 : Int) < (k : Int)) = false := decide_eq_false (by omega)
  have n5 : ((k : Int) == 167) = false := by simp; omega
  have hWh := fun W (y : Ext w3 W) => Whole_any W v l fro til (hj3.sl.ext y) hll
  have hWL : Hid (wholeL l fro til = if (sideL l fro til).2 = 0 then sideT l ⟨cls, cons, num, fro, til⟩ else []) := rfl
  have hSB : Hid (sideB l ⟨cls, cons, num, fro, til⟩ = decide ((sideL l fro til).2 = 0)) := rfl
  generalize (sideL l fro til).2 = sb at hWh hWL hSB
  generalize wholeL l fro til = wl at hWh hWL
  generalize hST : sideT l ⟨cls, cons, num, fro, til⟩ = ts at hWL
  have hSTh : Hid (sideT l ⟨cls, cons, num, fro, til⟩ = ts) := hST
  clear hST
  go_upto_region 12 with fail
  refine wp_region_last (fun w' => w'.cell? ⟨X, 0, none⟩ = some v ∧ w'.cell? ⟨w.heap.size, 3, none⟩ = some (.int .i64 fro) ∧ w'.cell? ⟨w.heap.size, 4, none⟩ = some (.int .i64 til)) 13 hmix ?_
  change wpAnyT _ _ _ _ _ _ 14 _ _ w3.drew
  have hS : w3.drew.cell? ⟨X, 0, none⟩ = some v ∧ w3.drew.cell? ⟨w.heap.size, 3, none⟩ = some (.int .i64 fro) ∧ w3.drew.cell? ⟨w.heap.size, 4, none⟩ = some (.int .i64 til) := ⟨e0, c3, c4⟩
  have y3 : Ext w3 w3.drew := (Ext.refl w3).drew
  clear e0 e1 c0 c1 c2 c3 c4
  generalize w3.drew = w4 at hS y3 ⊢
  refine wpAnyT_take (i := 0) (v := ?_) rfl (by kernel_rfl) (by kernel_rfl) (by kernel_rfl) (by kernel_rfl) (fun _ _ _ h => h) (Or.inl ⟨by rfl, ?hyhS0⟩) hS ?_
  case hyhS0 => (intro w' hSw'; obtain ⟨k0, k1, k2⟩ := hSw'; go_simp; try with_reducible rfl)
  dsimp only [Act.put, List.getElem_toArray, List.getElem_cons_zero, List.getElem_cons_succ]
  simp only [List.setIfInBounds_toArray, List.set_cons_zero, List.set_cons_succ]
  refine wpAnyT_take (i := 1) (v := ?_) rfl (by kernel_rfl) (by kernel_rfl) (by kernel_rfl) (by kernel_rfl) (fun _ _ _ h => h) (Or.inl ⟨by rfl, ?hyhS1⟩) hS ?_
  case hyhS1 => (intro w' hSw'; obtain ⟨k0, k1, k2⟩ := hSw'; go_simp; try with_reducible rfl)
  dsimp only [Act.put, List.getElem_toArray, List.getElem_cons_zero, List.getElem_cons_succ]
  simp only [List.setIfInBounds_toArray, List.set_cons_zero, List.set_cons_succ]
  refine wpAnyT_take (i := 2) (v := ?_) rfl (by kernel_rfl) (by kernel_rfl) (by kernel_rfl) (by kernel_rfl) (fun _ _ _ h => h) (Or.inl ⟨by rfl, ?hyhS2⟩) hS ?_
  case hyhS2 => (intro w' hSw'; obtain ⟨k0, k1, k2⟩ := hSw'; go_simp; try with_reducible rfl)
  dsimp only [Act.put, List.getElem_toArray, List.getElem_cons_zero, List.getElem_cons_succ]
  simp only [List.setIfInBounds_toArray, List.set_cons_zero, List.set_cons_succ]
  refine wpAnyT_take (i := 3) (v := ?_) rfl (by kernel_rfl) (by kernel_rfl) (by kernel_rfl) (by kernel_rfl) (fun _ _ _ h => h) (Or.inl ⟨by rfl, ?hyhS3⟩) hS ?_
  case hyhS3 => (intro w' hSw'; obtain ⟨k0, k1, k2⟩ := hSw'; go_simp; try with_reducible rfl)
  dsimp only [Act.put, List.getElem_toArray, List.getElem_cons_zero, List.getElem_cons_succ]
  simp only [List.setIfInBounds_toArray, List.set_cons_zero, List.set_cons_succ]
  refine wpAnyT_take (i := 4) (v := ?_) rfl (by kernel_rfl) (by kernel_rfl) (by kernel_rfl) (by kernel_rfl) (fun _ _ _ h => h) (Or.inl ⟨by rfl, ?hyhS4⟩) hS ?_
  case hyhS4 => (intro w' hSw'; obtain ⟨k0, k1, k2⟩ := hSw'; go_simp; try with_reducible rfl)
  dsimp only [Act.put, List.getElem_toArray, List.getElem_cons_zero, List.getElem_cons_succ]
  simp only [List.setIfInBounds_toArray, List.set_cons_zero, List.set_cons_succ]
  refine wpAnyT_take (i := 5) (v := ?_) rfl (by kernel_rfl) (by kernel_rfl) (by kernel_rfl) (by kernel_rfl) (fun _ _ _ h => h) (Or.inl ⟨by rfl, ?hyhS5⟩) hS ?_
  case hyhS5 => (intro w' hSw'; obtain ⟨k0, k1, k2⟩ := hSw'; go_simp; try with_reducible rfl)
  dsimp only [Act.put, List.getElem_toArray, List.getElem_cons_zero, List.getElem_cons_succ]
  simp only [List.setIfInBounds_toArray, List.set_cons_zero, List.set_cons_succ]
  refine wpAnyT_take (i := 6) (v := ?_) rfl (by kernel_rfl) (by kernel_rfl) (by kernel_rfl) (by kernel_rfl) (fun _ _ _ h => h) (Or.inl ⟨by rfl, ?hyhS6⟩) hS ?_
  case hyhS6 => (intro w' hSw'; obtain ⟨k0, k1, k2⟩ := hSw'; go_simp; try with_reducible rfl)
  dsimp only [Act.put, List.getElem_toArray, List.getElem_cons_zero, List.getElem_cons_succ]
  simp only [List.setIfInBounds_toArray, List.set_cons_zero, List.set_cons_succ]
  refine wpAnyT_take (i := 7) (v := ?_) rfl (by kernel_rfl) (by kernel_rfl) (by kernel_rfl) (by kernel_rfl) (fun _ _ _ h => h) (Or.inl ⟨by rfl, ?hyhS7⟩) hS ?_
  case hyhS7 => (intro w' hSw'; obtain ⟨k0, k1, k2⟩ := hSw'; go_simp; try with_reducible rfl)
  dsimp only [Act.put, List.getElem_toArray, List.getElem_cons_zero, List.getElem_cons_succ]
  simp only [List.setIfInBounds_toArray, List.set_cons_zero, List.set_cons_succ]
  refine wpAnyT_one (i := 8) rfl (by kernel_rfl) ?_
  rw [if_pos (by rfl)]
  go_simp
  go_at_call 10
  refine (hWh _ y3).mono ?_
  rintro _ w5 ⟨u, rfl, hrow, x5⟩
  obtain ⟨k0, k1, k2⟩ := hS
  have hS5 : w5.cell? ⟨X, 0, none⟩ = some v ∧ w5.cell? ⟨w.heap.size, 3, none⟩ = some (.int .i64 fro) ∧ w5.cell? ⟨w.heap.size, 4, none⟩ = some (.int .i64 til) := ⟨x5.cell k0, x5.cell k1, x5.cell k2⟩
  clear k0 k1 k2
  try dsimp only
  refine ⟨hS5, ?_⟩
  refine wpAnyT_one (i := 9) rfl (by kernel_rfl) ?_
  rw [if_pos (by rfl)]
  go_simp
  try refine ⟨hS5, ?_⟩
  refine wpAnyT_take (i := 10) (v := ?_) rfl (by kernel_rfl) (by kernel_rfl) (by kernel_rfl) (by kernel_rfl) (fun _ _ _ h => h) (Or.inl ⟨by rfl, ?hyhS510⟩) hS5 ?_
  case hyhS510 => (intro w' hSw'; obtain ⟨k0, k1, k2⟩ := hSw'; go_simp; try with_reducible rfl)
  dsimp only [Act.put, List.getElem_toArray, List.getElem_cons_zero, List.getElem_cons_succ]
  simp only [List.setIfInBounds_toArray, List.set_cons_zero, List.set_cons_succ]
  refine wpAnyT_take (i := 11) (v := ?_) rfl (by kernel_rfl) (by kernel_rfl) (by kernel_rfl) (by kernel_rfl) (fun _ _ _ h => h) (Or.inl ⟨by rfl, ?hyhS511⟩) hS5 ?_
  case hyhS511 => (intro w' hSw'; obtain ⟨k0, k1, k2⟩ := hSw'; go_simp; try with_reducible rfl)
  dsimp only [Act.put, List.getElem_toArray, List.getElem_cons_zero, List.getElem_cons_succ]
  simp only [List.setIfInBounds_toArray, List.set_cons_zero, List.set_cons_succ]
  refine wpAnyT_one (i := 12) rfl (by kernel_rfl) ?_
  rw [if_pos (by rfl)]
  go_simp
  try refine ⟨hS5, ?_⟩
  refine wpAnyT_one (i := 13) rfl (by kernel_rfl) ?_
  rw [if_pos (by rfl)]
  go_simp
  refine wpAnyT_done (by kernel_rfl) ?_
  have z5 := y3.trans x5
  have o5 := o3.ext z5
  have hj5 := hj3.ext z5
  have hup : Hid (∀ g, w4.heap.size ≤ g → g ≠ X) := fun g hg => by have := (Array.getElem?_eq_some_iff.1 hj3.jf).1; have := y3.size; omega
  clear hS5 hWh y3 x5 z5 b3 hj3 o3
  by_cases hsb : sb = 0
  · have hW2 : wl = ts := by rw [hWL.out, if_pos hsb]
    subst hW2
    have hBt : sideB l ⟨cls, cons, num, fro, til⟩ = true := by rw [hSB.out]; exact decide_eq_true hsb
    rw [hBt, hSTh.out] at hV
    have m0 : ((sb : Int) != 0) = false := by simp; exact hsb
    clear hSB hWL hBt hsb
    by_cases hne : wl = []
    · subst hne
      have hV' : Hid (oo = none) := by show _ = _; rw [hV.out]; simp
      obtain ⟨ua, uc, rfl⟩ := hrow.lit
      simp only [List.length_nil]
      go_wp2
      go_ret
      rw [hV'.out]
      exact ⟨rfl, o5, _, hj5, fun q h => by cases h⟩
    · have hpos : 0 < wl.length := List.length_pos_iff.mpr hne
      obtain ⟨g, cap, rfl, hcap, hrw, hg⟩ := hrow.trow hpos
      have hfine : ∀ t ∈ wl, t.Fine ∧ t.til ≤ l.length := by
        intro t' ht'
        rw [← hSTh.out] at ht'
        have := (side_its (l := l) (t := ⟨cls, cons, num, fro, til⟩) hf3 htl).fine htl (by omega) t' ht'
        exact ⟨this.1, Nat.le_trans this.2 htl⟩
      have hwlen : wl.length < 36028797018963968 := by
        have := (side_its (l := l) (t := ⟨cls, cons, num, fro, til⟩) hf3 htl).len
        rw [hSTh.out] at this
        simp only at this
        omega
      have hgX := hup.out g hg
      have hV2 : Hid (oo = jKids (jIs l f) wl (p + 1)) := by show _ = _; rw [hV.out]; simp [hne]
      clear hV hrow hup hSTh
      obtain ⟨n, hn⟩ : ∃ n, wl.length = n := ⟨_, rfl⟩
      rw [hn] at hcap hwlen ⊢
      have hnh : Hid (wl.length = n) := hn
      have hn0 : 0 < n := by omega
      clear hn hne hpos
      have m3 : (n == 0) = false := by simp; omega
      have m4 : ((n : Int) == 0) = false := by simp; omega
      have hfh : Hid (∀ t ∈ wl, t.Fine ∧ t.til ≤ l.length) := hfine
      clear hfine
      obtain ⟨ac, hac⟩ : ∃ ac : Nat, Hid (ac = 64 - f) := ⟨_, rfl⟩
      have hac1 : (ab : Int) + 1 = (ac : Int) := by have := hab.out; have := hac.out; omega
      have hac2 : IntKind.i64.wrap (ac : Int) = (ac : Int) := by rw [IntKind.wrap_i64]; have := hac.out; omega
      have hI : Hid (IsSpec l X v f) := hIs
      clear hIs
      have hV4 : Hid (oo = jKids (jIs l f) wl q) := by show _ = _; rw [hV2.out, hq.out]
      have n6 : ((k : Int) == 160) = true := by simp; omega
      have n8 : ((k : Int) == 162) = false := by simp; omega
      clear hV2
      go_wp2
      go_loopw [84] (fun a wr => ∃ i m : Nat, i ≤ n ∧ a = .int .i64 i ∧ JW wr X v l m ∧ m ≤ 65536 ∧ oo = jKids (jIs l f) (wl.drop i) m ∧ Only (fun g => g = X) w wr ∧ TRow wr g wl) (fun a _ => n - (intOf a).toNat)
      case atStart => exact ⟨0, q, Nat.zero_le _, rfl, hj5, by have := hq.out; omega, hV4.out, o5, hrw⟩
      case round =>
        obtain ⟨i, m, hi, rfl, hjr, hm, hinv, hor, hrr⟩ := hrel
        have hinvh : Hid (oo = jKids (jIs l f) (wl.drop i) m) := hinv
        clear hinv
        by_cases hlt : i < n
        · have hlt' : i < wl.length := by rw [hnh.out]; exact hlt
          obtain ⟨g0, g1, g2, g3, g4⟩ := hrr.c i hlt'
          have htf := hfh.out wl[i] (List.getElem_mem hlt')
          have hdr : Hid (wl.drop i = wl[i] :: wl.drop (i + 1)) := List.drop_eq_getElem_cons hlt'
          generalize wl[i] = t' at g0 g1 g2 g3 g4 htf hdr
          have hC := hI.out wr t' m hjr hm htf.1 htf.2
          have hle : Hid (∀ z, jIs l f t' m = some z → z ≤ 65536) := fun z hz => jIs_le l f t' m z hm hz
          have hst : Hid (oo = match jIs l f t' m with | none => none | some z => jKids (jIs l f) (wl.drop (i + 1)) z) := by show _ = _; rw [hinvh.out, hdr.out]; rfl
          rw [← hac.out] at hC
          generalize jIs l f t' m = oj at hC hle hst
          clear hdr hinvh
          obtain ⟨dcls, dcons, dnum, dfro, dtil⟩ := t'
          simp only [jV] at g0 g1 g2 g3 g4 hC
          go_wp2_with fail
          go_at_call 11
          refine hC.mono ?_
          rintro _ w6 ⟨rfl, x6, m', hj6, hm'⟩
          have o6 := hor.then x6
          have hr6 := hrr.only x6 hgX
          clear g0 g1 g2 g3 g4 hC
          try dsimp only
          cases oj with
          | none =>
            simp only [Option.isSome_none]
            go_wp2
            go_ret
            rw [hst.out]
            exact ⟨rfl, o6, m', hj6, fun q h => by cases h⟩
          | some z =>
            simp only [Option.isSome_some]
            obtain rfl := hm' z rfl
            have hz := hle.out _ rfl
            have hst2 : Hid (oo = jKids (jIs l f) (wl.drop (i + 1)) m') := hst
            clear hst hm' hle
            go_wp2
            go_roundw
            case rel => exact ⟨i + 1, m', by omega, by go_num, hj6, hz, hst2.out, o6, hr6⟩
            case measure => simp [intOf]; omega
        · obtain rfl : i = n := by omega
          have hfin : Hid (oo = some m) := by show _ = _; rw [hinvh.out, List.drop_eq_nil_of_le (by rw [hnh.out]; exact Nat.le_refl _)]; rfl
          clear hinvh
          go_wp2
          go_ret
          rw [hfin.out]
          exact ⟨rfl, hor, m, hjr, fun q h => by cases h; rfl⟩
  · have hBt : sideB l ⟨cls, cons, num, fro, til⟩ = false := by rw [hSB.out]; exact decide_eq_false hsb
    rw [hBt] at hV
    have hV' : Hid (oo = none) := by show _ = _; rw [hV.out]; simp
    have m0 : ((sb : Int) != 0) = true := by simp; exact hsb
    obtain ⟨ua, uc, rfl⟩ := hrow.lit
    clear hV hSB hWL hBt
    go_wp2
    go_ret
    rw [hV'.out]
    exact ⟨rfl, o5, _, hj5, fun q h => by cases h⟩
set_option maxRecDepth 100000 in
set_option maxHeartbeats 8000000 in
theorem is_161 (l : List UInt8) (X : Nat) (v : Value) (f : Nat) (hf : f < 64) (w : World) (t : Tl) (p : Nat) (hj : JW w X v l p) (ho : Off v X) (hp : p ≤ 65536) (ht : t.Fine) (htl : t.til ≤ l.length) (hll : l.length ≤ 1099511627776) (hIs : IsSpec l X v f) (hk : jTag t = 161) (hbig : p < 65536) : Calls Tryz.prog 11 #[.pointer (some ⟨X, 0, none⟩), jV t, .int .i64 (64 - (f + 1) : Nat)] w (IsPost w X v l (jIs l (f + 1) t p)) := by
  have hmix : Tryz.prog.follows Departure.mixedOrders = true := by kernel_rfl
  obtain ⟨ab, hab⟩ : ∃ ab : Nat, Hid (ab = 64 - (f + 1)) := ⟨_, rfl⟩
  have hab1 : decide ((64 : Int) ≤ (ab : Int)) = false := decide_eq_false (by have := hab.out; omega)
  rw [← hab.out]
  have hT := fun W => jTag_any W t ht
  obtain ⟨b0, x0⟩ := jbox w t
  have hV : Hid (jIs l (f + 1) t p = if sideB l t = false ∨ sideT l t = [] then none else jKids (jIs l f) (sideT l t) (p + 1)) := by
    show _ = _
    have hu : jUp t p = p + 1 := by unfold jUp; rw [if_neg (by omega)]
    simp only [jIs]
    rw [hu, if_neg (by omega)]
    unfold jBody
    rw [if_neg (by omega), if_neg (by omega)]; split; rfl; simp [hk]
  generalize jIs l (f + 1) t p = oo at hV ⊢
  generalize hkk : jTag t = k at *
  have hkh : Hid (jTag t = k) := hkk
  clear hkk
  obtain ⟨cls, cons, num, fro, til⟩ := t
  obtain ⟨hf1, hf2, hf3, hf4⟩ := id ht
  simp only [jV] at hT b0 x0 htl hf1 hf2 hf3 hf4 ⊢
  go_enter Tryz.func11, Tryz.ntmps11
  go_upto_region 1 with fail
  generalize w.alloc _ = w1 at b0 x0 ⊢
  obtain ⟨c0, c1, c2, c3, c4⟩ := jcells (t := ⟨cls, cons, num, fro, til⟩) b0
  simp only at c0 c1 c2 c3 c4
  go_wp2_with fail
  go_at_call 38
  refine (hT _).mono ?_
  rintro _ w2 ⟨rfl, x2⟩
  have b2 := (x2.block _ (Array.getElem?_eq_some_iff.1 b0).1).trans b0
  have hB : Hid (w.heap.size ≠ X) := by have := (Array.getElem?_eq_some_iff.1 hj.jf).1; show _ ≠ _; omega
  have hj2 := hj.ext (x0.trans x2)
  have x3 := x0.trans x2
  obtain ⟨e0, e1, ez⟩ := hj2.jf.cells
  have ez1 := ez 1
  clear c0 c1 c2 c3 c4 b0 x0 x2 hT ez hj
  try dsimp only
  have n0 : ((k : Int) != 162) = true := by simp; omega
  obtain ⟨q, hq⟩ : ∃ q : Nat, Hid (q = p + 1) := ⟨_, rfl⟩
  have hqi : (p : Int) + 1 = (q : Int) := by have := hq.out; omega
  have hqw : IntKind.i64.wrap (q : Int) = (q : Int) := by rw [IntKind.wrap_i64]; have := hq.out; omega
  go_upto_region 6 with fail
  have hj3 := hj2.set ho q
  have o3 : Only (fun g => g = X) w (w2.setCell ⟨X, 1, none⟩ (.int .i64 q)) := (x3.only (S := fun g => g = X)).setCell (.inl rfl) _
  have b3 : (w2.setCell ⟨X, 1, none⟩ (.int .i64 q)).heap[w.heap.size]? = _ := (((Only.refl (fun g => g = X) w2).setCell (p := ⟨X, 1, none⟩) (.inl rfl) (.int .i64 q)).block _ (Array.getElem?_eq_some_iff.1 b2).1 hB.out).trans b2
  clear e0 e1 ez1 b2 hj2 x3 hqi hqw
  generalize w2.setCell ⟨X, 1, none⟩ (.int .i64 q) = w3 at hj3 o3 b3 ⊢
  obtain ⟨e0, e1, -⟩ := hj3.jf.cells
  obtain ⟨c0, c1, c2, c3, c4⟩ := jcells (t := ⟨cls, cons, num, fro, til⟩) b3
  simp only at c0 c1 c2 c3 c4
  have n1 : decide ((65536 : Int) < (q : Int)) = false := decide_eq_false (by have := hq.out; omega)
  have n2 : ((k : Int) == 135) = false := by simp; omega
  have n3 : decide ((k : Int) < 160) = false := decide_eq_false (by omega)
  have n4 : decide ((169 : Int) < (k : Int)) = false := decide_eq_false (by omega)
  have n5 : ((k : Int) == 167) = false := by simp; omega
  have hWh := fun W (y : Ext w3 W) => Whole_any W v l fro til (hj3.sl.ext y) hll
  have hWL : Hid (wholeL l fro til = if (sideL l fro til).2 = 0 then sideT l ⟨cls, cons, num, fro, til⟩ else []) := rfl
  have hSB : Hid (sideB l ⟨cls, cons, num, fro, til⟩ = decide ((sideL l fro til).2 = 0)) := rfl
  generalize (sideL l fro til).2 = sb at hWh hWL hSB
  generalize wholeL l fro til = wl at hWh hWL
  generalize hST : sideT l ⟨cls, cons, num, fro, til⟩ = ts at hWL
  have hSTh : Hid (sideT l ⟨cls, cons, num, fro, til⟩ = ts) := hST
  clear hST
  go_upto_region 12 with fail
  refine wp_region_last (fun w' => w'.cell? ⟨X, 0, none⟩ = some v ∧ w'.cell? ⟨w.heap.size, 3, none⟩ = some (.int .i64 fro) ∧ w'.cell? ⟨w.heap.size, 4, none⟩ = some (.int .i64 til)) 13 hmix ?_
  change wpAnyT _ _ _ _ _ _ 14 _ _ w3.drew
  have hS : w3.drew.cell? ⟨X, 0, none⟩ = some v ∧ w3.drew.cell? ⟨w.heap.size, 3, none⟩ = some (.int .i64 fro) ∧ w3.drew.cell? ⟨w.heap.size, 4, none⟩ = some (.int .i64 til) := ⟨e0, c3, c4⟩
  have y3 : Ext w3 w3.drew := (Ext.refl w3).drew
  clear e0 e1 c0 c1 c2 c3 c4
  generalize w3.drew = w4 at hS y3 ⊢
  refine wpAnyT_take (i := 0) (v := ?_) rfl (by kernel_rfl) (by kernel_rfl) (by kernel_rfl) (by kernel_rfl) (fun _ _ _ h => h) (Or.inl ⟨by rfl, ?hyhS0⟩) hS ?_
  case hyhS0 => (intro w' hSw'; obtain ⟨k0, k1, k2⟩ := hSw'; go_simp; try with_reducible rfl)
  dsimp only [Act.put, List.getElem_toArray, List.getElem_cons_zero, List.getElem_cons_succ]
  simp only [List.setIfInBounds_toArray, List.set_cons_zero, List.set_cons_succ]
  refine wpAnyT_take (i := 1) (v := ?_) rfl (by kernel_rfl) (by kernel_rfl) (by kernel_rfl) (by kernel_rfl) (fun _ _ _ h => h) (Or.inl ⟨by rfl, ?hyhS1⟩) hS ?_
  case hyhS1 => (intro w' hSw'; obtain ⟨k0, k1, k2⟩ := hSw'; go_simp; try with_reducible rfl)
  dsimp only [Act.put, List.getElem_toArray, List.getElem_cons_zero, List.getElem_cons_succ]
  simp only [List.setIfInBounds_toArray, List.set_cons_zero, List.set_cons_succ]
  refine wpAnyT_take (i := 2) (v := ?_) rfl (by kernel_rfl) (by kernel_rfl) (by kernel_rfl) (by kernel_rfl) (fun _ _ _ h => h) (Or.inl ⟨by rfl, ?hyhS2⟩) hS ?_
  case hyhS2 => (intro w' hSw'; obtain ⟨k0, k1, k2⟩ := hSw'; go_simp; try with_reducible rfl)
  dsimp only [Act.put, List.getElem_toArray, List.getElem_cons_zero, List.getElem_cons_succ]
  simp only [List.setIfInBounds_toArray, List.set_cons_zero, List.set_cons_succ]
  refine wpAnyT_take (i := 3) (v := ?_) rfl (by kernel_rfl) (by kernel_rfl) (by kernel_rfl) (by kernel_rfl) (fun _ _ _ h => h) (Or.inl ⟨by rfl, ?hyhS3⟩) hS ?_
  case hyhS3 => (intro w' hSw'; obtain ⟨k0, k1, k2⟩ := hSw'; go_simp; try with_reducible rfl)
  dsimp only [Act.put, List.getElem_toArray, List.getElem_cons_zero, List.getElem_cons_succ]
  simp only [List.setIfInBounds_toArray, List.set_cons_zero, List.set_cons_succ]
  refine wpAnyT_take (i := 4) (v := ?_) rfl (by kernel_rfl) (by kernel_rfl) (by kernel_rfl) (by kernel_rfl) (fun _ _ _ h => h) (Or.inl ⟨by rfl, ?hyhS4⟩) hS ?_
  case hyhS4 => (intro w' hSw'; obtain ⟨k0, k1, k2⟩ := hSw'; go_simp; try with_reducible rfl)
  dsimp only [Act.put, List.getElem_toArray, List.getElem_cons_zero, List.getElem_cons_succ]
  simp only [List.setIfInBounds_toArray, List.set_cons_zero, List.set_cons_succ]
  refine wpAnyT_take (i := 5) (v := ?_) rfl (by kernel_rfl) (by kernel_rfl) (by kernel_rfl) (by kernel_rfl) (fun _ _ _ h => h) (Or.inl ⟨by rfl, ?hyhS5⟩) hS ?_
  case hyhS5 => (intro w' hSw'; obtain ⟨k0, k1, k2⟩ := hSw'; go_simp; try with_reducible rfl)
  dsimp only [Act.put, List.getElem_toArray, List.getElem_cons_zero, List.getElem_cons_succ]
  simp only [List.setIfInBounds_toArray, List.set_cons_zero, List.set_cons_succ]
  refine wpAnyT_take (i := 6) (v := ?_) rfl (by kernel_rfl) (by kernel_rfl) (by kernel_rfl) (by kernel_rfl) (fun _ _ _ h => h) (Or.inl ⟨by rfl, ?hyhS6⟩) hS ?_
  case hyhS6 => (intro w' hSw'; obtain ⟨k0, k1, k2⟩ := hSw'; go_simp; try with_reducible rfl)
  dsimp only [Act.put, List.getElem_toArray, List.getElem_cons_zero, List.getElem_cons_succ]
  simp only [List.setIfInBounds_toArray, List.set_cons_zero, List.set_cons_succ]
  refine wpAnyT_take (i := 7) (v := ?_) rfl (by kernel_rfl) (by kernel_rfl) (by kernel_rfl) (by kernel_rfl) (fun _ _ _ h => h) (Or.inl ⟨by rfl, ?hyhS7⟩) hS ?_
  case hyhS7 => (intro w' hSw'; obtain ⟨k0, k1, k2⟩ := hSw'; go_simp; try with_reducible rfl)
  dsimp only [Act.put, List.getElem_toArray, List.getElem_cons_zero, List.getElem_cons_succ]
  simp only [List.setIfInBounds_toArray, List.set_cons_zero, List.set_cons_succ]
  refine wpAnyT_one (i := 8) rfl (by kernel_rfl) ?_
  rw [if_pos (by rfl)]
  go_simp
  go_at_call 10
  refine (hWh _ y3).mono ?_
  rintro _ w5 ⟨u, rfl, hrow, x5⟩
  obtain ⟨k0, k1, k2⟩ := hS
  have hS5 : w5.cell? ⟨X, 0, none⟩ = some v ∧ w5.cell? ⟨w.heap.size, 3, none⟩ = some (.int .i64 fro) ∧ w5.cell? ⟨w.heap.size, 4, none⟩ = some (.int .i64 til) := ⟨x5.cell k0, x5.cell k1, x5.cell k2⟩
  clear k0 k1 k2
  try dsimp only
  refine ⟨hS5, ?_⟩
  refine wpAnyT_one (i := 9) rfl (by kernel_rfl) ?_
  rw [if_pos (by rfl)]
  go_simp
  try refine ⟨hS5, ?_⟩
  refine wpAnyT_take (i := 10) (v := ?_) rfl (by kernel_rfl) (by kernel_rfl) (by kernel_rfl) (by kernel_rfl) (fun _ _ _ h => h) (Or.inl ⟨by rfl, ?hyhS510⟩) hS5 ?_
  case hyhS510 => (intro w' hSw'; obtain ⟨k0, k1, k2⟩ := hSw'; go_simp; try with_reducible rfl)
  dsimp only [Act.put, List.getElem_toArray, List.getElem_cons_zero, List.getElem_cons_succ]
  simp only [List.setIfInBounds_toArray, List.set_cons_zero, List.set_cons_succ]
  refine wpAnyT_take (i := 11) (v := ?_) rfl (by kernel_rfl) (by kernel_rfl) (by kernel_rfl) (by kernel_rfl) (fun _ _ _ h => h) (Or.inl ⟨by rfl, ?hyhS511⟩) hS5 ?_
  case hyhS511 => (intro w' hSw'; obtain ⟨k0, k1, k2⟩ := hSw'; go_simp; try with_reducible rfl)
  dsimp only [Act.put, List.getElem_toArray, List.getElem_cons_zero, List.getElem_cons_succ]
  simp only [List.setIfInBounds_toArray, List.set_cons_zero, List.set_cons_succ]
  refine wpAnyT_one (i := 12) rfl (by kernel_rfl) ?_
  rw [if_pos (by rfl)]
  go_simp
  try refine ⟨hS5, ?_⟩
  refine wpAnyT_one (i := 13) rfl (by kernel_rfl) ?_
  rw [if_pos (by rfl)]
  go_simp
  refine wpAnyT_done (by kernel_rfl) ?_
  have z5 := y3.trans x5
  have o5 := o3.ext z5
  have hj5 := hj3.ext z5
  have hup : Hid (∀ g, w4.heap.size ≤ g → g ≠ X) := fun g hg => by have := (Array.getElem?_eq_some_iff.1 hj3.jf).1; have := y3.size; omega
  clear hS5 hWh y3 x5 z5 b3 hj3 o3
  by_cases hsb : sb = 0
  · have hW2 : wl = ts := by rw [hWL.out, if_pos hsb]
    subst hW2
    have hBt : sideB l ⟨cls, cons, num, fro, til⟩ = true := by rw [hSB.out]; exact decide_eq_true hsb
    rw [hBt, hSTh.out] at hV
    have m0 : ((sb : Int) != 0) = false := by simp; exact hsb
    clear hSB hWL hBt hsb
    by_cases hne : wl = []
    · subst hne
      have hV' : Hid (oo = none) := by show _ = _; rw [hV.out]; simp
      obtain ⟨ua, uc, rfl⟩ := hrow.lit
      simp only [List.length_nil]
      go_wp2
      go_ret
      rw [hV'.out]
      exact ⟨rfl, o5, _, hj5, fun q h => by cases h⟩
    · have hpos : 0 < wl.length := List.length_pos_iff.mpr hne
      obtain ⟨g, cap, rfl, hcap, hrw, hg⟩ := hrow.trow hpos
      have hfine : ∀ t ∈ wl, t.Fine ∧ t.til ≤ l.length := by
        intro t' ht'
        rw [← hSTh.out] at ht'
        have := (side_its (l := l) (t := ⟨cls, cons, num, fro, til⟩) hf3 htl).fine htl (by omega) t' ht'
        exact ⟨this.1, Nat.le_trans this.2 htl⟩
      have hwlen : wl.length < 36028797018963968 := by
        have := (side_its (l := l) (t := ⟨cls, cons, num, fro, til⟩) hf3 htl).len
        rw [hSTh.out] at this
        simp only at this
        omega
      have hgX := hup.out g hg
      have hV2 : Hid (oo = jKids (jIs l f) wl (p + 1)) := by show _ = _; rw [hV.out]; simp [hne]
      clear hV hrow hup hSTh
      obtain ⟨n, hn⟩ : ∃ n, wl.length = n := ⟨_, rfl⟩
      rw [hn] at hcap hwlen ⊢
      have hnh : Hid (wl.length = n) := hn
      have hn0 : 0 < n := by omega
      clear hn hne hpos
      have m3 : (n == 0) = false := by simp; omega
      have m4 : ((n : Int) == 0) = false := by simp; omega
      have hfh : Hid (∀ t ∈ wl, t.Fine ∧ t.til ≤ l.length) := hfine
      clear hfine
      obtain ⟨ac, hac⟩ : ∃ ac : Nat, Hid (ac = 64 - f) := ⟨_, rfl⟩
      have hac1 : (ab : Int) + 1 = (ac : Int) := by have := hab.out; have := hac.out; omega
      have hac2 : IntKind.i64.wrap (ac : Int) = (ac : Int) := by rw [IntKind.wrap_i64]; have := hac.out; omega
      have hI : Hid (IsSpec l X v f) := hIs
      clear hIs
      have hV4 : Hid (oo = jKids (jIs l f) wl q) := by show _ = _; rw [hV2.out, hq.out]
      have n6 : ((k : Int) == 160) = false := by simp; omega
      have n7 : ((k : Int) == 161) = true := by simp; omega
      have n8 : ((k : Int) == 162) = false := by simp; omega
      clear hV2
      go_wp2
      go_loopw [84] (fun a wr => ∃ i m : Nat, i ≤ n ∧ a = .int .i64 i ∧ JW wr X v l m ∧ m ≤ 65536 ∧ oo = jKids (jIs l f) (wl.drop i) m ∧ Only (fun g => g = X) w wr ∧ TRow wr g wl) (fun a _ => n - (intOf a).toNat)
      case atStart => exact ⟨0, q, Nat.zero_le _, rfl, hj5, by have := hq.out; omega, hV4.out, o5, hrw⟩
      case round =>
        obtain ⟨i, m, hi, rfl, hjr, hm, hinv, hor, hrr⟩ := hrel
        have hinvh : Hid (oo = jKids (jIs l f) (wl.drop i) m) := hinv
        clear hinv
        by_cases hlt : i < n
        · have hlt' : i < wl.length := by rw [hnh.out]; exact hlt
          obtain ⟨g0, g1, g2, g3, g4⟩ := hrr.c i hlt'
          have htf := hfh.out wl[i] (List.getElem_mem hlt')
          have hdr : Hid (wl.drop i = wl[i] :: wl.drop (i + 1)) := List.drop_eq_getElem_cons hlt'
          generalize wl[i] = t' at g0 g1 g2 g3 g4 htf hdr
          have hC := hI.out wr t' m hjr hm htf.1 htf.2
          have hle : Hid (∀ z, jIs l f t' m = some z → z ≤ 65536) := fun z hz => jIs_le l f t' m z hm hz
          have hst : Hid (oo = match jIs l f t' m with | none => none | some z => jKids (jIs l f) (wl.drop (i + 1)) z) := by show _ = _; rw [hinvh.out, hdr.out]; rfl
          rw [← hac.out] at hC
          generalize jIs l f t' m = oj at hC hle hst
          clear hdr hinvh
          obtain ⟨dcls, dcons, dnum, dfro, dtil⟩ := t'
          simp only [jV] at g0 g1 g2 g3 g4 hC
          go_wp2_with fail
          go_at_call 11
          refine hC.mono ?_
          rintro _ w6 ⟨rfl, x6, m', hj6, hm'⟩
          have o6 := hor.then x6
          have hr6 := hrr.only x6 hgX
          clear g0 g1 g2 g3 g4 hC
          try dsimp only
          cases oj with
          | none =>
            simp only [Option.isSome_none]
            go_wp2
            go_ret
            rw [hst.out]
            exact ⟨rfl, o6, m', hj6, fun q h => by cases h⟩
          | some z =>
            simp only [Option.isSome_some]
            obtain rfl := hm' z rfl
            have hz := hle.out _ rfl
            have hst2 : Hid (oo = jKids (jIs l f) (wl.drop (i + 1)) m') := hst
            clear hst hm' hle
            go_wp2
            go_roundw
            case rel => exact ⟨i + 1, m', by omega, by go_num, hj6, hz, hst2.out, o6, hr6⟩
            case measure => simp [intOf]; omega
        · obtain rfl : i = n := by omega
          have hfin : Hid (oo = some m) := by show _ = _; rw [hinvh.out, List.drop_eq_nil_of_le (by rw [hnh.out]; exact Nat.le_refl _)]; rfl
          clear hinvh
          go_wp2
          go_ret
          rw [hfin.out]
          exact ⟨rfl, hor, m, hjr, fun q h => by cases h; rfl⟩
  · have hBt : sideB l ⟨cls, cons, num, fro, til⟩ = false := by rw [hSB.out]; exact decide_eq_false hsb
    rw [hBt] at hV
    have hV' : Hid (oo = none) := by show _ = _; rw [hV.out]; simp
    have m0 : ((sb : Int) != 0) = true := by simp; exact hsb
    obtain ⟨ua, uc, rfl⟩ := hrow.lit
    clear hV hSB hWL hBt
    go_wp2
    go_ret
    rw [hV'.out]
    exact ⟨rfl, o5, _, hj5, fun q h => by cases h⟩
set_option maxRecDepth 100000 in
set_option maxHeartbeats 8000000 in
theorem is_162 (l : List UInt8) (X : Nat) (v : Value) (f : Nat) (hf : f < 64) (w : World) (t : Tl) (p : Nat) (hj : JW w X v l p) (_ho : Off v X) (hp : p ≤ 65536) (ht : t.Fine) (htl : t.til ≤ l.length) (hll : l.length ≤ 1099511627776) (hIs : IsSpec l X v f) (hk : jTag t = 162) : Calls Tryz.prog 11 #[.pointer (some ⟨X, 0, none⟩), jV t, .int .i64 (64 - (f + 1) : Nat)] w (IsPost w X v l (jIs l (f + 1) t p)) := by
  have hmix : Tryz.prog.follows Departure.mixedOrders = true := by kernel_rfl
  obtain ⟨ab, hab⟩ : ∃ ab : Nat, Hid (ab = 64 - (f + 1)) := ⟨_, rfl⟩
  have hab1 : decide ((64 : Int) ≤ (ab : Int)) = false := decide_eq_false (by have := hab.out; omega)
  rw [← hab.out]
  have hT := fun W => jTag_any W t ht
  obtain ⟨b0, x0⟩ := jbox w t
  have hV : Hid (jIs l (f + 1) t p = if sideB l t = false ∨ sideT l t = [] then none else if (sideT l t).length ≠ 1 then none else jKids (jIs l f) (sideT l t) p) := by
    show _ = _
    have hu : jUp t p = p := by unfold jUp; rw [if_pos hk]
    simp only [jIs]
    rw [hu, if_neg (by omega)]
    unfold jBody
    rw [if_neg (by omega), if_neg (by omega)]; split; rfl; simp [hk]
  generalize jIs l (f + 1) t p = oo at hV ⊢
  generalize hkk : jTag t = k at *
  have hkh : Hid (jTag t = k) := hkk
  clear hkk
  obtain ⟨cls, cons, num, fro, til⟩ := t
  obtain ⟨hf1, hf2, hf3, hf4⟩ := id ht
  simp only [jV] at hT b0 x0 htl hf1 hf2 hf3 hf4 ⊢
  go_enter Tryz.func11, Tryz.ntmps11
  go_upto_region 1 with fail
  generalize w.alloc _ = w1 at b0 x0 ⊢
  obtain ⟨c0, c1, c2, c3, c4⟩ := jcells (t := ⟨cls, cons, num, fro, til⟩) b0
  simp only at c0 c1 c2 c3 c4
  go_wp2_with fail
  go_at_call 38
  refine (hT _).mono ?_
  rintro _ w2 ⟨rfl, x2⟩
  have b2 := (x2.block _ (Array.getElem?_eq_some_iff.1 b0).1).trans b0
  have hB : Hid (w.heap.size ≠ X) := by have := (Array.getElem?_eq_some_iff.1 hj.jf).1; show _ ≠ _; omega
  have hj2 := hj.ext (x0.trans x2)
  have x3 := x0.trans x2
  obtain ⟨e0, e1, ez⟩ := hj2.jf.cells
  have ez1 := ez 1
  clear c0 c1 c2 c3 c4 b0 x0 x2 hT ez hj
  try dsimp only
  have n0 : ((k : Int) != 162) = false := by simp; omega
  obtain ⟨q, hq⟩ : ∃ q : Nat, Hid (q = p) := ⟨_, rfl⟩
  have hj3 : JW w2 X v l q := by rw [hq.out]; exact hj2
  have o3 : Only (fun g => g = X) w w2 := x3.only (S := fun g => g = X)
  have b3 := b2
  clear e0 e1 ez1 b2 hj2 x3
  obtain ⟨w3, hw3⟩ : ∃ w3, w3 = w2 := ⟨_, rfl⟩
  subst hw3
  obtain ⟨e0, e1, -⟩ := hj3.jf.cells
  obtain ⟨c0, c1, c2, c3, c4⟩ := jcells (t := ⟨cls, cons, num, fro, til⟩) b3
  simp only at c0 c1 c2 c3 c4
  have n2 : ((k : Int) == 135) = false := by simp; omega
  have n3 : decide ((k : Int) < 160) = false := decide_eq_false (by omega)
  have n4 : decide ((169 : Int) < (k : Int)) = false := decide_eq_false (by omega)
  have n5 : ((k : Int) == 167) = false := by simp; omega
  have hWh := fun W (y : Ext w3 W) => Whole_any W v l fro til (hj3.sl.ext y) hll
  have hWL : Hid (wholeL l fro til = if (sideL l fro til).2 = 0 then sideT l ⟨cls, cons, num, fro, til⟩ else []) := rfl
  have hSB : Hid (sideB l ⟨cls, cons, num, fro, til⟩ = decide ((sideL l fro til).2 = 0)) := rfl
  generalize (sideL l fro til).2 = sb at hWh hWL hSB
  generalize wholeL l fro til = wl at hWh hWL
  generalize hST : sideT l ⟨cls, cons, num, fro, til⟩ = ts at hWL
  have hSTh : Hid (sideT l ⟨cls, cons, num, fro, til⟩ = ts) := hST
  clear hST
  go_upto_region 12 with fail
  refine wp_region_last (fun w' => w'.cell? ⟨X, 0, none⟩ = some v ∧ w'.cell? ⟨w.heap.size, 3, none⟩ = some (.int .i64 fro) ∧ w'.cell? ⟨w.heap.size, 4, none⟩ = some (.int .i64 til)) 13 hmix ?_
  change wpAnyT _ _ _ _ _ _ 14 _ _ w3.drew
  have hS : w3.drew.cell? ⟨X, 0, none⟩ = some v ∧ w3.drew.cell? ⟨w.heap.size, 3, none⟩ = some (.int .i64 fro) ∧ w3.drew.cell? ⟨w.heap.size, 4, none⟩ = some (.int .i64 til) := ⟨e0, c3, c4⟩
  have y3 : Ext w3 w3.drew := (Ext.refl w3).drew
  clear e0 e1 c0 c1 c2 c3 c4
  generalize w3.drew = w4 at hS y3 ⊢
  refine wpAnyT_take (i := 0) (v := ?_) rfl (by kernel_rfl) (by kernel_rfl) (by kernel_rfl) (by kernel_rfl) (fun _ _ _ h => h) (Or.inl ⟨by rfl, ?hyhS0⟩) hS ?_
  case hyhS0 => (intro w' hSw'; obtain ⟨k0, k1, k2⟩ := hSw'; go_simp; try with_reducible rfl)
  dsimp only [Act.put, List.getElem_toArray, List.getElem_cons_zero, List.getElem_cons_succ]
  simp only [List.setIfInBounds_toArray, List.set_cons_zero, List.set_cons_succ]
  refine wpAnyT_take (i := 1) (v := ?_) rfl (by kernel_rfl) (by kernel_rfl) (by kernel_rfl) (by kernel_rfl) (fun _ _ _ h => h) (Or.inl ⟨by rfl, ?hyhS1⟩) hS ?_
  case hyhS1 => (intro w' hSw'; obtain ⟨k0, k1, k2⟩ := hSw'; go_simp; try with_reducible rfl)
  dsimp only [Act.put, List.getElem_toArray, List.getElem_cons_zero, List.getElem_cons_succ]
  simp only [List.setIfInBounds_toArray, List.set_cons_zero, List.set_cons_succ]
  refine wpAnyT_take (i := 2) (v := ?_) rfl (by kernel_rfl) (by kernel_rfl) (by kernel_rfl) (by kernel_rfl) (fun _ _ _ h => h) (Or.inl ⟨by rfl, ?hyhS2⟩) hS ?_
  case hyhS2 => (intro w' hSw'; obtain ⟨k0, k1, k2⟩ := hSw'; go_simp; try with_reducible rfl)
  dsimp only [Act.put, List.getElem_toArray, List.getElem_cons_zero, List.getElem_cons_succ]
  simp only [List.setIfInBounds_toArray, List.set_cons_zero, List.set_cons_succ]
  refine wpAnyT_take (i := 3) (v := ?_) rfl (by kernel_rfl) (by kernel_rfl) (by kernel_rfl) (by kernel_rfl) (fun _ _ _ h => h) (Or.inl ⟨by rfl, ?hyhS3⟩) hS ?_
  case hyhS3 => (intro w' hSw'; obtain ⟨k0, k1, k2⟩ := hSw'; go_simp; try with_reducible rfl)
  dsimp only [Act.put, List.getElem_toArray, List.getElem_cons_zero, List.getElem_cons_succ]
  simp only [List.setIfInBounds_toArray, List.set_cons_zero, List.set_cons_succ]
  refine wpAnyT_take (i := 4) (v := ?_) rfl (by kernel_rfl) (by kernel_rfl) (by kernel_rfl) (by kernel_rfl) (fun _ _ _ h => h) (Or.inl ⟨by rfl, ?hyhS4⟩) hS ?_
  case hyhS4 => (intro w' hSw'; obtain ⟨k0, k1, k2⟩ := hSw'; go_simp; try with_reducible rfl)
  dsimp only [Act.put, List.getElem_toArray, List.getElem_cons_zero, List.getElem_cons_succ]
  simp only [List.setIfInBounds_toArray, List.set_cons_zero, List.set_cons_succ]
  refine wpAnyT_take (i := 5) (v := ?_) rfl (by kernel_rfl) (by kernel_rfl) (by kernel_rfl) (by kernel_rfl) (fun _ _ _ h => h) (Or.inl ⟨by rfl, ?hyhS5⟩) hS ?_
  case hyhS5 => (intro w' hSw'; obtain ⟨k0, k1, k2⟩ := hSw'; go_simp; try with_reducible rfl)
  dsimp only [Act.put, List.getElem_toArray, List.getElem_cons_zero, List.getElem_cons_succ]
  simp only [List.setIfInBounds_toArray, List.set_cons_zero, List.set_cons_succ]
  refine wpAnyT_take (i := 6) (v := ?_) rfl (by kernel_rfl) (by kernel_rfl) (by kernel_rfl) (by kernel_rfl) (fun _ _ _ h => h) (Or.inl ⟨by rfl, ?hyhS6⟩) hS ?_
  case hyhS6 => (intro w' hSw'; obtain ⟨k0, k1, k2⟩ := hSw'; go_simp; try with_reducible rfl)
  dsimp only [Act.put, List.getElem_toArray, List.getElem_cons_zero, List.getElem_cons_succ]
  simp only [List.setIfInBounds_toArray, List.set_cons_zero, List.set_cons_succ]
  refine wpAnyT_take (i := 7) (v := ?_) rfl (by kernel_rfl) (by kernel_rfl) (by kernel_rfl) (by kernel_rfl) (fun _ _ _ h => h) (Or.inl ⟨by rfl, ?hyhS7⟩) hS ?_
  case hyhS7 => (intro w' hSw'; obtain ⟨k0, k1, k2⟩ := hSw'; go_simp; try with_reducible rfl)
  dsimp only [Act.put, List.getElem_toArray, List.getElem_cons_zero, List.getElem_cons_succ]
  simp only [List.setIfInBounds_toArray, List.set_cons_zero, List.set_cons_succ]
  refine wpAnyT_one (i := 8) rfl (by kernel_rfl) ?_
  rw [if_pos (by rfl)]
  go_simp
  go_at_call 10
  refine (hWh _ y3).mono ?_
  rintro _ w5 ⟨u, rfl, hrow, x5⟩
  obtain ⟨k0, k1, k2⟩ := hS
  have hS5 : w5.cell? ⟨X, 0, none⟩ = some v ∧ w5.cell? ⟨w.heap.size, 3, none⟩ = some (.int .i64 fro) ∧ w5.cell? ⟨w.heap.size, 4, none⟩ = some (.int .i64 til) := ⟨x5.cell k0, x5.cell k1, x5.cell k2⟩
  clear k0 k1 k2
  try dsimp only
  refine ⟨hS5, ?_⟩
  refine wpAnyT_one (i := 9) rfl (by kernel_rfl) ?_
  rw [if_pos (by rfl)]
  go_simp
  try refine ⟨hS5, ?_⟩
  refine wpAnyT_take (i := 10) (v := ?_) rfl (by kernel_rfl) (by kernel_rfl) (by kernel_rfl) (by kernel_rfl) (fun _ _ _ h => h) (Or.inl ⟨by rfl, ?hyhS510⟩) hS5 ?_
  case hyhS510 => (intro w' hSw'; obtain ⟨k0, k1, k2⟩ := hSw'; go_simp; try with_reducible rfl)
  dsimp only [Act.put, List.getElem_toArray, List.getElem_cons_zero, List.getElem_cons_succ]
  simp only [List.setIfInBounds_toArray, List.set_cons_zero, List.set_cons_succ]
  refine wpAnyT_take (i := 11) (v := ?_) rfl (by kernel_rfl) (by kernel_rfl) (by kernel_rfl) (by kernel_rfl) (fun _ _ _ h => h) (Or.inl ⟨by rfl, ?hyhS511⟩) hS5 ?_
  case hyhS511 => (intro w' hSw'; obtain ⟨k0, k1, k2⟩ := hSw'; go_simp; try with_reducible rfl)
  dsimp only [Act.put, List.getElem_toArray, List.getElem_cons_zero, List.getElem_cons_succ]
  simp only [List.setIfInBounds_toArray, List.set_cons_zero, List.set_cons_succ]
  refine wpAnyT_one (i := 12) rfl (by kernel_rfl) ?_
  rw [if_pos (by rfl)]
  go_simp
  try refine ⟨hS5, ?_⟩
  refine wpAnyT_one (i := 13) rfl (by kernel_rfl) ?_
  rw [if_pos (by rfl)]
  go_simp
  refine wpAnyT_done (by kernel_rfl) ?_
  have z5 := y3.trans x5
  have o5 := o3.ext z5
  have hj5 := hj3.ext z5
  have hup : Hid (∀ g, w4.heap.size ≤ g → g ≠ X) := fun g hg => by have := (Array.getElem?_eq_some_iff.1 hj3.jf).1; have := y3.size; omega
  clear hS5 hWh y3 x5 z5 b3 hj3 o3
  by_cases hsb : sb = 0
  · have hW2 : wl = ts := by rw [hWL.out, if_pos hsb]
    subst hW2
    have hBt : sideB l ⟨cls, cons, num, fro, til⟩ = true := by rw [hSB.out]; exact decide_eq_true hsb
    rw [hBt, hSTh.out] at hV
    have m0 : ((sb : Int) != 0) = false := by simp; exact hsb
    clear hSB hWL hBt hsb
    by_cases hne : wl = []
    · subst hne
      have hV' : Hid (oo = none) := by show _ = _; rw [hV.out]; simp
      obtain ⟨ua, uc, rfl⟩ := hrow.lit
      simp only [List.length_nil]
      go_wp2
      go_ret
      rw [hV'.out]
      exact ⟨rfl, o5, _, hj5, fun q h => by cases h⟩
    · have hpos : 0 < wl.length := List.length_pos_iff.mpr hne
      obtain ⟨g, cap, rfl, hcap, hrw, hg⟩ := hrow.trow hpos
      have hfine : ∀ t ∈ wl, t.Fine ∧ t.til ≤ l.length := by
        intro t' ht'
        rw [← hSTh.out] at ht'
        have := (side_its (l := l) (t := ⟨cls, cons, num, fro, til⟩) hf3 htl).fine htl (by omega) t' ht'
        exact ⟨this.1, Nat.le_trans this.2 htl⟩
      have hwlen : wl.length < 36028797018963968 := by
        have := (side_its (l := l) (t := ⟨cls, cons, num, fro, til⟩) hf3 htl).len
        rw [hSTh.out] at this
        simp only at this
        omega
      have hgX := hup.out g hg
      have hV2 : Hid (oo = if wl.length ≠ 1 then none else jKids (jIs l f) wl p) := by show _ = _; rw [hV.out]; simp [hne]
      clear hV hrow hup hSTh
      obtain ⟨n, hn⟩ : ∃ n, wl.length = n := ⟨_, rfl⟩
      rw [hn] at hcap hwlen ⊢
      have hnh : Hid (wl.length = n) := hn
      have hn0 : 0 < n := by omega
      clear hn hne hpos
      have m3 : (n == 0) = false := by simp; omega
      have m4 : ((n : Int) == 0) = false := by simp; omega
      have hfh : Hid (∀ t ∈ wl, t.Fine ∧ t.til ≤ l.length) := hfine
      clear hfine
      obtain ⟨ac, hac⟩ : ∃ ac : Nat, Hid (ac = 64 - f) := ⟨_, rfl⟩
      have hac1 : (ab : Int) + 1 = (ac : Int) := by have := hab.out; have := hac.out; omega
      have hac2 : IntKind.i64.wrap (ac : Int) = (ac : Int) := by rw [IntKind.wrap_i64]; have := hac.out; omega
      have hI : Hid (IsSpec l X v f) := hIs
      clear hIs
      have n6 : ((k : Int) == 160) = false := by simp; omega
      have n7 : ((k : Int) == 161) = false := by simp; omega
      have n8 : ((k : Int) == 162) = true := by simp; omega
      by_cases h1 : n ≠ 1
      · have hV' : Hid (oo = none) := by show _ = _; rw [hV2.out, if_pos (by rw [hnh.out]; exact h1)]
        have m5 : ((n : Int) != 1) = true := by simp; omega
        clear h1
        go_wp2
        go_ret
        rw [hV'.out]
        exact ⟨rfl, o5, _, hj5, fun q h => by cases h⟩
      have hV4 : Hid (oo = jKids (jIs l f) wl q) := by show _ = _; rw [hV2.out, if_neg (by rw [hnh.out]; exact h1), hq.out]
      have m5 : ((n : Int) != 1) = false := by simp; omega
      clear hV2 h1
      go_wp2
      go_loopw [84] (fun a wr => ∃ i m : Nat, i ≤ n ∧ a = .int .i64 i ∧ JW wr X v l m ∧ m ≤ 65536 ∧ oo = jKids (jIs l f) (wl.drop i) m ∧ Only (fun g => g = X) w wr ∧ TRow wr g wl) (fun a _ => n - (intOf a).toNat)
      case atStart => exact ⟨0, q, Nat.zero_le _, rfl, hj5, by have := hq.out; omega, hV4.out, o5, hrw⟩
      case round =>
        obtain ⟨i, m, hi, rfl, hjr, hm, hinv, hor, hrr⟩ := hrel
        have hinvh : Hid (oo = jKids (jIs l f) (wl.drop i) m) := hinv
        clear hinv
        by_cases hlt : i < n
        · have hlt' : i < wl.length := by rw [hnh.out]; exact hlt
          obtain ⟨g0, g1, g2, g3, g4⟩ := hrr.c i hlt'
          have htf := hfh.out wl[i] (List.getElem_mem hlt')
          have hdr : Hid (wl.drop i = wl[i] :: wl.drop (i + 1)) := List.drop_eq_getElem_cons hlt'
          generalize wl[i] = t' at g0 g1 g2 g3 g4 htf hdr
          have hC := hI.out wr t' m hjr hm htf.1 htf.2
          have hle : Hid (∀ z, jIs l f t' m = some z → z ≤ 65536) := fun z hz => jIs_le l f t' m z hm hz
          have hst : Hid (oo = match jIs l f t' m with | none => none | some z => jKids (jIs l f) (wl.drop (i + 1)) z) := by show _ = _; rw [hinvh.out, hdr.out]; rfl
          rw [← hac.out] at hC
          generalize jIs l f t' m = oj at hC hle hst
          clear hdr hinvh
          obtain ⟨dcls, dcons, dnum, dfro, dtil⟩ := t'
          simp only [jV] at g0 g1 g2 g3 g4 hC
          go_wp2_with fail
          go_at_call 11
          refine hC.mono ?_
          rintro _ w6 ⟨rfl, x6, m', hj6, hm'⟩
          have o6 := hor.then x6
          have hr6 := hrr.only x6 hgX
          clear g0 g1 g2 g3 g4 hC
          try dsimp only
          cases oj with
          | none =>
            simp only [Option.isSome_none]
            go_wp2
            go_ret
            rw [hst.out]
            exact ⟨rfl, o6, m', hj6, fun q h => by cases h⟩
          | some z =>
            simp only [Option.isSome_some]
            obtain rfl := hm' z rfl
            have hz := hle.out _ rfl
            have hst2 : Hid (oo = jKids (jIs l f) (wl.drop (i + 1)) m') := hst
            clear hst hm' hle
            go_wp2
            go_roundw
            case rel => exact ⟨i + 1, m', by omega, by go_num, hj6, hz, hst2.out, o6, hr6⟩
            case measure => simp [intOf]; omega
        · obtain rfl : i = n := by omega
          have hfin : Hid (oo = some m) := by show _ = _; rw [hinvh.out, List.drop_eq_nil_of_le (by rw [hnh.out]; exact Nat.le_refl _)]; rfl
          clear hinvh
          go_wp2
          go_ret
          rw [hfin.out]
          exact ⟨rfl, hor, m, hjr, fun q h => by cases h; rfl⟩
  · have hBt : sideB l ⟨cls, cons, num, fro, til⟩ = false := by rw [hSB.out]; exact decide_eq_false hsb
    rw [hBt] at hV
    have hV' : Hid (oo = none) := by show _ = _; rw [hV.out]; simp
    have m0 : ((sb : Int) != 0) = true := by simp; exact hsb
    obtain ⟨ua, uc, rfl⟩ := hrow.lit
    clear hV hSB hWL hBt
    go_wp2
    go_ret
    rw [hV'.out]
    exact ⟨rfl, o5, _, hj5, fun q h => by cases h⟩
set_option maxRecDepth 100000 in
set_option maxHeartbeats 4000000 in
theorem is_zero (l : List UInt8) (X : Nat) (v : Value) : IsSpec l X v 0 := by
  intro w t p hj hp ht htl
  have hT := fun W => jTag_any W t ht
  have hV : Hid (jIs l 0 t p = none) := rfl
  generalize jIs l 0 t p = oo at hV ⊢
  obtain ⟨b0, x0⟩ := jbox w t
  obtain ⟨ab, hab⟩ : ∃ ab : Nat, Hid (ab = 64 - 0) := ⟨_, rfl⟩
  have hab1 : decide ((64 : Int) ≤ (ab : Int)) = true := decide_eq_true (by have := hab.out; omega)
  rw [← hab.out]
  generalize jTag t = k at hT
  obtain ⟨cls, cons, num, fro, til⟩ := t
  simp only [jV] at hT b0 x0 ⊢
  go_enter Tryz.func11, Tryz.ntmps11
  go_upto_region 1 with fail
  generalize w.alloc _ = w1 at b0 x0 ⊢
  obtain ⟨c0, c1, c2, c3, c4⟩ := jcells (t := ⟨cls, cons, num, fro, til⟩) b0
  simp only at c0 c1 c2 c3 c4
  go_wp2_with fail
  go_at_call 38
  refine (hT _).mono ?_
  rintro _ w2 ⟨rfl, x2⟩
  try dsimp only
  go_wp2
  go_ret
  rw [hV.out]
  exact ⟨rfl, (x0.trans x2).only, p, hj.ext (x0.trans x2), fun q h => by cases h⟩
theorem is_all (l : List UInt8) (X : Nat) (v : Value) (ho : Off v X) (hll : l.length ≤ 1099511627776) : ∀ f, f ≤ 64 → IsSpec l X v f := by
  intro f
  induction f with
  | zero => intro _; exact is_zero l X v
  | succ f ih =>
    intro hf w t p hj hp ht htl
    have hI := ih (by omega)
    by_cases h2 : jTag t = 162
    · exact is_162 l X v f (by omega) w t p hj ho hp ht htl hll hI h2
    by_cases hb : p < 65536
    · by_cases h7 : jTag t = 135
      · exact is_have l X v f (by omega) w t p hj ho hp ht htl hll h7 hb
      by_cases hbad : jTag t < 160 ∨ 169 < jTag t ∨ jTag t = 167
      · exact is_bad l X v f (by omega) w t p hj ho hp ht htl hll h2 hb h7 hbad
      by_cases h0 : jTag t = 160
      · exact is_160 l X v f (by omega) w t p hj ho hp ht htl hll hI h0 hb
      by_cases h1 : jTag t = 161
      · exact is_161 l X v f (by omega) w t p hj ho hp ht htl hll hI h1 hb
      by_cases h4 : jTag t = 164
      · exact is_part l X v f (by omega) w t p hj ho hp ht htl hll h4 hb
      by_cases h9 : jTag t = 169
      · exact is_rule l X v f (by omega) w t p hj ho hp ht htl hll h9 hb
      exact is_against l X v f (by omega) w t p hj ho hp ht htl hll (by omega) hb
    · exact is_long l X v f (by omega) w t p hj ho hp ht htl hll h2 (by omega)
end Go.Proofs.YtmcodhdphdckkaaGreatDoor
