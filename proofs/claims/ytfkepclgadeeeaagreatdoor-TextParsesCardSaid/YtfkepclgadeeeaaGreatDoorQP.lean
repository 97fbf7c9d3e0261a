/-
  The program's reader of any text: it goes on; filters take a byte at least, stay in the text, and count no more parts than may be.
-/
import Derived.Test.YtfkepclgadeeeaaGreatDoorQO
namespace Go.Proofs.YtfkepclgadeeeaaGreatDoor
open Go.RowKit Go.Shelf

theorem pcGo_ge {s : ByteArray} : ∀ {n : Nat} {a b : OwnF} {p q : Nat}, pcGo s n a p = .ok b q → p ≤ s.size → p ≤ q
  | 0, _, _, _, _, h, hp => by cases h; exact Nat.le_refl _
  | n + 1, a, b, p, q, h, hp => by
    rw [pcGo] at h
    split at h
    · rename_i hc
      have hlt := hdIs_lt hc
      obtain ⟨x, q', h1, h2⟩ := Tr.bind_ok h
      have h3 := valR_le (by omega) h1
      have := pcGo_ge h2 h3.2
      omega
    · cases h; exact Nat.le_refl _
theorem eqR_ge {s : ByteArray} {a b : OwnF} {p q : Nat} (h : eqR s a p = .ok b q) (hp : p ≤ s.size) : p ≤ q := by
  unfold eqR at h
  obtain ⟨x, q', h1, h2⟩ := Tr.bind_ok h
  have hq := valR_le hp h1
  split at h2
  · obtain ⟨c, r, h3, h4⟩ := Tr.bind_ok h2
    have := pcGo_ge h3 hq.2
    cases h4
    omega
  · cases h2; exact hq.1
theorem agR_ge {s : ByteArray} {kind : Int} {f f' : F9} {p q : Nat} (h : agR s kind f p = .ok f' q) : p ≤ q := by
  unfold agR at h
  split at h
  · rename_i hh
    obtain ⟨x, q', h1, h2⟩ := Tr.bind_ok h
    cases h2
    have := (valR_le (by have := hdIs_lt hh; omega) h1).1
    omega
  · cases h
theorem ruGo_ge {s : ByteArray} : ∀ {n : Nat} {f f' : F9} {p q : Nat}, ruGo s n f p = .ok f' q → p ≤ s.size → p ≤ q
  | 0, _, _, _, _, h, _ => by cases h
  | n + 1, f, f', p, q, h, hp => by
    rw [ruGo] at h
    split at h
    · rename_i h58
      have hlt := hdIs_lt h58
      split at h
      · rename_i hc
        rw [Bool.and_eq_true] at hc
        have hlt2 := hdIs_lt hc.2
        obtain ⟨x, q', h1, h2⟩ := Tr.bind_ok h
        have := valR_le (by omega) h1
        cases h2
        omega
      · split at h
        · cases h
        · obtain ⟨x, q', h1, h2⟩ := Tr.bind_ok h
          have hq := dnR_le (by omega) h1
          have := ruGo_ge h2 hq.2
          omega
    · cases h
theorem itemR_ge {s : ByteArray} {a : OwnF} {p q : Nat} (h : itemR s p = .ok a q) (hp : p ≤ s.size) : p ≤ q := by
  unfold itemR at h
  obtain ⟨d, r, h1, h2⟩ := Tr.bind_ok h
  have hr : p ≤ r ∧ r ≤ s.size := by
    unfold headR at h1
    split at h1
    · cases h1; exact ⟨Nat.le_refl _, hp⟩
    · exact descR_le hp h1
  have key : ∀ kind, ((agR s kind (dF d) (r + 1)).bind fun f r => Tr.ok (f9O f) r) = .ok a q → p ≤ q := fun kind h => by
    obtain ⟨f, q', h3, h4⟩ := Tr.bind_ok h
    have := agR_ge h3
    cases h4
    omega
  unfold signR at h2
  split at h2
  · rename_i hh
    have := eqR_ge h2 (by have := hdIs_lt hh; omega)
    omega
  · split at h2
    · exact key _ h2
    · split at h2
      · exact key _ h2
      · split at h2
        · exact key _ h2
        · obtain ⟨f, q', h3, h4⟩ := Tr.bind_ok h2
          have := ruGo_ge h3 hr.2
          cases h4
          omega
theorem Tq.bind_ok {α β : Type} {o : Tq α} {g : α → Nat → Nat → Tq β} {y : β} {r j : Nat} (h : o.bind g = .ok y r j) : ∃ x q k, o = .ok x q k ∧ g x q k = .ok y r j := by
  cases o with
  | ok x q k => exact ⟨x, q, k, rfl, h⟩
  | bad c a => cases h
/-- a reader of filters that takes a byte at least, stays in the text, and counts -/
def RecOk (s : ByteArray) (rec : Nat → Nat → Tq (OwnF × FT)) : Prop := ∀ p k x q k', rec p k = .ok x q k' → p ≤ s.size → k ≤ 65536 → p < q ∧ q ≤ s.size ∧ k' ≤ 65536
theorem ksGo_ok {s : ByteArray} {rec : Nat → Nat → Tq (OwnF × FT)} (hr : RecOk s rec) : ∀ {n : Nat} {l l' : List (OwnF × FT)} {p k q k' : Nat}, ksGo rec s n l p k = .ok l' q k' → p ≤ s.size → k ≤ 65536 → p ≤ q ∧ q ≤ s.size ∧ k' ≤ 65536
  | 0, _, _, _, _, _, _, h, hp, hk => by cases h; exact ⟨Nat.le_refl _, hp, hk⟩
  | n + 1, l, l', p, k, q, k', h, hp, hk => by
    rw [ksGo] at h
    split at h
    · obtain ⟨x, q1, k1, h1, h2⟩ := Tq.bind_ok h
      obtain ⟨a1, a2, a3⟩ := hr _ _ _ _ _ h1 hp hk
      obtain ⟨b1, b2, b3⟩ := ksGo_ok hr h2 a2 a3
      exact ⟨by omega, b2, b3⟩
    · cases h; exact ⟨Nat.le_refl _, hp, hk⟩
theorem ksR_ok {s : ByteArray} {rec : Nat → Nat → Tq (OwnF × FT)} (hr : RecOk s rec) {l' : List (OwnF × FT)} {p k q k' : Nat} (h : ksR rec s p k = .ok l' q k') (hp : p ≤ s.size) (hk : k ≤ 65536) : p ≤ q ∧ q ≤ s.size ∧ k' ≤ 65536 := by
  unfold ksR at h
  obtain ⟨x, q1, k1, h1, h2⟩ := Tq.bind_ok h
  obtain ⟨a1, a2, a3⟩ := hr _ _ _ _ _ h1 hp hk
  obtain ⟨b1, b2, b3⟩ := ksGo_ok hr h2 a2 a3
  exact ⟨by omega, b2, b3⟩
theorem bodyR_ok {s : ByteArray} {rec : Nat → Nat → Tq (OwnF × FT)} (hr : RecOk s rec) {x : OwnF × FT} {p k q k' : Nat} (h : bodyR rec s p k = .ok x q k') (hp : p ≤ s.size) (hk : k ≤ 65536) : p ≤ q ∧ q ≤ s.size ∧ k' ≤ 65536 := by
  unfold bodyR at h
  split at h
  · rename_i hh
    have hlt := hdIs_lt hh
    obtain ⟨l, q1, k1, h1, h2⟩ := Tq.bind_ok h
    have := ksR_ok hr h1 (by omega) hk
    cases h2
    exact ⟨by omega, this.2⟩
  · split at h
    · rename_i hh
      have hlt := hdIs_lt hh
      obtain ⟨l, q1, k1, h1, h2⟩ := Tq.bind_ok h
      have := ksR_ok hr h1 (by omega) hk
      cases h2
      exact ⟨by omega, this.2⟩
    · split at h
      · rename_i hh
        have hlt := hdIs_lt hh
        obtain ⟨l, q1, k1, h1, h2⟩ := Tq.bind_ok h
        have := hr _ _ _ _ _ h1 (by omega) hk
        cases h2
        exact ⟨by omega, this.2⟩
      · obtain ⟨a, q1, k1, h1, h2⟩ := Tq.bind_ok h
        cases h2
        cases hi : itemR s p with
        | bad c a => rw [hi] at h1; cases h1
        | ok b r =>
          rw [hi] at h1
          cases h1
          exact ⟨itemR_ge hi hp, (itemR_ok hi hp).2, hk⟩
theorem openR_ok {s : ByteArray} {d p k q k' : Nat} (h : openR s d p k = .ok () q k') (hk : k ≤ 65536) : q = p + 1 ∧ q ≤ s.size ∧ k' ≤ 65536 ∧ d ≤ 64 := by
  unfold openR at h
  split at h
  · rename_i hh
    have hlt := hdIs_lt hh
    split at h
    · cases h
    · split at h
      · split at h
        · cases h
        · cases h; exact ⟨rfl, by omega, hk, by omega⟩
      · split at h
        · cases h
        · cases h; exact ⟨rfl, by omega, by omega, by omega⟩
  · cases h
theorem filR_ok (s : ByteArray) : ∀ n d, RecOk s (filR s n d)
  | 0, d => fun p k x q k' h hp hk => by
    rw [filR] at h
    obtain ⟨u, q1, k1, h1, h2⟩ := Tq.bind_ok h
    cases h2
  | n + 1, d => fun p k x q k' h hp hk => by
    rw [filR] at h
    obtain ⟨u, q1, k1, h1, h2⟩ := Tq.bind_ok h
    obtain ⟨a1, a2, a3, -⟩ := openR_ok h1 hk
    obtain ⟨y, r, k2, h3, h4⟩ := Tq.bind_ok h2
    obtain ⟨b1, b2, b3⟩ := bodyR_ok (filR_ok s n (d + 1)) h3 a2 a3
    split at h4
    · rename_i hh
      have hlt := hdIs_lt hh
      cases h4
      exact ⟨by omega, by omega, b3⟩
    · cases h4
end Go.Proofs.YtfkepclgadeeeaaGreatDoor

/-
  The program's reader of any text: a filter of any depth.
-/
namespace Go.Proofs.YtfkepclgadeeeaaGreatDoor
open Go.RowKit Go.Shelf

/-- the filter that was read is laid into the result -/
theorem fil_end {w wx : World} {R : Nat} {s : ByteArray} {o : Tq (OwnF × FT)} {v : Value} {f : F9} (h1 : Only (fun g => g = R ∨ w.heap.size ≤ g) w wx) (hz : FlT wx w.heap.size F9.zero)
    (h2 : match o with
      | .ok x q k => v = .nilIface ∧ RdT wx R s q k ∧ GKeep (fun b => w.heap.size + 1 ≤ b ∧ b < wx.heap.size) wx f x.1 x.2
      | .bad c p => ∃ g q k, v = errV g ∧ w.heap.size + 1 ≤ g ∧ FtAt wx g c p ⟨#[]⟩ ∧ RdT wx R s q k) (hR : R < w.heap.size) :
    ∀ tm : Array Value, tm.getD 4 undef = .pointer (some ⟨w.heap.size, 0, none⟩) → tm.getD 5 undef = v → bodyPost Tryz.prog Tryz.f22 (FlPost w R s o) .ret ⟨tm, []⟩ (putF wx w.heap.size f) := by
  intro tm h3 h4
  have f6 := hz.put f
  have o6 := put_only wx w.heap.size f
  refine bodyPost_ret (results_fl rfl _ _ w.heap.size _ rfl h3 f6) rfl ?_
  rw [h4]
  have on : Only (fun g => g = R) w (putF wx w.heap.size f) := (h1.then (o6.mono fun g _ h => .inr (by omega))).mono fun g hg h => h.elim id (fun h => by omega)
  cases o with
  | ok x q k =>
    obtain ⟨rfl, r, hk⟩ := h2
    exact ⟨on, _, rfl, r.only o6 (by omega), (hk.next (fun b hb => o6.block b hb.2 (by have := hb.1; omega))).wide (fun b hb => ⟨by have := hb.1; omega, Nat.lt_of_lt_of_le hb.2 o6.size⟩)⟩
  | bad c p =>
    obtain ⟨g, q, k, rfl, hg, hft, r⟩ := h2
    exact ⟨on, g, q, k, f, rfl, by omega, hft.only o6 (by omega), r.only o6 (by omega)⟩
set_option maxRecDepth 100000 in
set_option maxHeartbeats 8000000 in
theorem fil_step (w : World) (R : Nat) (s : ByteArray) (d p k : Nat) (ob : Nat → Nat → Tq (OwnF × FT)) (hr : RdT w R s p k) (hs : s.size ≤ 900000000000) (hk : k ≤ 65536) (hd : d ≤ 1000000)
    (hB : ∀ W q k, RdT W R s q k → Only (fun g => g = R) w W → q ≤ s.size → k ≤ 65536 → d ≤ 64 → Calls Tryz.prog 37 #[.pointer (some ⟨R, 0, none⟩), .int .i64 d] W (FlPost W R s (ob q k))) :
    Calls Tryz.prog 22 #[.pointer (some ⟨R, 0, none⟩), .int .i64 d] w (FlPost w R s ((openR s d p k).bind fun _ q k' => (ob q k').bind fun x r k2 => if hdIs 41 ((byt s).drop r) then .ok x (r + 1) k2 else .bad (stuckC s r) r)) := by
  have hrl := hr.lt
  obtain ⟨o, ho⟩ : ∃ o, Hid (o = (openR s d p k).bind fun _ q k' => (ob q k').bind fun x r k2 => if hdIs 41 ((byt s).drop r) then .ok x (r + 1) k2 else .bad (stuckC s r) r) := ⟨_, rfl⟩
  rw [← ho.out]
  have hO := fun W (y : RdT W R s p k) => openR_any W R s d p k y (by omega) hk hd
  have hOk := fun q k' (h : openR s d p k = .ok () q k') => openR_ok h hk
  have hB := fun W q k (y : RdT W R s q k) (x : Only (fun g => g = R) w W) (h1 : q ≤ s.size) (h2 : k ≤ 65536) (h3 : d ≤ 64) => hB W q k y x h1 h2 h3
  generalize openR s d p k = u at hO hOk ho
  have f0 := fl_new w
  have x0 := (Ext.refl w).alloc (.cells #[.int .i8 0, .slice none 0 0, .string ⟨#[]⟩, .string ⟨#[]⟩, .string ⟨#[]⟩, .slice none 0 0, .string ⟨#[]⟩, .string ⟨#[]⟩, .bool false] 26)
  have r0 := hr.ext x0
  have s0 : Hid (w.heap.size + 1 ≤ (w.alloc (.cells #[.int .i8 0, .slice none 0 0, .string ⟨#[]⟩, .string ⟨#[]⟩, .string ⟨#[]⟩, .slice none 0 0, .string ⟨#[]⟩, .string ⟨#[]⟩, .bool false] 26)).heap.size) := by show _ ≤ _; rw [World.size_alloc]; exact Nat.le_refl _
  clear hr
  go_enter Tryz.func22, Tryz.ntmps22
  go_wp2_with fail
  generalize w.alloc _ = w0 at f0 x0 r0 s0 ⊢
  go_at_call 36
  refine (hO w0 r0).mono ?_
  clear hO r0
  cases u with
  | bad c a =>
    rintro _ w1 ⟨o1, g1, q1, k1, rfl, h1, h2, r1⟩
    have hoq : Hid (o = .bad c a) := ho.out
    have f1 := f0.only o1 (by omega)
    have hs0 := s0.out
    have hend := fil_end (w := w) (wx := w1) (R := R) (s := s) (o := o) (v := errV g1) (f := F9.zero) (x0.only.then (o1.mono fun _ _ h => .inl h)) f1 (by rw [hoq.out]; exact ⟨g1, q1, k1, rfl, by omega, h2, r1⟩) hrl
    have hendh : Hid _ := hend
    obtain ⟨d0, d1, d2, d3, d4, d5, d6, d7, d8, dz⟩ := f1.cells
    have dz0 := dz 0
    have dz1 := dz 1
    have dz2 := dz 2
    have dz3 := dz 3
    have dz4 := dz 4
    have dz5 := dz 5
    have dz6 := dz 6
    have dz7 := dz 7
    have dz8 := dz 8
    clear hend dz f1 f0 r1 h2 hs0 o1 x0
    unfold errV at hendh ⊢
    go_wp2
    exact hendh.out _ rfl rfl
  | ok uu q0 k0 =>
    rintro _ w1 ⟨o1, rfl, r1⟩
    obtain ⟨e1, e2, e3, e4⟩ := hOk q0 k0 rfl
    have hoq : Hid (o = (ob q0 k0).bind fun x r k2 => if hdIs 41 ((byt s).drop r) then .ok x (r + 1) k2 else .bad (stuckC s r) r) := ho.out
    have f1 := f0.only o1 (by omega)
    have hs1 : Hid (w.heap.size + 1 ≤ w1.heap.size) := Nat.le_trans s0.out o1.size
    have on1 := x0.only.then o1
    have hB1 := hB w1 q0 k0 r1 on1 e2 e3 e4
    generalize ob q0 k0 = u at hB1 hoq
    clear hB hOk f0 o1 x0 s0 ho
    go_wp2_with fail
    go_at_call 37
    refine hB1.mono ?_
    cases u with
    | bad c a =>
      rintro _ w2 ⟨o2, g2, q2, k2, f, rfl, h1, h2, r2⟩
      obtain ⟨k3, ka3, kn3, kc3, d3, v3, s3, ma3, mn3, mc3, e3, r3, b3⟩ := f
      simp only [F9.arr]
      have q1 : FlT (w2.alloc (.cells #[.int .i8 k3, .slice ka3 kn3 kc3, .string d3, .string v3, .string s3, .slice ma3 mn3 mc3, .string e3, .string r3, .bool b3] 26)) w2.heap.size ⟨k3, ka3, kn3, kc3, d3, v3, s3, ma3, mn3, mc3, e3, r3, b3⟩ := heap_alloc_new _ _
      have y1 := (Ext.refl w2).alloc (.cells #[.int .i8 k3, .slice ka3 kn3 kc3, .string d3, .string v3, .string s3, .slice ma3 mn3 mc3, .string e3, .string r3, .bool b3] 26)
      have hs3 : Hid ((w2.alloc (.cells #[.int .i8 k3, .slice ka3 kn3 kc3, .string d3, .string v3, .string s3, .slice ma3 mn3 mc3, .string e3, .string r3, .bool b3] 26)).heap.size = w2.heap.size + 1) := World.size_alloc _ _
      have hG : Hid (w.heap.size + 1 ≤ w2.heap.size) := Nat.le_trans hs1.out o2.size
      have f2 := f1.only o2 (by omega)
      have on2 := on1.then o2
      unfold errV
      go_upto_region 5 with fail
      generalize w2.alloc _ = w3 at q1 y1 hs3 ⊢
      obtain ⟨G, hGe⟩ : ∃ G, Hid (G = w2.heap.size) := ⟨_, rfl⟩
      rw [← hGe.out] at q1 ⊢
      have f3 := f2.ext y1
      have hs1o := hs1.out
      have hend := fil_end (w := w) (wx := w3) (R := R) (s := s) (o := o) (v := errV g2) (f := ⟨k3, ka3, kn3, kc3, d3, v3, s3, ma3, mn3, mc3, e3, r3, b3⟩) ((on2.ext y1).mono fun _ _ h => .inl h) f3 (by rw [hoq.out]; exact ⟨g2, q2, k2, rfl, by omega, h2.ext y1, r2.ext y1⟩) hrl
      have hendh : Hid _ := hend
      obtain ⟨d0, d1, d2, d3', d4, d5, d6, d7, d8, dz⟩ := f3.cells
      obtain ⟨c0, c1, c2, c3, c4, c5, c6, c7, c8, -⟩ := q1.cells
      simp only at c0 c1 c2 c3 c4 c5 c6 c7 c8
      have dz0 := dz 0
      have dz1 := dz 1
      have dz2 := dz 2
      have dz3 := dz 3
      have dz4 := dz 4
      have dz5 := dz 5
      have dz6 := dz 6
      have dz7 := dz 7
      have dz8 := dz 8
      clear hend dz f3 f2 f1 q1 y1 r1 r2 h2 on1 on2 o2 hs1o hB1 h1
      unfold errV at hendh
      go_wp2
      exact hendh.out _ rfl rfl
    | ok x r k2 =>
      rintro _ w2 ⟨o2, f, rfl, r2, hkp⟩
      obtain ⟨k3, ka3, kn3, kc3, d3, v3, s3, ma3, mn3, mc3, e3, r3, b3⟩ := f
      simp only [F9.arr]
      have q1 : FlT (w2.alloc (.cells #[.int .i8 k3, .slice ka3 kn3 kc3, .string d3, .string v3, .string s3, .slice ma3 mn3 mc3, .string e3, .string r3, .bool b3] 26)) w2.heap.size ⟨k3, ka3, kn3, kc3, d3, v3, s3, ma3, mn3, mc3, e3, r3, b3⟩ := heap_alloc_new _ _
      have y1 := (Ext.refl w2).alloc (.cells #[.int .i8 k3, .slice ka3 kn3 kc3, .string d3, .string v3, .string s3, .slice ma3 mn3 mc3, .string e3, .string r3, .bool b3] 26)
      have hs3 : Hid ((w2.alloc (.cells #[.int .i8 k3, .slice ka3 kn3 kc3, .string d3, .string v3, .string s3, .slice ma3 mn3 mc3, .string e3, .string r3, .bool b3] 26)).heap.size = w2.heap.size + 1) := World.size_alloc _ _
      have hG : Hid (w.heap.size + 1 ≤ w2.heap.size) := Nat.le_trans hs1.out o2.size
      have f2 := f1.only o2 (by omega)
      have on2 := on1.then o2
      go_upto_region 5 with fail
      generalize w2.alloc _ = w3 at q1 y1 hs3 ⊢
      obtain ⟨G, hGe⟩ : ∃ G, Hid (G = w2.heap.size) := ⟨_, rfl⟩
      rw [← hGe.out] at q1 ⊢
      have r4 := r2.ext y1
      have hM := must_any w3 R s r k2 41 r4 (by omega)
      have f3 := f2.ext y1
      clear hB1 r1 f1 f2 o2
      go_wp2_with fail
      go_at_call 38
      refine hM.mono ?_
      rintro _ w4 ⟨⟨v, rfl, hn⟩, r5, o4⟩
      have on4 : Only (fun g => g = R) w w4 := (on2.ext y1).then o4
      have hs4 := o4.size
      have hs3o := hs3.out
      have hGo := hG.out
      have f4 := f3.only o4 (by omega)
      have hGR : ¬ G = R := by have := hGe.out; omega
      have q4 := q1.only o4 hGR
      have hk4 : GKeep (fun b => w.heap.size + 1 ≤ b ∧ b < w4.heap.size) w4 ⟨k3, ka3, kn3, kc3, d3, v3, s3, ma3, mn3, mc3, e3, r3, b3⟩ x.1 x.2 := by
        have h5 := hkp.next (w' := w3) (fun b hb => y1.block b hb.2)
        exact (h5.next (fun b hb => o4.block b (by have := hb.2; omega) (by have := hb.1; have := hs1.out; omega))).wide (fun b hb => ⟨Nat.le_trans hs1.out hb.1, by have := hb.2; omega⟩)
      have hend : ∃ v', v = v' ∧ ∀ tm : Array Value, tm.getD 4 undef = .pointer (some ⟨w.heap.size, 0, none⟩) → tm.getD 5 undef = v → bodyPost Tryz.prog Tryz.f22 (FlPost w R s o) .ret ⟨tm, []⟩ (putF w4 w.heap.size ⟨k3, ka3, kn3, kc3, d3, v3, s3, ma3, mn3, mc3, e3, r3, b3⟩) := by
        refine ⟨v, rfl, fil_end (on4.mono fun _ _ h => .inl h) f4 ?_ hrl⟩
        rw [hoq.out]
        show match (if hdIs 41 ((byt s).drop r) = true then Tq.ok x (r + 1) k2 else .bad (stuckC s r) r) with
          | .ok x q k => _
          | .bad c p => _
        cases h41 : hdIs 41 ((byt s).drop r) with
        | true =>
          rw [h41] at hn r5
          exact ⟨hn.yes, r5, hk4⟩
        | false =>
          rw [h41] at hn r5
          obtain ⟨g, e, h1, h2⟩ := hn.no
          exact ⟨g, r, k2, e, by omega, h2, r5⟩
      obtain ⟨v', -, hend⟩ := hend
      have hendh : Hid _ := hend
      obtain ⟨d0, d1, d2, d3', d4, d5, d6, d7, d8, dz⟩ := f4.cells
      obtain ⟨c0, c1, c2, c3, c4, c5, c6, c7, c8, -⟩ := q4.cells
      simp only at c0 c1 c2 c3 c4 c5 c6 c7 c8
      have dz0 := dz 0
      have dz1 := dz 1
      have dz2 := dz 2
      have dz3 := dz 3
      have dz4 := dz 4
      have dz5 := dz 5
      have dz6 := dz 6
      have dz7 := dz 7
      have dz8 := dz 8
      clear hend dz f3 f4 q1 q4 y1 r2 r4 r5 hk4 hkp on1 on2 on4 o4 hs4 hs3o hGo hn hM
      go_wp2
      exact hendh.out _ rfl rfl
end Go.Proofs.YtfkepclgadeeeaaGreatDoor

/-
  The program's reader of any text: filters of every depth.
-/
namespace Go.Proofs.YtfkepclgadeeeaaGreatDoor
open Go.RowKit Go.Shelf

theorem fil_all (R : Nat) (s : ByteArray) (hs : s.size ≤ 900000000000) (g off cap : Nat) (hg : g ≠ R) (hG : 1 ≠ R) : ∀ (n d : Nat), n + d = 65 → ∀ (w : World) (p k : Nat), RdT w R s p k → Tab w g off cap → p ≤ s.size → k ≤ 65536 →
    Calls Tryz.prog 22 #[.pointer (some ⟨R, 0, none⟩), .int .i64 d] w (FlPost w R s (filR s n d p k))
  | 0, d, hd, w, p, k, hr, ht, hp, hk => by
    have h := fil_step w R s d p k (fun _ _ => .bad 91 p) hr hs hk (by omega) (fun W q k y x h1 h2 h3 => by omega)
    exact h
  | n + 1, d, hd, w, p, k, hr, ht, hp, hk => by
    have h := fil_step w R s d p k (bodyR (filR s n (d + 1)) s) hr hs hk (by omega) (fun W q k y x h1 h2 h3 => body_any W R s d q k (filR s n (d + 1)) y hs h1 h2 (by omega) g off cap (ht.only x hg hG) hg hG (filR_ok s n (d + 1))
      (fun W2 p2 k2 y2 t2 h4 h5 => fil_all R s hs g off cap hg hG n (d + 1) (by omega) W2 p2 k2 y2 t2 h4 h5))
    exact h
end Go.Proofs.YtfkepclgadeeeaaGreatDoor

/-
  The program's reader of any text: the whole of a text.
-/
namespace Go.Proofs.YtfkepclgadeeeaaGreatDoor
open Go.RowKit Go.Shelf

/-- the filter of a whole text is laid into the result -/
theorem who_end {w wx : World} {R : Nat} {s : ByteArray} {o : Tq (OwnF × FT)} {v : Value} {f : F9} (h1 : Only (fun g => g = R ∨ w.heap.size ≤ g) w wx) (hz : FlT wx w.heap.size F9.zero)
    (h2 : match o with
      | .ok x q k => v = .nilIface ∧ RdT wx R s q k ∧ GKeep (fun b => w.heap.size + 1 ≤ b ∧ b < wx.heap.size) wx f x.1 x.2
      | .bad c p => ∃ g q k, v = errV g ∧ w.heap.size + 1 ≤ g ∧ FtAt wx g c p ⟨#[]⟩ ∧ RdT wx R s q k) (hR : R < w.heap.size) :
    ∀ tm : Array Value, tm.getD 2 undef = .pointer (some ⟨w.heap.size, 0, none⟩) → tm.getD 3 undef = v → bodyPost Tryz.prog Tryz.f12 (FlPost w R s o) .ret ⟨tm, []⟩ (putF wx w.heap.size f) := by
  intro tm h3 h4
  have f6 := hz.put f
  have o6 := put_only wx w.heap.size f
  refine bodyPost_ret (results_fl rfl _ _ w.heap.size _ rfl h3 f6) rfl ?_
  rw [h4]
  have on : Only (fun g => g = R) w (putF wx w.heap.size f) := (h1.then (o6.mono fun g _ h => .inr (by omega))).mono fun g hg h => h.elim id (fun h => by omega)
  cases o with
  | ok x q k =>
    obtain ⟨rfl, r, hk⟩ := h2
    exact ⟨on, _, rfl, r.only o6 (by omega), (hk.next (fun b hb => o6.block b hb.2 (by have := hb.1; omega))).wide (fun b hb => ⟨by have := hb.1; omega, Nat.lt_of_lt_of_le hb.2 o6.size⟩)⟩
  | bad c p =>
    obtain ⟨g, q, k, rfl, hg, hft, r⟩ := h2
    exact ⟨on, g, q, k, f, rfl, by omega, hft.only o6 (by omega), r.only o6 (by omega)⟩
set_option maxRecDepth 100000 in
set_option maxHeartbeats 8000000 in
theorem whole_any (w : World) (R : Nat) (s : ByteArray) (p k : Nat) (ob : Tq (OwnF × FT)) (hr : RdT w R s p k)
    (hok : ∀ x q k', ob = .ok x q k' → q ≤ s.size)
    (hF : ∀ W, RdT W R s p k → Only (fun g => g = R) w W → Calls Tryz.prog 22 #[.pointer (some ⟨R, 0, none⟩), .int .i64 1] W (FlPost W R s ob)) :
    Calls Tryz.prog 12 #[.pointer (some ⟨R, 0, none⟩)] w (FlPost w R s (ob.bind fun x q k => if q < s.size then .bad 50 q else .ok x q k)) := by
  have hrl := hr.lt
  obtain ⟨o, ho⟩ : ∃ o, Hid (o = ob.bind fun x q k => if q < s.size then Tq.bad 50 q else .ok x q k) := ⟨_, rfl⟩
  rw [← ho.out]
  have x0 := (Ext.refl w).alloc (.cells #[.int .i8 0, .slice none 0 0, .string ⟨#[]⟩, .string ⟨#[]⟩, .string ⟨#[]⟩, .slice none 0 0, .string ⟨#[]⟩, .string ⟨#[]⟩, .bool false] 26)
  have f0 := fl_new w
  have r0 := hr.ext x0
  have s0 : Hid (w.heap.size + 1 ≤ (w.alloc (.cells #[.int .i8 0, .slice none 0 0, .string ⟨#[]⟩, .string ⟨#[]⟩, .string ⟨#[]⟩, .slice none 0 0, .string ⟨#[]⟩, .string ⟨#[]⟩, .bool false] 26)).heap.size) := by show _ ≤ _; rw [World.size_alloc]; exact Nat.le_refl _
  clear hr
  go_enter Tryz.func12, Tryz.ntmps12
  go_wp2_with fail
  generalize w.alloc _ = w0 at x0 f0 r0 s0 ⊢
  go_at_call 22
  refine (hF _ r0 x0.only).mono ?_
  clear hF r0
  cases ob with
  | bad c a =>
    rintro _ w2 ⟨o2, g2, q2, k2, f, rfl, h1, h2, r2⟩
    have hoq : Hid (o = .bad c a) := ho.out
    unfold F9.arr errV
    have f2 := f0.only o2 (by omega)
    have o2w : Only (fun g => g = R) w w2 := x0.only.then o2
    have hge : w.heap.size + 1 ≤ g2 := Nat.le_trans s0.out h1
    have x3 := (Ext.refl w2).alloc (.cells #[.int .i8 f.kind, .slice f.ka f.kn f.kc, .string f.desc, .string f.value, .string f.start, .slice f.ma f.mn f.mc, .string f.fin, .string f.rule, .bool f.dn] 26)
    have n3 : FlT (w2.alloc (.cells #[.int .i8 f.kind, .slice f.ka f.kn f.kc, .string f.desc, .string f.value, .string f.start, .slice f.ma f.mn f.mc, .string f.fin, .string f.rule, .bool f.dn] 26)) w2.heap.size f := heap_alloc_new _ _
    have r3 := r2.ext x3
    have f3 := f2.ext x3
    have e3 := h2.ext x3
    have o3w := o2w.ext x3
    have hsz : Hid (w2.heap.size < (w2.alloc (.cells #[.int .i8 f.kind, .slice f.ka f.kn f.kc, .string f.desc, .string f.value, .string f.start, .slice f.ma f.mn f.mc, .string f.fin, .string f.rule, .bool f.dn] 26)).heap.size) := n3.lt
    clear f0 x0 s0 o2 f2 r2 o2w h1 h2 x3 ho
    go_upto_region 2 with fail
    generalize w2.alloc (.cells #[.int .i8 f.kind, .slice f.ka f.kn f.kc, .string f.desc, .string f.value, .string f.start, .slice f.ma f.mn f.mc, .string f.fin, .string f.rule, .bool f.dn] 26) = w3 at n3 r3 f3 o3w e3 hsz ⊢
    have hgeh : Hid _ := hge
    obtain ⟨G, hGe⟩ : ∃ G, Hid (G = w2.heap.size) := ⟨_, rfl⟩
    rw [← hGe.out] at n3 ⊢
    clear hge
    go_quiet (fail)
    have r4 := r3.drewN nq
    have f4 : FlT (w3.drewN nq) w.heap.size F9.zero := f3
    have n4 : FlT (w3.drewN nq) G f := n3
    have e4 := e3.drewN nq
    have o4w := o3w.drewN nq
    clear r3 f3 n3 o3w e3 hsz
    generalize w3.drewN nq = w4 at r4 f4 n4 o4w e4 ⊢
    have hend := who_end (w := w) (wx := w4) (R := R) (s := s) (o := o) (v := errV g2) (f := f) (o4w.mono fun _ _ h => .inl h) f4 (by rw [hoq.out]; exact ⟨g2, q2, k2, rfl, hgeh.out, e4, r4⟩) hrl
    have hendh : Hid _ := hend
    obtain ⟨c0, c1, c2, c3, c4, c5, c6, c7, c8, fz⟩ := n4.cells
    obtain ⟨d0, d1, d2, d3, d4, d5, d6, d7, d8, dz⟩ := f4.cells
    clear hend r4 e4 o4w n4 f4
    go_wp2
    exact hendh.out _ rfl rfl
  | ok x q k2 =>
    have hqs := hok x q k2 rfl
    by_cases hq : q < s.size
    · rintro _ w2 ⟨o2, f, rfl, r2, hkp⟩
      have hoq : Hid (o = .bad 50 q) := by show _ = _; rw [ho.out]; exact if_pos hq
      unfold F9.arr
      have f2 := f0.only o2 (by omega)
      have o2w : Only (fun g => g = R) w w2 := x0.only.then o2
      have hge : Hid (w.heap.size + 1 ≤ w2.heap.size) := Nat.le_trans s0.out o2.size
      have x3 := (Ext.refl w2).alloc (.cells #[.int .i8 f.kind, .slice f.ka f.kn f.kc, .string f.desc, .string f.value, .string f.start, .slice f.ma f.mn f.mc, .string f.fin, .string f.rule, .bool f.dn] 26)
      have n3 : FlT (w2.alloc (.cells #[.int .i8 f.kind, .slice f.ka f.kn f.kc, .string f.desc, .string f.value, .string f.start, .slice f.ma f.mn f.mc, .string f.fin, .string f.rule, .bool f.dn] 26)) w2.heap.size f := heap_alloc_new _ _
      have r3 := r2.ext x3
      have f3 := f2.ext x3
      have o3w := o2w.ext x3
      have hr2l : Hid (R < w2.heap.size) := r2.lt
      have hsz : Hid (w2.heap.size < (w2.alloc (.cells #[.int .i8 f.kind, .slice f.ka f.kn f.kc, .string f.desc, .string f.value, .string f.start, .slice f.ma f.mn f.mc, .string f.fin, .string f.rule, .bool f.dn] 26)).heap.size) := n3.lt
      clear f0 x0 s0 o2 f2 r2 o2w x3 ho hkp
      go_upto_region 2 with fail
      generalize w2.alloc (.cells #[.int .i8 f.kind, .slice f.ka f.kn f.kc, .string f.desc, .string f.value, .string f.start, .slice f.ma f.mn f.mc, .string f.fin, .string f.rule, .bool f.dn] 26) = w3 at n3 r3 f3 o3w hsz ⊢
      obtain ⟨G, hGe⟩ : ∃ G, Hid (G = w2.heap.size) := ⟨_, rfl⟩
      rw [← hGe.out] at n3 ⊢
      have hqi : decide (q < s.size) = true := by simp; omega
      have hqh : Hid (q < s.size) := hq
      clear hq hqs
      obtain ⟨a0, a1, a2, az⟩ := r3.cells
      go_quiet (fail)
      have r4 := r3.drewN nq
      have f4 : FlT (w3.drewN nq) w.heap.size F9.zero := f3
      have n4 : FlT (w3.drewN nq) G f := n3
      have o4w := o3w.drewN nq
      have hsz4 : Hid (w2.heap.size < (w3.drewN nq).heap.size) := hsz.out
      clear a0 a1 a2 az r3 f3 n3 o3w hsz
      generalize w3.drewN nq = w4 at r4 f4 n4 o4w hsz4 ⊢
      have hM := cannotStand_any w4 R s q k2 r4
      go_wp2_with fail
      go_at_call 23
      refine hM.mono ?_
      rintro _ w5 ⟨⟨g, rfl, h1, h2⟩, x5⟩
      have hc : stuckC s q = 50 := if_neg (by have := hqh.out; omega)
      rw [hc] at h2
      have hend := who_end (w := w) (wx := w5) (R := R) (s := s) (o := o) (v := errV g) (f := f) ((o4w.ext x5).mono fun _ _ h => .inl h) (f4.ext x5) (by rw [hoq.out]; exact ⟨g, q, k2, rfl, by have := hge.out; have := hsz4.out; omega, h2, r4.ext x5⟩) hrl
      have hendh : Hid _ := hend
      obtain ⟨c0, c1, c2, c3, c4, c5, c6, c7, c8, fz⟩ := (n4.ext x5).cells
      obtain ⟨d0, d1, d2, d3, d4, d5, d6, d7, d8, dz⟩ := (f4.ext x5).cells
      clear hend r4 o4w n4 f4 h1 h2 x5 hM hc
      unfold errV at hendh ⊢
      go_wp2
      exact hendh.out _ rfl rfl
    · rintro _ w2 ⟨o2, f, rfl, r2, hkp⟩
      have hoq : Hid (o = .ok x q k2) := by show _ = _; rw [ho.out]; exact if_neg hq
      unfold F9.arr
      have f2 := f0.only o2 (by omega)
      have o2w : Only (fun g => g = R) w w2 := x0.only.then o2
      have hge : Hid (w.heap.size + 1 ≤ w2.heap.size) := Nat.le_trans s0.out o2.size
      have x3 := (Ext.refl w2).alloc (.cells #[.int .i8 f.kind, .slice f.ka f.kn f.kc, .string f.desc, .string f.value, .string f.start, .slice f.ma f.mn f.mc, .string f.fin, .string f.rule, .bool f.dn] 26)
      have n3 : FlT (w2.alloc (.cells #[.int .i8 f.kind, .slice f.ka f.kn f.kc, .string f.desc, .string f.value, .string f.start, .slice f.ma f.mn f.mc, .string f.fin, .string f.rule, .bool f.dn] 26)) w2.heap.size f := heap_alloc_new _ _
      have r3 := r2.ext x3
      have f3 := f2.ext x3
      have o3w := o2w.ext x3
      have hr2l : Hid (R < w2.heap.size) := r2.lt
      have hsz : Hid (w2.heap.size < (w2.alloc (.cells #[.int .i8 f.kind, .slice f.ka f.kn f.kc, .string f.desc, .string f.value, .string f.start, .slice f.ma f.mn f.mc, .string f.fin, .string f.rule, .bool f.dn] 26)).heap.size) := n3.lt
      have hk3 : Hid (GKeep (fun b => w.heap.size + 1 ≤ b ∧ b < (w2.alloc (.cells #[.int .i8 f.kind, .slice f.ka f.kn f.kc, .string f.desc, .string f.value, .string f.start, .slice f.ma f.mn f.mc, .string f.fin, .string f.rule, .bool f.dn] 26)).heap.size) (w2.alloc (.cells #[.int .i8 f.kind, .slice f.ka f.kn f.kc, .string f.desc, .string f.value, .string f.start, .slice f.ma f.mn f.mc, .string f.fin, .string f.rule, .bool f.dn] 26)) f x.1 x.2) :=
        (hkp.next (fun b hb => x3.block b hb.2)).wide (fun b hb => ⟨Nat.le_trans s0.out hb.1, Nat.lt_of_lt_of_le hb.2 (Nat.le_of_lt hsz.out)⟩)
      clear f0 x0 s0 o2 f2 r2 o2w x3 ho hkp
      go_upto_region 2 with fail
      generalize w2.alloc (.cells #[.int .i8 f.kind, .slice f.ka f.kn f.kc, .string f.desc, .string f.value, .string f.start, .slice f.ma f.mn f.mc, .string f.fin, .string f.rule, .bool f.dn] 26) = w3 at n3 r3 f3 o3w hsz hk3 ⊢
      obtain ⟨G, hGe⟩ : ∃ G, Hid (G = w2.heap.size) := ⟨_, rfl⟩
      rw [← hGe.out] at n3 ⊢
      have hqi : decide (q < s.size) = false := by simp; omega
      clear hq hqs
      obtain ⟨a0, a1, a2, az⟩ := r3.cells
      go_quiet (fail)
      have r4 := r3.drewN nq
      have f4 : FlT (w3.drewN nq) w.heap.size F9.zero := f3
      have n4 : FlT (w3.drewN nq) G f := n3
      have o4w := o3w.drewN nq
      have hk4 : GKeep (fun b => w.heap.size + 1 ≤ b ∧ b < (w3.drewN nq).heap.size) (w3.drewN nq) f x.1 x.2 := hk3.out.next (fun b hb => rfl)
      clear a0 a1 a2 az r3 f3 n3 o3w hsz hk3
      generalize w3.drewN nq = w4 at r4 f4 n4 o4w hk4 ⊢
      have hend := who_end (w := w) (wx := w4) (R := R) (s := s) (o := o) (v := .nilIface) (f := f) (o4w.mono fun _ _ h => .inl h) f4 (by rw [hoq.out]; exact ⟨rfl, r4, hk4⟩) hrl
      have hendh : Hid _ := hend
      obtain ⟨c0, c1, c2, c3, c4, c5, c6, c7, c8, fz⟩ := n4.cells
      obtain ⟨d0, d1, d2, d3, d4, d5, d6, d7, d8, dz⟩ := f4.cells
      clear hend r4 hk4 o4w n4 f4
      go_wp2
      exact hendh.out _ rfl rfl
end Go.Proofs.YtfkepclgadeeeaaGreatDoor
