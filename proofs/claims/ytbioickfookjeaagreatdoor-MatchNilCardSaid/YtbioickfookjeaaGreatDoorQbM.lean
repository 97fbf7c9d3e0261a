/-
  strings.Compare, CutSuffix, CutPrefix, Cut (at a separator of one byte): what they answer.
-/
import Derived.Shelf.Small.Strs
import Derived.Test.YtbioickfookjeaaGreatDoorStrs
import Derived.Test.YtbioickfookjeaaGreatDoorDots
import Derived.Test.YtbioickfookjeaaGreatDoorKey
import Derived.Test.YtbioickfookjeaaGreatDoorStr
import Derived.Test.YtbioickfookjeaaGreatDoorNumA
import Derived.Test.YtbioickfookjeaaGreatDoorPj
import Derived.Maps.AppendAt
import Derived.Test.YtbioickfookjeaaGreatDoorPost
import Derived.Laws.EntriesVeiled
import Derived.Test.YtbioickfookjeaaGreatDoorXsee
import Derived.Test.YtbioickfookjeaaGreatDoorSty
import Derived.Deep.QuietTactic
import Derived.Test.YtbioickfookjeaaGreatDoorSrul
namespace Go.Proofs
open Go.Shelf
def Tryz.lays104_ren : Go.Shelf.Ren := ⟨fun | 104 => 197 | 211 => 231 | 207 => 267 | n => n, fun | 9 => 9 | 4 => 4 | 24 => 34 | 3 => 3 | n => n, fun | n => n⟩
theorem Tryz.lays104 : Go.Proofs.Lays.n104 Tryz.prog Tryz.lays104_ren := {
  mixed := by kernel_rfl
  f104 := Tryz.func197.trans (congrArg some (by kernel_rfl))
  f207 := Tryz.func267.trans (congrArg some (by kernel_rfl))
  f211 := Tryz.func231.trans (congrArg some (by kernel_rfl))
  t3 := Tryz.underlying3
  a3 := Tryz.isAgg3
  z3 := Tryz.sizeOf3
  v3 := Tryz.zeroValue3
  t4 := Tryz.underlying4
  a4 := Tryz.isAgg4
  z4 := Tryz.sizeOf4
  v4 := Tryz.zeroValue4
  t9 := Tryz.underlying9
  a9 := Tryz.isAgg9
  z9 := Tryz.sizeOf9
  v9 := Tryz.zeroValue9
  t24 := Tryz.underlying34
  a24 := Tryz.isAgg34
  z24 := Tryz.sizeOf34
  v24 := Tryz.zeroValue34 }
def Tryz.lays106_ren : Go.Shelf.Ren := ⟨fun | 106 => 143 | 213 => 193 | 265 => 226 | n => n, fun | 9 => 9 | 3 => 3 | n => n, fun | n => n⟩
theorem Tryz.lays106 : Go.Proofs.Lays.n106 Tryz.prog Tryz.lays106_ren := {
  mixed := by kernel_rfl
  f106 := Tryz.func143.trans (congrArg some (by kernel_rfl))
  f213 := Tryz.func193.trans (congrArg some (by kernel_rfl))
  f265 := Tryz.func226.trans (congrArg some (by kernel_rfl))
  t3 := Tryz.underlying3
  a3 := Tryz.isAgg3
  z3 := Tryz.sizeOf3
  v3 := Tryz.zeroValue3
  t9 := Tryz.underlying9
  a9 := Tryz.isAgg9
  z9 := Tryz.sizeOf9
  v9 := Tryz.zeroValue9 }
end Go.Proofs
namespace Go.Proofs.YtbioickfookjeaaGreatDoor
open Go.RowKit Go.Shelf
theorem Compare_any (w : World) (a b : List UInt8) :
    Calls Tryz.prog 143 #[.string (str a), .string (str b)] w fun e w' => e = .returned (.int .i64 (Lib.compareBytes a b)) ∧ w' = w := by
  have h := Any.strings_Compare Tryz.lays106 (str a) (str b) w
  rw [data_str, data_str] at h
  exact h
theorem CutS_any (w : World) (l p : List UInt8) (hl : l.length ≤ 9223372036854775807) :
    Calls Tryz.prog 197 #[.string (str l), .string (str p)] w fun e w' => e = .returned (.tuple #[.string (str (Lib.trimSuffix l p)), .bool (Lib.hasSuffix l p)]) ∧ w' = w := by
  have h := Any.strings_CutSuffix Tryz.lays104 (str l) (str p) w (by rw [str_size]; exact hl)
  rw [data_str, data_str] at h
  exact h
theorem CutP_any (w : World) (l p : List UInt8) :
    Calls Tryz.prog 196 #[.string (str l), .string (str p)] w fun e w' => e = .returned (.tuple #[.string (str (Lib.trimPrefix l p)), .bool (Lib.hasPrefix l p)]) ∧ w' = w := by
  have h := Any.strings_CutPrefix Tryz.lays103 (str l) (str p) w
  rw [data_str, data_str] at h
  exact h
end Go.Proofs.YtbioickfookjeaaGreatDoor

/-
  Key and Piece, the other forms: exact texts, digits, flags, bytes; no form, no place, texts that are too long.
-/
namespace Go.Proofs.YtbioickfookjeaaGreatDoor
open Go.RowKit

set_option maxRecDepth 100000 in
theorem flag_any (w : World) (s : ByteArray) :
    Calls Tryz.prog 204 #[.agg #[], .string s] w fun e w' => e = .returned (ans (flagK (byt s))) ∧ Fr w.heap.size w w' := by
  have htl := toList_byt s
  have hsb := str_byt s
  by_cases h1 : byt s = [84, 82, 85, 69]
  · have e1 : (s.toList == [84, 82, 85, 69]) = true := by rw [htl, h1]; rfl
    have HR : Hid (ans (flagK (byt s)) = .tuple #[.string s, .bool true]) := by show ans _ = _; unfold flagK; rw [if_pos (Or.inl h1)]; show Value.tuple #[.string (str (byt s)), .bool true] = _; rw [hsb]
    clear htl h1 hsb
    go_enter Tryz.func204, Tryz.ntmps204
    go_wp2
    go_ret2
    exact ⟨by rw [HR.out]; rfl, by first | exact Fr.refl _ _ | exact Fr.one _⟩
  · have e1 : (s.toList == [84, 82, 85, 69]) = false := by rw [htl]; simpa using h1
    by_cases h2 : byt s = [70, 65, 76, 83, 69]
    · have e2 : (s.toList == [70, 65, 76, 83, 69]) = true := by rw [htl, h2]; rfl
      have HR : Hid (ans (flagK (byt s)) = .tuple #[.string s, .bool true]) := by show ans _ = _; unfold flagK; rw [if_pos (Or.inr h2)]; show Value.tuple #[.string (str (byt s)), .bool true] = _; rw [hsb]
      clear htl h1 h2 hsb
      go_enter Tryz.func204, Tryz.ntmps204
      go_wp2
      go_ret2
      exact ⟨by rw [HR.out]; rfl, by first | exact Fr.refl _ _ | exact Fr.one _⟩
    · have e2 : (s.toList == [70, 65, 76, 83, 69]) = false := by rw [htl]; simpa using h2
      have HR : Hid (flagK (byt s) = none) := by show flagK _ = _; unfold flagK; rw [if_neg (by rintro (h | h); exact h1 h; exact h2 h)]
      clear htl h1 h2 hsb
      go_enter Tryz.func204, Tryz.ntmps204
      go_wp2
      go_ret2
      exact ⟨ret_none HR.out, by first | exact Fr.refl _ _ | exact Fr.one _⟩
set_option maxRecDepth 100000 in
theorem byte_any (w : World) (s : ByteArray) :
    Calls Tryz.prog 206 #[.agg #[], .string s] w fun e w' => e = .returned (ans (some (byt s))) ∧ Fr w.heap.size w w' := by
  have HR : Hid (ans (some (byt s)) = .tuple #[.string s, .bool true]) := by show Value.tuple #[.string (str (byt s)), .bool true] = _; rw [str_byt]
  go_enter Tryz.func206, Tryz.ntmps206
  go_wp2
  go_ret2
  exact ⟨by rw [HR.out]; rfl, by first | exact Fr.refl _ _ | exact Fr.one _⟩
set_option maxRecDepth 100000 in
set_option maxHeartbeats 2000000 in
theorem Key1_any (w : World) (ht : HasTab w) (s : ByteArray) (hs : s.size ≤ 65536) :
    Calls Tryz.prog 88 #[.int .i8 1, .string s] w fun e w' => e = .returned (ans (keySp false (byt s))) ∧ Fr w.heap.size w w' := by
  have hlk : (Instr.lookup 186 (.map (some w.heap.size)) (.int .i8 1) true).run Tryz.prog (w.alloc (.map (mapRow keyV 9) 9)) = .ok (.tuple #[.func (.func 200) #[.agg #[.bool false]] #[], .bool true]) (w.alloc (.map (mapRow keyV 9) 9)) := look_key w 1
  have hru := spKey_any (w.alloc (.map (mapRow keyV 9) 9)) (ht.step (Fr.one _)) false s hs
  generalize keySp false (byt s) = o at hru ⊢
  have hs' : ¬ (65536 : Int) < (s.size : Int) := by omega
  go_enter Tryz.func88, Tryz.ntmps88
  go_wp2_with (first
    | (go_at_call 149; refine (keyRules_any _).mono ?_; rintro e w2 ⟨rfl, rfl⟩)
    | (go_at_call 200; refine hru.mono ?_; rintro e w3 ⟨rfl, hf3⟩; simp only [ans]))
  go_ret2
  exact ⟨rfl, (Fr.one _).then hf3⟩
set_option maxRecDepth 100000 in
set_option maxHeartbeats 2000000 in
theorem Key2_any (w : World) (s : ByteArray) (hs : s.size ≤ 65536) :
    Calls Tryz.prog 88 #[.int .i8 2, .string s] w fun e w' => e = .returned (ans (some1 (digK (byt s)))) ∧ Fr w.heap.size w w' := by
  have hlk : (Instr.lookup 186 (.map (some w.heap.size)) (.int .i8 2) true).run Tryz.prog (w.alloc (.map (mapRow keyV 9) 9)) = .ok (.tuple #[.func (.func 201) #[.agg #[]] #[], .bool true]) (w.alloc (.map (mapRow keyV 9) 9)) := look_key w 2
  have hru := digKey_any (w.alloc (.map (mapRow keyV 9) 9)) s hs
  generalize some1 (digK (byt s)) = o at hru ⊢
  have hs' : ¬ (65536 : Int) < (s.size : Int) := by omega
  go_enter Tryz.func88, Tryz.ntmps88
  go_wp2_with (first
    | (go_at_call 149; refine (keyRules_any _).mono ?_; rintro e w2 ⟨rfl, rfl⟩)
    | (go_at_call 201; refine hru.mono ?_; rintro e w3 ⟨rfl, hf3⟩; simp only [ans]))
  go_ret2
  exact ⟨rfl, (Fr.one _).then hf3⟩
set_option maxRecDepth 100000 in
set_option maxHeartbeats 2000000 in
theorem Key5_any (w : World) (s : ByteArray) (hs : s.size ≤ 65536) :
    Calls Tryz.prog 88 #[.int .i8 5, .string s] w fun e w' => e = .returned (ans (flagK (byt s))) ∧ Fr w.heap.size w w' := by
  have hlk : (Instr.lookup 186 (.map (some w.heap.size)) (.int .i8 5) true).run Tryz.prog (w.alloc (.map (mapRow keyV 9) 9)) = .ok (.tuple #[.func (.func 204) #[.agg #[]] #[], .bool true]) (w.alloc (.map (mapRow keyV 9) 9)) := look_key w 5
  have hru := flag_any (w.alloc (.map (mapRow keyV 9) 9)) s
  generalize flagK (byt s) = o at hru ⊢
  have hs' : ¬ (65536 : Int) < (s.size : Int) := by omega
  go_enter Tryz.func88, Tryz.ntmps88
  go_wp2_with (first
    | (go_at_call 149; refine (keyRules_any _).mono ?_; rintro e w2 ⟨rfl, rfl⟩)
    | (go_at_call 204; refine hru.mono ?_; rintro e w3 ⟨rfl, hf3⟩; simp only [ans]))
  go_ret2
  exact ⟨rfl, (Fr.one _).then hf3⟩
set_option maxRecDepth 100000 in
set_option maxHeartbeats 2000000 in
theorem Key7_any (w : World) (s : ByteArray) (hs : s.size ≤ 65536) :
    Calls Tryz.prog 88 #[.int .i8 7, .string s] w fun e w' => e = .returned (ans (some (byt s))) ∧ Fr w.heap.size w w' := by
  have hlk : (Instr.lookup 186 (.map (some w.heap.size)) (.int .i8 7) true).run Tryz.prog (w.alloc (.map (mapRow keyV 9) 9)) = .ok (.tuple #[.func (.func 206) #[.agg #[]] #[], .bool true]) (w.alloc (.map (mapRow keyV 9) 9)) := look_key w 7
  have hru := byte_any (w.alloc (.map (mapRow keyV 9) 9)) s
  generalize some (byt s) = o at hru ⊢
  have hs' : ¬ (65536 : Int) < (s.size : Int) := by omega
  go_enter Tryz.func88, Tryz.ntmps88
  go_wp2_with (first
    | (go_at_call 149; refine (keyRules_any _).mono ?_; rintro e w2 ⟨rfl, rfl⟩)
    | (go_at_call 206; refine hru.mono ?_; rintro e w3 ⟨rfl, hf3⟩; simp only [ans]))
  go_ret2
  exact ⟨rfl, (Fr.one _).then hf3⟩
set_option maxRecDepth 100000 in
set_option maxHeartbeats 2000000 in
theorem Piece1_any (w : World) (ht : HasTab w) (wh : Int) (hw : wh = 0 ∨ wh = 1 ∨ wh = 2) (s : ByteArray) (hs : s.size ≤ 65536) :
    Calls Tryz.prog 144 #[.int .i8 1, .int .i8 wh, .string s] w fun e w' => e = .returned (ans (pieceSp false wh (byt s))) ∧ Fr w.heap.size w w' := by
  have hlk : (Instr.lookup 222 (.map (some w.heap.size)) (.int .i8 1) true).run Tryz.prog (w.alloc (.map (mapRow pieceV 4) 4)) = .ok (.tuple #[.func (.func 227) #[.agg #[.bool false]] #[], .bool true]) (w.alloc (.map (mapRow pieceV 4) 4)) := look_piece w 1
  have hru := spPiece_any (w.alloc (.map (mapRow pieceV 4) 4)) (ht.step (Fr.one _)) false wh s hs
  generalize pieceSp false wh (byt s) = o at hru ⊢
  have hpl := fun w => isPlace_any w wh
  rw [show placeB wh = true by unfold placeB; simpa using hw] at hpl
  have hs' : ¬ (65536 : Int) < (s.size : Int) := by omega
  clear hw
  go_enter Tryz.func144, Tryz.ntmps144
  go_wp2_with (first
    | (go_at_call 194; refine (pieceRules_any _).mono ?_; rintro e w2 ⟨rfl, rfl⟩)
    | (go_at_call 195; refine (hpl _).mono ?_; rintro e w2 ⟨rfl, rfl⟩)
    | (go_at_call 227; refine hru.mono ?_; rintro e w3 ⟨rfl, hf3⟩; simp only [ans]))
  go_ret2
  exact ⟨rfl, (Fr.one _).then hf3⟩
set_option maxRecDepth 100000 in
set_option maxHeartbeats 2000000 in
theorem Piece2_any (w : World) (wh : Int) (hw : wh = 0 ∨ wh = 1 ∨ wh = 2) (s : ByteArray) (hs : s.size ≤ 65536) :
    Calls Tryz.prog 144 #[.int .i8 2, .int .i8 wh, .string s] w fun e w' => e = .returned (ans (digK (byt s))) ∧ Fr w.heap.size w w' := by
  have hlk : (Instr.lookup 222 (.map (some w.heap.size)) (.int .i8 2) true).run Tryz.prog (w.alloc (.map (mapRow pieceV 4) 4)) = .ok (.tuple #[.func (.func 228) #[.agg #[]] #[], .bool true]) (w.alloc (.map (mapRow pieceV 4) 4)) := look_piece w 2
  have hru := digPiece_any (w.alloc (.map (mapRow pieceV 4) 4)) (.int .i8 wh) s hs
  generalize digK (byt s) = o at hru ⊢
  have hpl := fun w => isPlace_any w wh
  rw [show placeB wh = true by unfold placeB; simpa using hw] at hpl
  have hs' : ¬ (65536 : Int) < (s.size : Int) := by omega
  clear hw
  go_enter Tryz.func144, Tryz.ntmps144
  go_wp2_with (first
    | (go_at_call 194; refine (pieceRules_any _).mono ?_; rintro e w2 ⟨rfl, rfl⟩)
    | (go_at_call 195; refine (hpl _).mono ?_; rintro e w2 ⟨rfl, rfl⟩)
    | (go_at_call 228; refine hru.mono ?_; rintro e w3 ⟨rfl, hf3⟩; simp only [ans]))
  go_ret2
  exact ⟨rfl, (Fr.one _).then hf3⟩
set_option maxRecDepth 100000 in
set_option maxHeartbeats 2000000 in
theorem KeyNo_any (w : World) (f : Int) (s : ByteArray) (hf : ¬ (0 ≤ f ∧ f < 9)) :
    Calls Tryz.prog 88 #[.int .i8 f, .string s] w fun e w' => e = .returned (ans none) ∧ Fr w.heap.size w w' := by
  have hlk := look_key w f
  rw [if_neg hf, decide_eq_false hf] at hlk
  go_enter Tryz.func88, Tryz.ntmps88
  go_wp2_with (go_at_call 149; refine (keyRules_any _).mono ?_; rintro e w2 ⟨rfl, rfl⟩)
  go_ret2
  exact ⟨rfl, Fr.one _⟩
set_option maxRecDepth 100000 in
set_option maxHeartbeats 2000000 in
theorem KeyLong_any (w : World) (f : Int) (s : ByteArray) (hs : 65536 < s.size) (hf : 0 ≤ f ∧ f < 9) :
    Calls Tryz.prog 88 #[.int .i8 f, .string s] w fun e w' => e = .returned (ans none) ∧ Fr w.heap.size w w' := by
  have hlk := look_key w f
  rw [if_pos hf, decide_eq_true hf] at hlk
  generalize keyV f.toNat = v at hlk
  have hs' : (65536 : Int) < (s.size : Int) := by omega
  clear hf
  go_enter Tryz.func88, Tryz.ntmps88
  go_wp2_with (go_at_call 149; refine (keyRules_any _).mono ?_; rintro e w2 ⟨rfl, rfl⟩)
  go_ret2
  exact ⟨rfl, Fr.one _⟩
end Go.Proofs.YtbioickfookjeaaGreatDoor

/-
  Two slices of bytes that a call made itself, side by side.
-/
namespace Go.Proofs.YtbioickfookjeaaGreatDoor
open Go.RowKit

/-- u owns k, v owns l, in different blocks from B on -/
structure Two (w : World) (B : Nat) (u v : Value) (k l : List UInt8) : Prop where
  a : Own w B u k
  b : Own w B v l
  ne : ∀ g, u.ownBlock = some g → v.ownBlock ≠ some g
theorem Two.swap {w : World} {B : Nat} {u v : Value} {k l : List UInt8} (h : Two w B u v k l) : Two w B v u l k := ⟨h.b, h.a, fun g h1 h2 => h.ne g h2 h1⟩
theorem Own.other {w w' : World} {B : Nat} {u : Value} {k : List UInt8} {row : Option Nat} (h : Own w B u k) (hg : w.grownBy w' row) (hne : ∀ g, u.ownBlock = some g → row ≠ some g) : Own w' B u k := by
  refine ⟨h.1, ?_⟩
  rcases h.2 with h2 | ⟨g, cap, cur, hv, hb, hh, r⟩
  · exact .inl h2
  · exact .inr ⟨g, cap, cur, hv, hb, by rw [hg.block g (Array.getElem?_eq_some_iff.1 hh).1 (fun e => hne g (by rw [hv]; rfl) e.symm)]; exact hh, r⟩
theorem Two.alloc {w : World} {B : Nat} {u v : Value} {k l : List UInt8} (h : Two w B u v k l) (o : Obj) : Two (w.alloc o) B u v k l := ⟨h.a.alloc o, h.b.alloc o, h.ne⟩
theorem Two.iterAt {w : World} {B : Nat} {u v : Value} {k l : List UInt8} (h : Two w B u v k l) {i : Nat} {s : ByteArray} {pos : Nat} (hk : w.heap[i]? = some (.stringIter s pos)) (p2 : Nat) : Two (w.iterAt i s p2) B u v k l := ⟨h.a.iterAt hk p2, h.b.iterAt hk p2, h.ne⟩
theorem Two.below {w w' : World} {B : Nat} {u v : Value} {k l : List UInt8} (h : Two w B u v k l) (hf : Fr w.heap.size w w') : Two w' B u v k l := ⟨h.a.below hf.1, h.b.below hf.1, h.ne⟩
theorem Own.blk {w : World} {B : Nat} {u : Value} {k : List UInt8} (h : Own w B u k) {g : Nat} (hg : u.ownBlock = some g) : g < w.heap.size := (World.ownsRow.lt h g hg).2

/-- 'append(v, ..)' of bytes that lie at a place, beside u -/
theorem wpList_push2 {ops : Array Oper} {rest : List Oper} {o : Oper} {a : Act} {W : World} {Q : Exit → Act → World → Prop} (hgd : o.guard = none) (s x : Operand)
    (ho : o.op = .call { callee := .builtin .append, args := #[s, x], argTypes := #[145, 145] })
    (B : Nat) (u v : Value) (k l m : List UInt8) (h2 : Two W B u v k l) (hB : B ≤ W.heap.size) (hs : a.eval s = v) (g n c : Nat)
    (hx : a.eval x = .slice (some ⟨g, 0, none⟩) n c) (hn : n = m.length) (hm : ∀ (j : Nat) (h : j < m.length), W.cell? ⟨g, j, none⟩ = some (B8 m[j])) (hlen : l.length + m.length ≤ 140737488355328)
    (h : ∀ v' w', Two w' B u v' k (l ++ m) → Fr B W w' → wpList Tryz.prog ops Q rest (a.put o.dst v') w') :
    wpList Tryz.prog ops Q (o :: rest) a W := by
  obtain ⟨i0, hi0, hz0, hz1, hz2⟩ := info_parts info8
  subst hn
  refine wpList_append_own_at _ hgd s x 145 ho B 5 i0 (.int .u8 0) 1 1 Tryz.underlying145 hi0 hz0 hz1 hz2 rfl (by decide) v l.length (l.map B8) hs h2.b ⟨g, 0, none⟩ m.length c (m.map B8) hx (by simp) ?_ ?_ ?_ ?_ ?_ ?_
  · intro j q hq
    rw [List.getElem?_map] at hq
    by_cases hj : j < m.length
    · rw [List.getElem?_eq_getElem hj] at hq
      cases hq
      have := hm j hj
      by_cases h0 : j = 0
      · subst h0; simpa [Addr.add] using this
      · simpa [Addr.add, h0] using this
    · rw [List.getElem?_eq_none (by omega)] at hq; cases hq
  · intro q hq
    obtain ⟨b, _, rfl⟩ := List.mem_map.1 hq
    rfl
  · unfold maxLen; omega
  · omega
  · exact hB
  · intro v' w' e1 e2 _ e4
    have hfr : Fr B W w' := ⟨(Below.refl _ _).grown e2 hB (fun g hg => (World.ownsRow.lt h2.b g hg).1), (Lib.OthersKept.refl _ _ _).grown e2 h2.b.kind⟩
    refine h v' w' ⟨h2.a.other e2 (fun g hg e => h2.ne g hg e), own_of e1 (by simp) (by simp), ?_⟩ hfr
    intro g hg hv
    rcases e4 with e | e
    · rw [e] at hv; exact h2.ne g hg hv
    · rw [e] at hv
      have := h2.a.blk hg
      cases hv
      omega
theorem own_nilN (w : World) (B : Nat) : Own w B (.slice none 0 0) [] := World.ownsRow_nil w B 5 1
theorem two_nil (w : World) (B : Nat) : Two w B (.slice none 0 0) (.slice none 0 0) [] [] := ⟨own_nilN w B, own_nilN w B, fun g h => by cases h⟩
end Go.Proofs.YtbioickfookjeaaGreatDoor

/-
  The code of a row of letters.
-/
namespace Go.Proofs.YtbioickfookjeaaGreatDoor
open Go.RowKit

def isSml (b : UInt8) : Bool := decide (97 ≤ b.toNat) && decide (b.toNat ≤ 122)
def sndStr : ByteArray := ⟨#[45, 49, 50, 51, 45, 49, 50, 42, 45, 50, 50, 52, 53, 53, 45, 49, 50, 54, 50, 51, 45, 49, 42, 50, 45, 50]⟩
theorem snd_at (k : Nat) (h : k < sndStr.size) : (sndStr[k]'h).toNat = (sndTab.getD k 45).toNat := by
  have hk : k < 26 := h
  have : ∀ j : Fin 26, (sndStr[j.val]'j.isLt).toNat = (sndTab.getD j.val 45).toNat := by decide
  exact this ⟨k, hk⟩
theorem byteEq {a b : UInt8} (h : a = b) : ((a.toNat : Int) == (b.toNat : Int)) = true := by rw [h]; simp
theorem byteNe {a b : UInt8} (h : a ≠ b) : ((a.toNat : Int) == (b.toNat : Int)) = false := by
  simp only [beq_eq_false_iff_ne, ne_eq]
  intro e
  exact h (UInt8.toNat_inj.1 (by omega))
theorem byteBne {a b : UInt8} (h : a ≠ b) : ((a.toNat : Int) != (b.toNat : Int)) = true := by
  simp only [bne, byteNe h, Bool.not_false]
theorem byteBeq {a b : UInt8} (h : a = b) : ((a.toNat : Int) != (b.toNat : Int)) = false := by
  simp only [bne, byteEq h, Bool.not_true]
theorem soundOf_any (w : World) (b : UInt8) (hb : isSml b = true) :
    Calls Tryz.prog 246 #[.int .u8 b.toNat] w fun e w' => e = .returned (.int .u8 (snd b).toNat) ∧ w' = w := by
  unfold isSml at hb
  simp only [Bool.and_eq_true, decide_eq_true_eq] at hb
  obtain ⟨h1, h2⟩ := hb
  obtain ⟨j, hj⟩ : ∃ j : Nat, (b.toNat : Int) - 97 = (j : Int) := ⟨b.toNat - 97, by omega⟩
  have hj2 : j < sndStr.size := by show j < 26; omega
  have hj3 : (j : Int) < 26 := by omega
  have HS : Hid (((sndStr[j]'hj2).toNat : Int) = (snd b).toNat) := by
    show _ = _
    rw [snd_at j hj2]; unfold snd; rw [show b.toNat - 97 = j by omega]
  go_enter Tryz.func246, Tryz.ntmps246
  go_wp2
  go_ret
  exact ⟨ret_i HS.out, rfl⟩
/-- the four bytes of a code -/
def cods (a : UInt8) (D : List UInt8) : Array Value := #[.int .u8 (a.toNat - 32 : Nat), B8 (D.getD 0 48), B8 (D.getD 1 48), B8 (D.getD 2 48)]
theorem cods_code (a : UInt8) (ha : isSml a = true) (t : List UInt8) : cods a (codeGo (snd a) t) = ((codeL (a :: t)).map B8).toArray := by
  unfold isSml at ha
  simp only [Bool.and_eq_true, decide_eq_true_eq] at ha
  unfold cods codeL
  have e : ((UInt8.ofNat (a.toNat - 32)).toNat : Int) = ((a.toNat - 32 : Nat) : Int) := by
    have : a.toNat - 32 < 256 := by omega
    simp [Nat.mod_eq_of_lt this]
  have e2 : Value.int .u8 ((a.toNat - 32 : Nat) : Int) = B8 (UInt8.ofNat (a.toNat - 32)) := by unfold B8; rw [e]
  rw [e2]
  show _ = ((UInt8.ofNat (a.toNat - 32) :: List.take 3 (codeGo (snd a) t ++ [48, 48, 48])).map B8).toArray
  generalize codeGo (snd a) t = D
  match D with
  | [] => rfl
  | [x] => rfl
  | [x, y] => rfl
  | x :: y :: z :: r => rfl
theorem cods_put (a : UInt8) (D : List UInt8) (x : UInt8) (h : D.length < 3) : (cods a D).setIfInBounds (1 + D.length) (B8 x) = cods a (D ++ [x]) := by
  match D, h with
  | [], _ => rfl
  | [y], _ => rfl
  | [y, z], _ => rfl
theorem cods_full (a : UInt8) (D : List UInt8) (x : UInt8) (h : 3 ≤ D.length) : cods a (D ++ [x]) = cods a D := by
  match D, h with
  | y :: z :: u :: r, _ => rfl
theorem set_four {w3 : World} {g : Nat} {a b c d x y z u : Value} {t : TypeId} (h : w3.heap[g]? = some (.cells #[a, b, c, d] t)) :
    ((((w3.setCell ⟨g, 0, none⟩ x).setCell ⟨g, 1, none⟩ y).setCell ⟨g, 2, none⟩ z).setCell ⟨g, 3, none⟩ u).heap[g]? = some (.cells #[x, y, z, u] t) :=
  heap_setCell_same _ g 3 _ t u (heap_setCell_same _ g 2 _ t z (heap_setCell_same _ g 1 _ t y (heap_setCell_same w3 g 0 _ t x h)))
theorem heap_cellC {w : World} {g : Nat} {cs : Array Value} {t : TypeId} (h : w.heap[g]? = some (.cells cs t)) (i : Nat) : w.cell? ⟨g, i, none⟩ = cs[i]? := by
  unfold World.cell?; rw [h]; rfl
theorem Fr.setC {w w3 : World} (h : Fr w.heap.size w w3) {g i : Nat} (hg : w.heap.size ≤ g) (v : Value) : Fr w.heap.size w (w3.setCell ⟨g, i, none⟩ v) := by
  refine ⟨Below.setCell h.1 hg v, fun k o h1 h2 h3 => ?_⟩
  have hk : k < w.heap.size := (Array.getElem?_eq_some_iff.1 h1).1
  rw [heap_setCell_other _ _ _ _ (by show k ≠ g; omega)]
  exact h.2 k o h1 h2 h3
theorem two_kept0 (w : World) (a b : Obj) : ((w.alloc a).alloc b).heap[w.heap.size]? = some a ∧ ((w.alloc a).alloc b).heap[w.heap.size + 1]? = some b := by
  have e0 : ((w.alloc a).alloc b).heap = (w.heap.push a).push b := rfl
  rw [e0]
  refine ⟨?_, ?_⟩
  · rw [Array.getElem?_push, Array.getElem?_push]
    simp only [Array.size_push]
    rw [if_neg (by omega), if_pos trivial]
  · rw [Array.getElem?_push]
    simp only [Array.size_push]
    rw [if_pos trivial]

set_option maxRecDepth 100000 in
set_option maxHeartbeats 2000000 in
theorem codeOf_any (w : World) (B : Nat) (v : Value) (a : UInt8) (t : List UInt8) (hown : Own w B v (a :: t)) (hl : (a :: t).all isSml = true) (hlen : t.length ≤ 140737488355328) :
    Calls Tryz.prog 208 #[v] w fun e w' => e = .returned (.agg (cods a (codeGo (snd a) t))) ∧ Fr w.heap.size w w' := by
  rw [List.all_cons, Bool.and_eq_true] at hl
  obtain ⟨ha, ht⟩ := hl
  have hcell := fun (W : World) (h : Fr w.heap.size w W) (j : Nat) (u : UInt8) (hj : (a :: t)[j]? = some u) (g : Nat) (hg : v.ownBlock = some g) => (h.1.cell (p := ⟨g, j, none⟩) (hown.blk hg)).trans (show w.cell? ⟨g, j, none⟩ = some (B8 u) by
    have := World.ownsRow.cells hown (g := g) hg j (B8 u) (by rw [List.getElem?_map, hj]; rfl)
    by_cases h0 : j = 0
    · subst h0; simpa [Addr.add] using this
    · simpa [Addr.add, h0] using this)
  obtain ⟨g, cap, hv, hcap, hcap2⟩ : ∃ g cap, v = .slice (some ⟨g, 0, none⟩) (t.length + 1) cap ∧ t.length + 1 ≤ cap ∧ cap ≤ maxLen := by
    rcases hown.2 with ⟨_, h⟩ | ⟨g, cap, cur, h, _, _, h3, h4, _⟩
    · simp at h
    · exact ⟨g, cap, h, h3, h4⟩
  subst hv
  have c0 : ∀ W, Fr w.heap.size w W → W.cell? ⟨g, 0, none⟩ = some (.int .u8 a.toNat) := fun W h => hcell W h 0 a rfl g rfl
  have cj : ∀ W, Fr w.heap.size w W → ∀ (j : Nat) (h : j < t.length), W.cell? ⟨g, 1 + j, none⟩ = some (.int .u8 (t[j]).toNat) := fun W h j hj => hcell W h (1 + j) t[j] (by rw [Nat.add_comm, List.getElem?_cons_succ, List.getElem?_eq_getElem hj]) g rfl
  have hgl : g < w.heap.size := hown.blk rfl
  clear hcell hown
  have hso := fun w => soundOf_any w a ha
  have HA : Hid _ := ha
  have HT : Hid _ := ht
  clear ha ht
  have hab : 97 ≤ a.toNat ∧ a.toNat ≤ 122 := by have := HA.out; unfold isSml at this; simpa using this
  obtain ⟨ha1, ha2⟩ := hab
  have c00 := c0 w (Fr.refl _ _)
  have c01 := fun o => c0 (w.alloc o) (Fr.one o)
  have c02 := fun o p => c0 ((w.alloc o).alloc p) ((Fr.one o).then (Fr.one p))
  unfold maxLen at hcap2
  have HC0 : Hid (#[Value.int IntKind.u8 ((a.toNat : Int) - 97 + 65), Value.int IntKind.u8 48, Value.int IntKind.u8 48, Value.int IntKind.u8 48] = cods a []) := by
    show _ = _
    unfold cods
    rw [show ((a.toNat : Int) - 97 + 65) = ((a.toNat - 32 : Nat) : Int) by omega]
    rfl
  obtain ⟨k1, k2⟩ := two_kept0 w (Obj.cells #[Value.int IntKind.u8 0, Value.int IntKind.u8 0, Value.int IntKind.u8 0, Value.int IntKind.u8 0] 238) (Obj.cells #[Value.int IntKind.u8 ((a.toNat : Int) - 97 + 65), Value.int IntKind.u8 48, Value.int IntKind.u8 48, Value.int IntKind.u8 48] 238)
  have K1 : Hid _ := k1
  have K2 : Hid _ := k2
  clear k1 k2
  have hfin : ∀ (W : World) (D : List UInt8), W.heap[w.heap.size]? = some (Obj.cells #[Value.int IntKind.u8 0, Value.int IntKind.u8 0, Value.int IntKind.u8 0, Value.int IntKind.u8 0] 238) → W.heap[w.heap.size + 1]? = some (Obj.cells (cods a D) 238) →
      (∀ i, i < 4 → W.cell? ⟨w.heap.size, i, none⟩ = some (.int .u8 0)) ∧ (∀ i, W.frozen? ⟨w.heap.size, i, none⟩ = false) ∧ W.cell? ⟨w.heap.size + 1, 0, none⟩ = some (.int .u8 (a.toNat - 32 : Nat)) ∧ W.cell? ⟨w.heap.size + 1, 1, none⟩ = some (B8 (D.getD 0 48)) ∧ W.cell? ⟨w.heap.size + 1, 2, none⟩ = some (B8 (D.getD 1 48)) ∧ W.cell? ⟨w.heap.size + 1, 3, none⟩ = some (B8 (D.getD 2 48)) := by
    intro W D h1 h2
    refine ⟨fun i hi => ?_, fun i => frozen_of_row _ _ i _ _ h1, heap_cellC h2 0, heap_cellC h2 1, heap_cellC h2 2, heap_cellC h2 3⟩
    rw [heap_cellC h1 i]
    rcases (show i = 0 ∨ i = 1 ∨ i = 2 ∨ i = 3 by omega) with h | h | h | h <;> subst h <;> rfl
  by_cases hc1 : cap = 1
  · subst hc1
    have ht0 : t = [] := List.eq_nil_of_length_eq_zero (by omega)
    subst ht0
    go_enter Tryz.func208, Tryz.ntmps208
    go_wp2_with (go_at_call 246; refine (hso _).mono ?_; rintro e w2 ⟨rfl, rfl⟩)
    go_loopw [22] (fun i wr => i = .int .i64 0 ∧ wr.heap[w.heap.size]? = some (Obj.cells #[Value.int IntKind.u8 0, Value.int IntKind.u8 0, Value.int IntKind.u8 0, Value.int IntKind.u8 0] 238) ∧ wr.heap[w.heap.size + 1]? = some (Obj.cells (cods a []) 238) ∧ Fr w.heap.size w wr) (fun _ _ => 0)
    case atStart => exact ⟨rfl, K1.out, by rw [← HC0.out]; exact K2.out, (Fr.one _).then (Fr.one _)⟩
    case round =>
      obtain ⟨rfl, h1, h2, hfr⟩ := hrel
      clear c00 c01 c02
      obtain ⟨z0, z1, q0, q1, q2, q3⟩ := hfin wr [] h1 h2
      have y0 := z0 0 (by omega)
      have y1 := z0 1 (by omega)
      have y2 := z0 2 (by omega)
      have y3 := z0 3 (by omega)
      have f0 := z1 0
      have f1 := z1 1
      have f2 := z1 2
      have f3 := z1 3
      have H1 : Hid _ := h1
      clear z0 z1 h1 h2
      rw [B8] at q1 q2 q3
      go_wp2
      refine post_c rfl rfl w.heap.size _ rfl (run_loadVar_row (P := Tryz.prog) _ w.heap.size 238 238 _ _ _ (set_four H1.out) Tryz.underlying238 rfl (by kernel_rfl)) ?_
      refine ⟨by rfl, ?_⟩
      exact (((hfr.setC (Nat.le_refl _) _).setC (Nat.le_refl _) _).setC (Nat.le_refl _) _).setC (Nat.le_refl _) _
  · go_enter Tryz.func208, Tryz.ntmps208
    go_wp2_with (go_at_call 246; refine (hso _).mono ?_; rintro e w2 ⟨rfl, rfl⟩)
    go_loopw [4, 5, 22] (fun f l i wr => ∃ (k F : Nat) (last : UInt8) (D : List UInt8), k ≤ t.length ∧ i = .int .i64 k ∧ f = .int .i64 (F : Int) ∧ F = 1 + min 3 D.length ∧ l = .int .u8 last.toNat ∧ codeGo (snd a) t = D ++ codeGo last (t.drop k) ∧ wr.heap[w.heap.size]? = some (Obj.cells #[Value.int IntKind.u8 0, Value.int IntKind.u8 0, Value.int IntKind.u8 0, Value.int IntKind.u8 0] 238) ∧ wr.heap[w.heap.size + 1]? = some (Obj.cells (cods a D) 238) ∧ Fr w.heap.size w wr) (fun _ _ i _ => t.length - (intOf i).toNat)
    case atStart => exact ⟨0, 1, snd a, [], Nat.zero_le _, rfl, rfl, rfl, rfl, by simp, K1.out, by rw [← HC0.out]; exact K2.out, (Fr.one _).then (Fr.one _)⟩
    case round =>
      obtain ⟨k, F, last, D, hk, rfl, rfl, hF, rfl, hsp, h1, h2, hfr⟩ := hrel
      have HS : Hid _ := hsp
      clear hsp c00 c01 c02
      obtain ⟨z0, z1, q0, q1, q2, q3⟩ := hfin wr D h1 h2
      by_cases hlt : k < t.length
      · have cc := cj wr hfr k hlt
        have hsm : isSml t[k] = true := List.all_eq_true.1 HT.out _ (List.getElem_mem _)
        have hsk := fun w => soundOf_any w t[k] hsm
        have HD : Hid (t.drop k = t[k] :: t.drop (k + 1)) := List.drop_eq_getElem_cons hlt
        have hb := (snd t[k]).toNat_lt
        have hlb := last.toNat_lt
        have H1 : Hid _ := h1
        have H2 : Hid _ := h2
        have HF : Hid _ := hF
        clear h1 h2 hF z0 z1 q0 q1 q2 q3
        by_cases h42 : snd t[k] = 42
        · have e42 : (((snd t[k]).toNat : Int) == 42) = true := byteEq h42
          have HX : Hid (codeGo (snd a) t = D ++ codeGo last (t.drop (k + 1))) := by
            show _ = _
            rw [HS.out, HD.out, codeGo, if_pos h42]
          clear h42
          go_wp2_with (go_at_call 246; refine (hsk _).mono ?_; rintro e w2 ⟨rfl, rfl⟩)
          go_roundw
          case rel => exact ⟨k + 1, F, last, D, by omega, by go_num, rfl, HF.out, rfl, HX.out, H1.out, H2.out, hfr⟩
          case measure => simp [intOf]; omega
        · have e42 : (((snd t[k]).toNat : Int) == 42) = false := byteNe h42
          by_cases hg : snd t[k] ≠ 45 ∧ snd t[k] ≠ last
          · have HX : Hid (codeGo (snd a) t = (D ++ [snd t[k]]) ++ codeGo (snd t[k]) (t.drop (k + 1))) := by
              show _ = _
              rw [HS.out, HD.out, codeGo, if_neg h42, if_pos hg, List.append_assoc]; rfl
            have e45 : (((snd t[k]).toNat : Int) != 45) = true := byteBne hg.1
            have els : (((snd t[k]).toNat : Int) != (last.toNat : Int)) = true := byteBne hg.2
            clear h42 hg
            by_cases h3 : D.length < 3
            · have hF4 : F < 4 := by rw [HF.out]; omega
              have hF4' : (F : Int) < 4 := by omega
              have HFe : Hid (F = 1 + D.length) := by show F = _; rw [HF.out]; omega
              have hcl : wr.cell? ⟨w.heap.size + 1, F, none⟩ = some ((cods a D).getD F undef) := by
                rw [heap_cellC H2.out F]
                rw [Array.getElem?_eq_getElem (by show F < 4; exact hF4), Array.getD_eq_getD_getElem?, Array.getElem?_eq_getElem (by show F < 4; exact hF4)]; rfl
              have hfz := frozen_of_row _ _ F _ _ H2.out
              generalize (cods a D).getD F undef = old at hcl
              go_wp2_with (go_at_call 246; refine (hsk _).mono ?_; rintro e w2 ⟨rfl, rfl⟩)
              go_roundw
              case rel =>
                refine ⟨k + 1, F + 1, snd t[k], D ++ [snd t[k]], by omega, by go_num, by go_num, ?_, rfl, HX.out, ?_, ?_, hfr.setC (by omega) _⟩
                · rw [HFe.out, List.length_append]; simp; omega
                · rw [heap_setCell_other _ _ _ _ (by show w.heap.size ≠ w.heap.size + 1; omega)]; exact H1.out
                · have := heap_setCell_same _ (w.heap.size + 1) F _ _ (B8 (snd t[k])) H2.out
                  rw [HFe.out, cods_put a D _ h3, ← HFe.out] at this
                  exact this
              case measure => simp [intOf]; omega
            · have hF4 : ¬ (F : Int) < 4 := by rw [HF.out]; omega
              go_wp2_with (go_at_call 246; refine (hsk _).mono ?_; rintro e w2 ⟨rfl, rfl⟩)
              go_roundw
              case rel =>
                refine ⟨k + 1, F, snd t[k], D ++ [snd t[k]], by omega, by go_num, rfl, ?_, rfl, HX.out, H1.out, ?_, hfr⟩
                · rw [HF.out, List.length_append]; simp; omega
                · rw [cods_full a D _ (by omega)]; exact H2.out
              case measure => simp [intOf]; omega
          · have HX : Hid (codeGo (snd a) t = D ++ codeGo (snd t[k]) (t.drop (k + 1))) := by
              show _ = _
              rw [HS.out, HD.out, codeGo, if_neg h42, if_neg hg]
            have hg2 : (((snd t[k]).toNat : Int) != 45) = false ∨ ((((snd t[k]).toNat : Int) != 45) = true ∧ (((snd t[k]).toNat : Int) != (last.toNat : Int)) = false) := by
              by_cases h45 : snd t[k] = 45
              · left; exact byteBeq h45
              · right
                refine ⟨byteBne h45, ?_⟩
                by_cases hl : snd t[k] = last
                · exact byteBeq hl
                · exact absurd ⟨h45, hl⟩ hg
            clear h42 hg
            rcases hg2 with g1 | ⟨g1, g2⟩
            · go_wp2_with (go_at_call 246; refine (hsk _).mono ?_; rintro e w2 ⟨rfl, rfl⟩)
              go_roundw
              case rel => exact ⟨k + 1, F, snd t[k], D, by omega, by go_num, rfl, HF.out, rfl, HX.out, H1.out, H2.out, hfr⟩
              case measure => simp [intOf]; omega
            · go_wp2_with (go_at_call 246; refine (hsk _).mono ?_; rintro e w2 ⟨rfl, rfl⟩)
              go_roundw
              case rel => exact ⟨k + 1, F, snd t[k], D, by omega, by go_num, rfl, HF.out, rfl, HX.out, H1.out, H2.out, hfr⟩
              case measure => simp [intOf]; omega
      · have y0 := z0 0 (by omega)
        have y1 := z0 1 (by omega)
        have y2 := z0 2 (by omega)
        have y3 := z0 3 (by omega)
        have f0 := z1 0
        have f1 := z1 1
        have f2 := z1 2
        have f3 := z1 3
        have HR : Hid (codeGo (snd a) t = D) := by
          show _ = _
          rw [HS.out, List.drop_eq_nil_of_le (by omega), codeGo, List.append_nil]
        have H1 : Hid _ := h1
        clear z0 z1 h1 h2
        rw [B8] at q1 q2 q3
        go_wp2
        refine post_c rfl rfl w.heap.size _ rfl (run_loadVar_row (P := Tryz.prog) _ w.heap.size 238 238 _ _ _ (set_four H1.out) Tryz.underlying238 rfl (by kernel_rfl)) ?_
        refine ⟨by rw [HR.out]; rfl, ?_⟩
        exact (((hfr.setC (Nat.le_refl _) _).setC (Nat.le_refl _) _).setC (Nat.le_refl _) _).setC (Nat.le_refl _) _
end Go.Proofs.YtbioickfookjeaaGreatDoor

/-
  How words sound: the codes of all rows of letters.
-/
namespace Go.Proofs.YtbioickfookjeaaGreatDoor
open Go.RowKit
open Go.Lib (decodeL)

theorem Own.form {w : World} {B : Nat} {v : Value} {l : List UInt8} (h : Own w B v l) : ∃ ad cap, v = .slice ad l.length cap := by
  rcases h.2 with ⟨h1, h2⟩ | ⟨g, cap, cur, h1, _⟩
  · exact ⟨none, 0, by rw [h2]; exact h1⟩
  · exact ⟨_, cap, h1⟩
theorem one_cell (w : World) (b : UInt8) : ∀ (j : Nat) (h : j < [b].length), (w.alloc (.cells #[.int .u8 b.toNat] 5)).cell? ⟨w.heap.size, j, none⟩ = some (B8 [b][j]) := by
  intro j h
  have h0 : j = 0 := by simpa using h
  subst h0
  exact heap_cellC (heap_alloc_new w _) 0
theorem codeL_len (a : UInt8) (t : List UInt8) : (codeL (a :: t)).length = 4 := by
  unfold codeL
  rw [List.length_cons, List.length_take, List.length_append]
  simp

set_option maxRecDepth 100000 in
set_option maxHeartbeats 2000000 in
theorem appendCode_any (w : World) (B : Nat) (u v : Value) (k l : List UInt8) (h2 : Two w B u v k l) (hB : B ≤ w.heap.size) (hl : l.all isSml = true) (hk : k.length ≤ 100000000000) (hl2 : l.length ≤ 100000000000) :
    Calls Tryz.prog 152 #[u, v] w fun e w' => ∃ u', e = .returned u' ∧ Two w' B u' v (appC k l) l ∧ Fr B w w' := by
  obtain ⟨ad, cap, hv⟩ := h2.b.form
  obtain ⟨au, cu, hu⟩ := h2.a.form
  cases l with
  | nil =>
    subst hv hu
    go_enter Tryz.func152, Tryz.ntmps152
    go_wp2
    go_ret
    exact ⟨_, rfl, h2, Fr.refl _ _⟩
  | cons a t =>
    have hla : (a :: t).length = t.length + 1 := rfl
    have hcl := codeL_len a t
    have HC : Hid _ := cods_code a (by rw [List.all_cons, Bool.and_eq_true] at hl; exact hl.1) t
    have hco := fun (w' : World) (h : Own w' B v (a :: t)) => codeOf_any w' B v a t h hl (by simp at hl2; omega)
    have hcell : ∀ W : World, ∀ (j : Nat) (h : j < (codeL (a :: t)).length), (W.alloc (.cells (cods a (codeGo (snd a) t)) 238)).cell? ⟨W.heap.size, j, none⟩ = some (B8 (codeL (a :: t))[j]) := by
      intro W j h
      rw [heap_cellC (heap_alloc_new W _) j, HC.out]
      simp [List.getElem?_eq_getElem h]
    simp only [cods, B8] at hco hcell
    generalize (codeGo (snd a) t).getD 0 48 = x1 at hco hcell
    generalize (codeGo (snd a) t).getD 1 48 = x2 at hco hcell
    generalize (codeGo (snd a) t).getD 2 48 = x3 at hco hcell
    generalize a.toNat - 32 = n0 at hco hcell
    by_cases hk0 : k = []
    · subst hk0
      have HA : Hid (appC [] (a :: t) = [] ++ codeL (a :: t)) := by show appC _ _ = _; unfold appC; rw [if_neg (by simp), if_pos rfl]; rfl
      subst hv hu
      have hlI : ((a :: t).length : Int) = (t.length : Int) + 1 := by simp
      have hB2 := hB
      go_enter Tryz.func152, Tryz.ntmps152
      go_wp2_with (first
        | (go_at_call 208; refine (hco _ h2.b).mono ?_; rintro e w2 ⟨rfl, hf2⟩; have t2 := h2.below hf2; have b2 : B ≤ w2.heap.size := Nat.le_trans hB hf2.size)
        | (at_builtin; refine wpList_push2 rfl _ _ rfl B _ _ (a :: t) [] (codeL (a :: t)) (t2.swap.alloc _) (by simp; omega) rfl w2.heap.size 4 4 rfl hcl.symm (hcell w2) (by rw [hcl]; simp) ?_; intro v3 w3 t3 f3))
      go_ret
      exact ⟨_, rfl, by rw [HA.out]; exact t3.swap, (hf2.mono hB).trans (((Fr.refl _ _).alloc b2 _).trans f3)⟩
    · have HA : Hid (appC k (a :: t) = (k ++ [32]) ++ codeL (a :: t)) := by show appC _ _ = _; unfold appC; rw [if_neg (by simp), if_neg hk0]; simp
      have hkl : 0 < k.length := List.length_pos_iff.2 hk0
      subst hv hu
      have hkI : (0 : Int) < (k.length : Int) := by omega
      have hlI : ((a :: t).length : Int) = (t.length : Int) + 1 := by simp
      have mk : True := trivial
      go_enter Tryz.func152, Tryz.ntmps152
      go_wp2_with (first
        | (at_builtin; clear mk; refine wpList_push2 rfl _ _ rfl B _ _ (a :: t) k [32] (h2.swap.alloc _) (by simp; omega) rfl w.heap.size 1 1 rfl rfl (one_cell w 32) (by simp; omega) ?_; intro v3 w3 t3 f3; have b3 : B ≤ w3.heap.size := Nat.le_trans hB (by have := f3.size; simp at this; omega))
        | (go_at_call 208; refine (hco _ t3.a).mono ?_; rintro e w2 ⟨rfl, hf2⟩; have t2 := t3.below hf2; have b2 : B ≤ w2.heap.size := Nat.le_trans b3 hf2.size)
        | (at_builtin; refine wpList_push2 rfl _ _ rfl B _ _ (a :: t) (k ++ [32]) (codeL (a :: t)) (t2.alloc _) (by simp; omega) rfl w2.heap.size 4 4 rfl hcl.symm (hcell w2) (by rw [hcl]; simp; omega) ?_; intro v4 w4 t4 f4))
      go_ret
      exact ⟨_, rfl, by rw [HA.out]; exact t4.swap, (((Fr.refl _ _).alloc hB _).trans f3).trans ((hf2.mono b3).trans (((Fr.refl _ _).alloc b2 _).trans f4))⟩
end Go.Proofs.YtbioickfookjeaaGreatDoor

/-
  Sound: of each row of letters its code.
-/
namespace Go.Proofs.YtbioickfookjeaaGreatDoor
open Go.RowKit
open Go.Lib (decodeL)

theorem Two.cut {w : World} {B : Nat} {u : Value} {k l : List UInt8} {g n cap : Nat} (h : Two w B u (.slice (some ⟨g, 0, none⟩) n cap) k l) : Two w B u (.slice (some ⟨g, 0, none⟩) 0 cap) k [] := by
  refine ⟨h.a, ?_, fun g h1 h2 => h.ne g h1 h2⟩
  rcases h.b.2 with ⟨h1, _⟩ | ⟨g', cap', cur, h1, h2, h3, h4, h5, h6, h7⟩
  · cases h1
  · cases h1
    exact ⟨rfl, .inr ⟨g, cap, cur, rfl, h2, h3, Nat.zero_le _, h5, h6, rfl⟩⟩
theorem Two.vform {w : World} {B : Nat} {u v : Value} {k l : List UInt8} (h : Two w B u v k l) : (∃ cap g, v = .slice (some ⟨g, 0, none⟩) l.length cap ∧ cap ≤ 9223372036854775807 ∧ l.length ≤ cap) ∨ (v = .slice none 0 0 ∧ l = []) := by
  rcases h.b.2 with ⟨h1, h3⟩ | ⟨g, cap, cur, h1, _, _, h3, h4, _⟩
  · exact .inr ⟨h1, List.eq_nil_of_length_eq_zero h3⟩
  · exact .inl ⟨cap, g, h1, by unfold maxLen at h4; omega, h3⟩
theorem appC_len (k l : List UInt8) : (appC k l).length ≤ k.length + 5 * l.length := by
  unfold appC
  cases l with
  | nil => simp
  | cons a t =>
    rw [if_neg (by simp)]
    split
    · rw [codeL_len]; simp; omega
    · rw [List.length_append, List.length_cons, codeL_len]; simp; omega
theorem low_let (b : UInt8) (h : isLet b = true) : isSml (lowB b) = true := by
  unfold isLet at h
  unfold isSml lowB
  simp only [Bool.or_eq_true, Bool.and_eq_true, decide_eq_true_eq] at h
  by_cases hc : 65 ≤ b.toNat ∧ b.toNat ≤ 90
  · rw [if_pos (by simp; omega)]
    have : b.toNat + 32 < 256 := by omega
    simp [Nat.mod_eq_of_lt this]; omega
  · rw [if_neg (by simp; omega)]
    simp; omega
theorem let_ascii (b : UInt8) (h : isLet b = true) : b.toNat < 128 := by
  unfold isLet at h
  simp only [Bool.or_eq_true, Bool.and_eq_true, decide_eq_true_eq] at h
  omega

set_option maxRecDepth 100000 in
set_option maxHeartbeats 2000000 in
theorem Sound_any (w : World) (s : ByteArray) (hs : s.size ≤ 10000000000) :
    Calls Tryz.prog 89 #[.string s] w fun e w' => e = .returned (.string (str (soundL (byt s)))) ∧ Fr w.heap.size w w' := by
  go_enter Tryz.func89, Tryz.ntmps89
  go_wp2
  go_loopg [3, 4] s.size (fun n u v wr => ∃ (pos : Nat) (k l : List UInt8), pos ≤ s.size ∧ s.size - pos ≤ n ∧ k.length + 5 * l.length ≤ 5 * pos ∧ l.all isSml = true ∧ Two wr w.heap.size u v k l ∧ wr.heap[w.heap.size]? = some (.stringIter s pos) ∧ soundL (byt s) = soundGo k l ((byt s).drop pos) ∧ Fr w.heap.size w wr)
  case atStart => exact ⟨0, [], [], Nat.zero_le _, by omega, by simp, rfl, two_nil _ _, World.iter_heap w s 0, rfl, Fr.one _⟩
  case round =>
    obtain ⟨pos, k, l, hp, hn, hkl, hall, h2, hit, hsp, hfr⟩ := hrel
    have HS : Hid _ := hsp
    have HL : Hid _ := hall
    clear hsp hall
    have hBw : w.heap.size ≤ wr.heap.size := hfr.size
    by_cases hlt : pos < s.size
    · obtain ⟨m, rfl⟩ : ∃ m, gk = m + 1 := ⟨gk - 1, by omega⟩
      have HE : Hid _ := drop_one s pos hlt
      have HI : Hid _ := hit
      by_cases hlet : isLet s[pos] = true
      · have hb := let_ascii _ hlet
        have hnx := fun ty => Lib.run_next_ascii_at (P := Tryz.prog) wr w.heap.size s pos ty hit hlt hb
        have hr : rLet (s[pos].toNat : Int) = true := by rw [rLet_byte]; exact hlet
        have HX : Hid (soundL (byt s) = soundGo k (l ++ [lowB s[pos]]) ((byt s).drop (pos + 1))) := by
          show _ = _
          rw [HS.out, HE.out, soundGo, if_pos hlet]
        have HM : Hid ((l ++ [lowB s[pos]]).all isSml = true) := by
          show _ = _
          rw [List.all_append, HL.out]; simp [low_let _ hlet]
        have hlw := rLow_byte s[pos]
        have hlb := (lowB s[pos]).toNat_lt
        have h2i := h2.iterAt hit (pos + 1)
        have hii := Lib.iterAt_heap wr w.heap.size s pos (pos + 1) hit
        have hfi := hfr.iterAt (Nat.le_refl _) (Nat.le_refl _) s (pos + 1)
        have hBi : w.heap.size ≤ (wr.iterAt w.heap.size s (pos + 1)).heap.size := by rw [Lib.iterAt_size]; exact hBw
        clear hit hlet
        go_wp2_with (first
          | (go_at_call 150; refine (isLetter_any _ _).mono ?_; rintro e w2 ⟨rfl, rfl⟩; rw [hr])
          | (go_at_call 151; refine (smallLetter_any _ _ (by omega) (by omega)).mono ?_; rintro e w2 ⟨rfl, rfl⟩; rw [hlw])
          | (at_builtin; refine wpList_push2 rfl _ _ rfl w.heap.size _ _ k l [lowB s[pos]] (h2i.alloc _) (by simp; omega) rfl _ 1 1 rfl rfl (one_cell _ (lowB s[pos])) (by simp; omega) ?_; intro v3 w3 t3 f3))
        go_roundg m
        case measure => omega
        case rel => exact ⟨pos + 1, k, l ++ [lowB s[pos]], by omega, by omega, by simp; omega, HM.out, t3, f3.iter (by rw [Below.heap_alloc _ _ _ (by rw [Lib.iterAt_size]; exact (Array.getElem?_eq_some_iff.1 HI.out).1)]; exact hii), HX.out, hfi.trans (((Fr.refl _ _).alloc hBi _).trans f3)⟩
      · have hgen : ∃ r q : Nat, (∀ ty, (Instr.next (.pointer (some ⟨w.heap.size, 0, none⟩)) true ty).run Tryz.prog wr = .ok (.tuple #[.bool true, .int .i64 pos, .int .i32 r]) (wr.iterAt w.heap.size s (pos + q))) ∧ 1 ≤ q ∧ pos + q ≤ s.size ∧ r ≤ 1114111 ∧ rLet (r : Int) = false ∧ soundGo k l ((byt s).drop pos) = soundGo (appC k l) [] ((byt s).drop (pos + q)) := by
          by_cases hb : s[pos].toNat < 128
          · refine ⟨s[pos].toNat, 1, fun ty => Lib.run_next_ascii_at (P := Tryz.prog) wr w.heap.size s pos ty hit hlt hb, by omega, by omega, by omega, ?_, ?_⟩
            · rw [rLet_byte]; simpa using hlet
            · rw [HE.out, soundGo, if_neg hlet]
          · refine ⟨(Utf8.decode s pos).1, (Utf8.decode s pos).2, fun ty => Lib.run_next_any_at (P := Tryz.prog) wr w.heap.size s pos ty hit hlt, ?_, ?_, ?_, ?_, ?_⟩
            · rw [dec_byt]; exact Lib.decodeL_width _
            · rw [dec_byt, dec_width _ (by rw [HE.out]; simp)]
              have := stp_drop s pos hlt
              unfold stp at this
              omega
            · rw [dec_byt]; exact Lib.decodeL_rune _
            · rw [dec_byt]
              apply rLet_high
              rw [HE.out]
              have := rune_high s[pos] ((byt s).drop (pos + 1)) (by omega)
              omega
            · rw [dec_byt, ← List.drop_drop, HE.out, sound_char _ _ _ _ (by omega)]
        obtain ⟨r, q, hnx, q1, q2, r2, hr, hso⟩ := hgen
        have HX : Hid (soundL (byt s) = soundGo (appC k l) [] ((byt s).drop (pos + q))) := by
          show _ = _
          rw [HS.out, hso]
        have hal := appC_len k l
        have h2i := h2.iterAt hit (pos + q)
        have hii := Lib.iterAt_heap wr w.heap.size s pos (pos + q) hit
        have hfi := hfr.iterAt (Nat.le_refl _) (Nat.le_refl _) s (pos + q)
        have hBi : w.heap.size ≤ (wr.iterAt w.heap.size s (pos + q)).heap.size := by rw [Lib.iterAt_size]; exact hBw
        have hfm := h2.vform
        clear hit hlet hso h2
        rcases hfm with ⟨cap, g, rfl, hc1, hc2⟩ | ⟨rfl, rfl⟩
        · go_wp2_with (first
            | (go_at_call 150; refine (isLetter_any _ _).mono ?_; rintro e w2 ⟨rfl, rfl⟩; rw [hr])
            | (go_at_call 152; refine (appendCode_any _ w.heap.size _ _ k l h2i hBi HL.out (by omega) (by omega)).mono ?_; rintro e w3 ⟨u3, rfl, t3, f3⟩))
          go_roundg m
          case measure => omega
          case rel => exact ⟨pos + q, appC k l, [], q2, by omega, by simp; omega, rfl, t3.cut, f3.iter hii, HX.out, hfi.trans f3⟩
        · go_wp2_with (first
            | (go_at_call 150; refine (isLetter_any _ _).mono ?_; rintro e w2 ⟨rfl, rfl⟩; rw [hr])
            | (go_at_call 152; refine (appendCode_any _ w.heap.size _ _ k [] h2i hBi rfl (by omega) (by simp)).mono ?_; rintro e w3 ⟨u3, rfl, t3, f3⟩))
          go_roundg m
          case measure => omega
          case rel => exact ⟨pos + q, appC k [], [], q2, by omega, by simp at hal hkl ⊢; omega, rfl, t3, f3.iter hii, HX.out, hfi.trans f3⟩
    · have hnx := fun ty => Lib.run_next_end_at (P := Tryz.prog) wr w.heap.size s pos ty hit hlt
      have HX : Hid (soundL (byt s) = appC k l) := by
        show _ = _
        rw [HS.out, drop_end s pos hlt, soundGo]
      have hal := appC_len k l
      clear hit
      go_wp2_with (go_at_call 152; refine (appendCode_any _ w.heap.size _ _ k l h2 hBw HL.out (by omega) (by omega)).mono ?_; rintro e w3 ⟨u3, rfl, t3, f3⟩; have hcv := t3.a.conv)
      go_ret
      exact ⟨ret_s (by rw [HX.out]), hfr.trans f3⟩
end Go.Proofs.YtbioickfookjeaaGreatDoor

/-
  match: its leaves.
-/
namespace Go.Proofs.YtbioickfookjeaaGreatDoor
open Go.RowKit

theorem Fr.ext {w w' : World} (h : Fr w.heap.size w w') : Ext w w' := h.1
theorem HasTab.ext {w w' : World} (h : HasTab w) (x : Ext w w') : HasTab w' := by
  obtain ⟨g, off, cap, ht⟩ := h
  exact ⟨g, off, cap, ht.below x (Nat.le_refl _)⟩

set_option maxRecDepth 100000 in
theorem truth_any (w : World) (b : Bool) : Calls Tryz.prog 43 #[.bool b] w fun e w' => e = .returned (.int .i8 (if b then 1 else 0)) ∧ w' = w := by
  cases b
  · go_enter Tryz.func43, Tryz.ntmps43
    go_wp2
    go_ret
    exact ⟨rfl, rfl⟩
  · go_enter Tryz.func43, Tryz.ntmps43
    go_wp2
    go_ret
    exact ⟨rfl, rfl⟩
set_option maxRecDepth 100000 in
theorem unknown_any (w : World) (s : ByteArray) : Calls Tryz.prog 85 #[.string s] w fun e w' => e = .returned (.int .i8 2) ∧ w' = w := by
  go_enter Tryz.func85, Tryz.ntmps85
  go_wp2
  go_ret
  exact ⟨rfl, rfl⟩
set_option maxRecDepth 100000 in
theorem noKey_any (w : World) (s : ByteArray) : Calls Tryz.prog 133 #[.string s] w fun e w' => e = .returned (.tuple #[.string ⟨#[]⟩, .bool false]) ∧ w' = w := by
  go_enter Tryz.func133, Tryz.ntmps133
  go_wp2
  go_ret2
  exact ⟨rfl, rfl⟩
set_option maxRecDepth 100000 in
theorem noRule1_any (w : World) (s : ByteArray) : Calls Tryz.prog 134 #[.string s] w fun e w' => e = .returned (.func (.func 85) #[] #[]) ∧ w' = w := by
  go_enter Tryz.func134, Tryz.ntmps134
  go_wp2
  go_ret
  exact ⟨rfl, rfl⟩
set_option maxRecDepth 100000 in
theorem noRule2_any (w : World) (s : ByteArray) (v : Value) : Calls Tryz.prog 135 #[.string s, v] w fun e w' => e = .returned (.func (.func 85) #[] #[]) ∧ w' = w := by
  go_enter Tryz.func135, Tryz.ntmps135
  go_wp2
  go_ret
  exact ⟨rfl, rfl⟩
set_option maxRecDepth 100000 in
theorem noRule3_any (w : World) (s : ByteArray) (v : Value) (t : ByteArray) : Calls Tryz.prog 136 #[.string s, v, .string t] w fun e w' => e = .returned (.func (.func 85) #[] #[]) ∧ w' = w := by
  go_enter Tryz.func136, Tryz.ntmps136
  go_wp2
  go_ret
  exact ⟨rfl, rfl⟩
set_option maxRecDepth 100000 in
theorem isSame_any (w : World) (o : Int) : Calls Tryz.prog 81 #[.int .i64 o] w fun e w' => e = .returned (.bool (decide (o = 0))) ∧ w' = w := by
  by_cases h : o = 0
  · go_enter Tryz.func81, Tryz.ntmps81
    go_wp2
    go_ret
    exact ⟨by simp [h], rfl⟩
  · go_enter Tryz.func81, Tryz.ntmps81
    go_wp2
    go_ret
    exact ⟨by simp [h], rfl⟩
set_option maxRecDepth 100000 in
theorem isNotAhead_any (w : World) (o : Int) : Calls Tryz.prog 46 #[.int .i64 o] w fun e w' => e = .returned (.bool (decide (0 ≤ o))) ∧ w' = w := by
  by_cases h : 0 ≤ o
  · go_enter Tryz.func46, Tryz.ntmps46
    go_wp2
    go_ret
    exact ⟨by simp [h], rfl⟩
  · have h' : ¬ o ≥ 0 := h
    go_enter Tryz.func46, Tryz.ntmps46
    go_wp2
    go_ret
    exact ⟨by simp [h], rfl⟩
set_option maxRecDepth 100000 in
theorem isNotBehind_any (w : World) (o : Int) : Calls Tryz.prog 47 #[.int .i64 o] w fun e w' => e = .returned (.bool (decide (o ≤ 0))) ∧ w' = w := by
  by_cases h : o ≤ 0
  · go_enter Tryz.func47, Tryz.ntmps47
    go_wp2
    go_ret
    exact ⟨by simp [h], rfl⟩
  · go_enter Tryz.func47, Tryz.ntmps47
    go_wp2
    go_ret
    exact ⟨by simp [h], rfl⟩
theorem four {w : World} {g : Nat} {c0 c1 c2 c3 : Value} {t : TypeId} {fz : Nat × Nat} (h : w.heap[g]? = some (.cells #[c0, c1, c2, c3] t fz)) : ∀ j v, [c0, c1, c2, c3][j]? = some v → w.cell? ((⟨g, 0, none⟩ : Addr).add j) = some v := by
  intro j v hv
  rw [Addr.add_lit, Nat.zero_add, cell_of_row _ _ j _ _ _ h]
  simpa using hv
/-- four cells stored -/
def set4 (w : World) (g : Nat) (c0 c1 c2 c3 : Value) : World := (((w.setCell ⟨g, 0, none⟩ c0).setCell ⟨g, 1, none⟩ c1).setCell ⟨g, 2, none⟩ c2).setCell ⟨g, 3, none⟩ c3
theorem set4_only (w : World) (g : Nat) (c0 c1 c2 c3 : Value) : Only (fun k => k = g) w (set4 w g c0 c1 c2 c3) := by
  rw [show set4 w g c0 c1 c2 c3 = w.setCells g 0 [c0, c1, c2, c3] from rfl]; exact Only.setCells w g 0 _ rfl
theorem set4_heap (w : World) (g : Nat) (d0 d1 d2 d3 c0 c1 c2 c3 : Value) (t : TypeId) (fz : Nat × Nat) (h : w.heap[g]? = some (.cells #[d0, d1, d2, d3] t fz)) :
    (set4 w g c0 c1 c2 c3).heap[g]? = some (.cells #[c0, c1, c2, c3] t fz) := by
  rw [show set4 w g c0 c1 c2 c3 = w.setCells g 0 [c0, c1, c2, c3] from rfl]
  exact heap_setCells_at g t fz _ 0 w [d0, d1, d2, d3] h (Nat.le_refl 4)
set_option maxRecDepth 100000 in
theorem noRule_any (w : World) : Calls Tryz.prog 76 #[] w fun e w' => e = .returned (.agg #[.func (.func 133) #[] #[], .func (.func 134) #[] #[], .func (.func 135) #[] #[], .func (.func 136) #[] #[]]) ∧ Ext w w' := by
  have HB := heap_alloc_new w (.cells #[.nilFunc, .nilFunc, .nilFunc, .nilFunc] 81)
  have x1 : Hid (Ext w (w.alloc (.cells #[.nilFunc, .nilFunc, .nilFunc, .nilFunc] 81))) := (Ext.refl w).alloc _
  have hlt : Hid (w.heap.size ≤ w.heap.size) := Nat.le_refl _
  go_enter Tryz.func76, Tryz.ntmps76
  go_upto_region 1 with fail
  generalize w.alloc (.cells #[.nilFunc, .nilFunc, .nilFunc, .nilFunc] 81) = w1 at *
  generalize hg : w.heap.size = g at *
  have hgh : Hid (w.heap.size = g) := hg
  clear hg
  have b0 := cell_of_row _ _ 0 _ _ _ HB
  have b1 := cell_of_row _ _ 1 _ _ _ HB
  have b2 := cell_of_row _ _ 2 _ _ _ HB
  have b3 := cell_of_row _ _ 3 _ _ _ HB
  simp only [List.getElem?_toArray, List.getElem?_cons_zero, List.getElem?_cons_succ] at b0 b1 b2 b3
  have fr : ∀ j, w1.frozen? ⟨g, j, none⟩ = false := fun j => by simp [World.frozen?, HB]
  have HBh : Hid (w1.heap[g]? = _) := HB
  clear HB
  go_wp2
  have H4 := set4_heap w1 g _ _ _ _ (.func (.func 133) #[] #[]) (.func (.func 134) #[] #[]) (.func (.func 135) #[] #[]) (.func (.func 136) #[] #[]) _ _ HBh.out
  refine bodyPost_ret (results_agg rfl _ _ g [.func (.func 133) #[] #[], .func (.func 134) #[] #[], .func (.func 135) #[] #[], .func (.func 136) #[] #[]] 4 rfl Tryz.isAgg81 Tryz.sizeOf81 rfl (four H4)) rfl ?_
  exact ⟨rfl, x1.out.then (set4_only w1 g _ _ _ _) (fun k hk => by rw [hgh.out, hk]; exact Nat.le_refl _)⟩
end Go.Proofs.YtbioickfookjeaaGreatDoor

/-
  match: keys by forms, compare.
-/
namespace Go.Proofs.YtbioickfookjeaaGreatDoor
open Go.RowKit

/-- the keys of a form -/
def KeyOf (w : World) (f : Int) (k : List UInt8 → Option (List UInt8)) : Prop := ∀ w1 (s : ByteArray), Ext w w1 → s.size ≤ 65536 → Calls Tryz.prog 88 #[.int .i8 f, .string s] w1 fun e w' => e = .returned (ans (k (byt s))) ∧ Ext w1 w'
theorem KeyOf.ext {w w' : World} {f : Int} {k : List UInt8 → Option (List UInt8)} (h : KeyOf w f k) (x : Ext w w') : KeyOf w' f k := fun w1 s y hs => h w1 s (x.trans y) hs
theorem KeyOf.fold {w : World} (h : HasTab w) : KeyOf w 0 (keySp true) := fun w1 s x hs => (Key0_any w1 (h.ext x) s hs).mono (by rintro _ w2 ⟨rfl, f⟩; exact ⟨rfl, f.ext⟩)
theorem KeyOf.exact {w : World} (h : HasTab w) : KeyOf w 1 (keySp false) := fun w1 s x hs => (Key1_any w1 (h.ext x) s hs).mono (by rintro _ w2 ⟨rfl, f⟩; exact ⟨rfl, f.ext⟩)
theorem KeyOf.number (w : World) : KeyOf w 4 (fun l => (numL l).map numKey) := fun w1 s _ hs => (Key4_any w1 s hs).mono (by rintro _ w2 ⟨rfl, f⟩; exact ⟨rfl, f.ext⟩)
/-- a keyer of a form: the function and where it keeps the form -/
def keyF (b : Nat) : Value := .func (.func 138) #[] #[.pointer (some ⟨b, 0, none⟩)]
set_option maxRecDepth 100000 in
theorem keyerOf_form (w : World) (p : Option Addr) (f : Int) : Calls Tryz.prog 78 #[.pointer p, .int .i8 1, .int .i8 f] w fun e w' => ∃ b, e = .returned (keyF b) ∧ w'.cell? ⟨b, 0, none⟩ = some (.int .i8 f) ∧ w.heap.size ≤ b ∧ Ext w w' := by
  go_enter Tryz.func78, Tryz.ntmps78
  go_wp2
  go_ret
  exact ⟨_, rfl, by rw [← World.size_alloc w (Obj.cells #[Value.pointer p] 29)]; exact cell_of_row _ _ 0 _ _ _ (heap_alloc_new _ _), by omega, ((Ext.refl w).alloc _).alloc _⟩
set_option maxRecDepth 100000 in
theorem keyerF_any (w : World) (b : Nat) (f : Int) (k : List UInt8 → Option (List UInt8)) (hk : KeyOf w f k) (hb : w.cell? ⟨b, 0, none⟩ = some (.int .i8 f)) (s : ByteArray) (hs : s.size ≤ 65536) :
    Calls Tryz.prog 138 #[.string s, .pointer (some ⟨b, 0, none⟩)] w fun e w' => e = .returned (ans (k (byt s))) ∧ Ext w w' := by
  have hq := hk w s (Ext.refl w) hs
  generalize k (byt s) = o at *
  clear hk
  simp only [ans] at hq ⊢
  go_enter Tryz.func138, Tryz.ntmps138
  go_wp2_with (go_at_call 88; refine hq.mono ?_; rintro _ w2 ⟨rfl, x2⟩)
  go_ret2
  exact ⟨rfl, x2⟩
/-- the question that compare makes -/
def cmpF (c1 c2 c3 : Nat) : Value := .func (.func 142) #[] #[.pointer (some ⟨c1, 0, none⟩), .pointer (some ⟨c2, 0, none⟩), .pointer (some ⟨c3, 0, none⟩)]
set_option maxRecDepth 100000 in
theorem compare_none (w : World) (b : Nat) (f : Int) (k : List UInt8 → Option (List UInt8)) (hk : KeyOf w f k) (hb : w.cell? ⟨b, 0, none⟩ = some (.int .i8 f)) (s : ByteArray) (hs : s.size ≤ 65536) (h : FuncId) (ho : k (byt s) = none) :
    Calls Tryz.prog 80 #[keyF b, .string s, .func (.func h) #[] #[]] w fun e w' => e = .returned (.func (.func 85) #[] #[]) ∧ Ext w w' := by
  have hq := fun w1 (x : Ext w w1) => keyerF_any w1 b f k (hk.ext x) (x.cell hb) s hs
  rw [ho] at hq
  have hq2 : ∀ w1, Ext w w1 → Calls Tryz.prog 138 #[.string s, .pointer (some ⟨b, 0, none⟩)] w1 fun e w' => e = .returned (.tuple #[.string (str []), .bool false]) ∧ Ext w1 w' := hq
  unfold keyF
  clear hq hk hb
  go_enter Tryz.func80, Tryz.ntmps80
  go_wp2_with (go_at_call 138; refine (hq2 _ (((Ext.refl w).alloc _).alloc _)).mono ?_; rintro _ w2 ⟨rfl, x2⟩)
  go_ret
  exact ⟨rfl, ((((Ext.refl w).alloc _).alloc _).trans x2).alloc _⟩
set_option maxRecDepth 100000 in
theorem compare_some (w : World) (b : Nat) (f : Int) (k : List UInt8 → Option (List UInt8)) (hk : KeyOf w f k) (hb : w.cell? ⟨b, 0, none⟩ = some (.int .i8 f)) (s : ByteArray) (hs : s.size ≤ 65536) (h : FuncId) (want : List UInt8) (ho : k (byt s) = some want) :
    Calls Tryz.prog 80 #[keyF b, .string s, .func (.func h) #[] #[]] w fun e w' => ∃ c1 c2 c3, e = .returned (cmpF c1 c2 c3) ∧ w'.cell? ⟨c1, 0, none⟩ = some (keyF b) ∧ w'.cell? ⟨c2, 0, none⟩ = some (.func (.func h) #[] #[]) ∧ w'.cell? ⟨c3, 0, none⟩ = some (.string (str want)) ∧ Ext w w' := by
  have hq := fun w1 (x : Ext w w1) => keyerF_any w1 b f k (hk.ext x) (x.cell hb) s hs
  rw [ho] at hq
  have hq2 : ∀ w1, Ext w w1 → Calls Tryz.prog 138 #[.string s, .pointer (some ⟨b, 0, none⟩)] w1 fun e w' => e = .returned (.tuple #[.string (str want), .bool true]) ∧ Ext w1 w' := hq
  unfold keyF
  clear hq hk hb
  go_enter Tryz.func80, Tryz.ntmps80
  go_wp2_with (go_at_call 138; refine (hq2 _ (((Ext.refl w).alloc _).alloc _)).mono ?_; rintro _ w2 ⟨rfl, x2⟩)
  go_ret
  have x0 : Ext w ((w.alloc (.cells #[.func (.func 138) #[] #[.pointer (some ⟨b, 0, none⟩)]] 76)).alloc (.cells #[.func (.func h) #[] #[]] 95)) := ((Ext.refl w).alloc _).alloc _
  refine ⟨_, _, _, rfl, ?_, ?_, ?_, (x0.trans x2).alloc _⟩
  · exact ((x2.trans ((Ext.refl _).alloc _)).cell (((Ext.refl _).alloc _).cell (cell_of_row _ _ 0 _ _ _ (heap_alloc_new w _))))
  · refine (x2.trans ((Ext.refl _).alloc _)).cell ?_
    rw [← World.size_alloc w (.cells #[.func (.func 138) #[] #[.pointer (some ⟨b, 0, none⟩)]] 76)]
    exact cell_of_row _ _ 0 _ _ _ (heap_alloc_new _ _)
  · exact cell_of_row _ _ 0 _ _ _ (heap_alloc_new _ _)
set_option maxRecDepth 100000 in
set_option maxHeartbeats 1000000 in
theorem cmpF_any (w : World) (b : Nat) (f : Int) (k : List UInt8 → Option (List UInt8)) (hk : KeyOf w f k) (hb : w.cell? ⟨b, 0, none⟩ = some (.int .i8 f)) (s : ByteArray) (hs : s.size ≤ 65536) (h : FuncId) (H : Int → Bool) (want : List UInt8) (c1 c2 c3 : Nat)
    (h1 : w.cell? ⟨c1, 0, none⟩ = some (keyF b)) (h2 : w.cell? ⟨c2, 0, none⟩ = some (.func (.func h) #[] #[])) (h3 : w.cell? ⟨c3, 0, none⟩ = some (.string (str want))) (hh : ∀ w o, Calls Tryz.prog h #[.int .i64 o] w fun e w' => e = .returned (.bool (H o)) ∧ w' = w) (he : ∀ args w, (callFunc h args).run Tryz.prog w = .ok (.enter h args) w) :
    Calls Tryz.prog 142 #[.string s, .pointer (some ⟨c1, 0, none⟩), .pointer (some ⟨c2, 0, none⟩), .pointer (some ⟨c3, 0, none⟩)] w fun e w' => e = .returned (.int .i8 (match k (byt s) with | some got => if H (Lib.compareBytes got want) then 1 else 0 | none => 0)) ∧ Ext w w' := by
  have hq := keyerF_any w b f k hk hb s hs
  unfold keyF at h1
  cases hko : k (byt s) with
  | none =>
    rw [hko] at hq
    have hq2 : Calls Tryz.prog 138 #[.string s, .pointer (some ⟨b, 0, none⟩)] w fun e w' => e = .returned (.tuple #[.string (str []), .bool false]) ∧ Ext w w' := hq
    have ht : ∀ w, Calls Tryz.prog 43 #[.bool false] w fun e w' => e = .returned (.int .i8 0) ∧ w' = w := fun w => truth_any w false
    clear hq hk hko
    go_enter Tryz.func142, Tryz.ntmps142
    go_wp2_with (go_at_call 138; refine hq2.mono ?_; rintro _ w2 ⟨rfl, x2⟩)
    go_quiet (first | (go_at_call 43; exact Calls.quiet_of_same (ht _)))
    go_wp2
    go_ret
    exact ⟨rfl, x2.drewN _⟩
  | some got =>
    rw [hko] at hq
    have hq2 : Calls Tryz.prog 138 #[.string s, .pointer (some ⟨b, 0, none⟩)] w fun e w' => e = .returned (.tuple #[.string (str got), .bool true]) ∧ Ext w w' := hq
    have hc := fun w => Compare_any w got want
    have hh2 := fun w => hh w (Lib.compareBytes got want)
    have ht := fun w => truth_any w (H (Lib.compareBytes got want))
    show Calls _ _ _ _ fun e w' => e = .returned (.int .i8 (if H (Lib.compareBytes got want) = true then 1 else 0)) ∧ Ext w w'
    generalize (if H (Lib.compareBytes got want) = true then (1 : Int) else 0) = z at *
    generalize H (Lib.compareBytes got want) = B at *
    generalize Lib.compareBytes got want = o at *
    clear hq hk hko hh
    go_enter Tryz.func142, Tryz.ntmps142
    go_wp2_with (first | (go_at_call 138; refine hq2.mono ?_; rintro _ w2 ⟨rfl, x2⟩; have h2' := x2.cell h2; have h3' := x2.cell h3))
    go_quiet (first | (go_at_call 43; exact Calls.quiet_of_same (ht _)) | (go_at_call 143; exact Calls.quiet_of_same (hc _)) | (go_at_fn h; exact Calls.quiet_of_same (hh2 _)))
    go_wp2
    go_ret
    exact ⟨rfl, x2.drewN _⟩
end Go.Proofs.YtbioickfookjeaaGreatDoor

/-
  match: ruleOf.
-/
namespace Go.Proofs.YtbioickfookjeaaGreatDoor
open Go.RowKit

set_option maxRecDepth 100000 in
theorem Form_ok (w : World) (ht : HasRules w) (r : Nat) (hr : r < 21) :
    Calls Tryz.prog 77 #[.int .i8 (r : Int)] w fun e w' => e = .returned (.tuple #[.int .i8 (srAt r).2.2, .int .i8 (srAt r).2.1]) ∧ ∃ m, w' = w.drewN m := by
  have hi := fun w => isRule_ok w r hr
  obtain ⟨c1, c2, c3⟩ := ht r hr
  generalize (srAt r).2.2 = f at *
  generalize (srAt r).2.1 = g at *
  have hri : (r : Int) < 21 := by omega
  go_enter Tryz.func77, Tryz.ntmps77
  go_wp2_with (go_at_call 137; refine (hi _).mono ?_; rintro _ w2 ⟨rfl, rfl⟩)
  go_quiet (fail)
  go_wp2
  go_ret2
  exact ⟨rfl, _, rfl⟩
/-- sort and way of each rule -/
def doT : List (Int × Int) := [(0, 0), (1, 1), (2, 1), (3, 1), (1, 1), (2, 1), (3, 1), (1, 1), (2, 1), (3, 1), (1, 1), (3, 1), (1, 1), (2, 1), (1, 1), (1, 1), (2, 1), (1, 1), (2, 1), (1, 2), (1, 3)]
def doAt (r : Nat) : Int × Int := doT.getD r (0, 0)
def HasDoes (w : World) : Prop := ∀ r, r < 21 → w.cell? ⟨0, r * 2, none⟩ = some (.int .i8 (doAt r).1) ∧ w.cell? ⟨0, r * 2 + 1, none⟩ = some (.int .i8 (doAt r).2)
theorem HasDoes.ext {w w' : World} (h : HasDoes w) (x : Ext w w') : HasDoes w' := fun r hr => ⟨x.cell (h r hr).1, x.cell (h r hr).2⟩
def noF : Value := .func (.func 133) #[] #[]
def no1 : Value := .func (.func 134) #[] #[]
def no2 : Value := .func (.func 135) #[] #[]
def no3 : Value := .func (.func 136) #[] #[]
set_option maxRecDepth 100000 in
set_option maxHeartbeats 1000000 in
theorem ruleOf_nil (w : World) (r : Int) : Calls Tryz.prog 37 #[.pointer none, .int .i8 r] w fun e w' => e = .returned (.agg #[noF, no1, no2, no3]) ∧ Ext w w' := by
  have hn := noRule_any
  unfold noF no1 no2 no3
  have x1 : Hid (Ext w (w.alloc (.cells #[.nilFunc, .nilFunc, .nilFunc, .nilFunc] 81))) := (Ext.refl w).alloc _
  have HA := heap_alloc_new w (.cells #[.nilFunc, .nilFunc, .nilFunc, .nilFunc] 81)
  go_enter Tryz.func37, Tryz.ntmps37
  go_upto_region 1 with fail
  generalize w.alloc (.cells #[.nilFunc, .nilFunc, .nilFunc, .nilFunc] 81) = w1 at *
  generalize hg : w.heap.size = g at *
  have hgh : Hid (w.heap.size = g) := hg
  clear hg
  go_upto_region 2 with (go_at_call 76; refine (hn _).mono ?_; rintro _ w2 ⟨rfl, x2⟩)
  have HB := heap_alloc_new w2 (.cells #[.func (.func 133) #[] #[], .func (.func 134) #[] #[], .func (.func 135) #[] #[], .func (.func 136) #[] #[]] 81)
  have x3 : Ext w1 (w2.alloc (.cells #[.func (.func 133) #[] #[], .func (.func 134) #[] #[], .func (.func 135) #[] #[], .func (.func 136) #[] #[]] 81)) := x2.alloc _
  have hgB : g < w2.heap.size := by have := x2.size; have := (Array.getElem?_eq_some_iff.1 HA).1; omega
  generalize w2.alloc (.cells #[.func (.func 133) #[] #[], .func (.func 134) #[] #[], .func (.func 135) #[] #[], .func (.func 136) #[] #[]] 81) = w3 at *
  generalize w2.heap.size = B at *
  have HA3 := (x3.block _ (Array.getElem?_eq_some_iff.1 HA).1).trans HA
  have b0 := cell_of_row _ _ 0 _ _ _ HB
  have b1 := cell_of_row _ _ 1 _ _ _ HB
  have b2 := cell_of_row _ _ 2 _ _ _ HB
  have b3 := cell_of_row _ _ 3 _ _ _ HB
  have a0 := cell_of_row _ _ 0 _ _ _ HA3
  have a1 := cell_of_row _ _ 1 _ _ _ HA3
  have a2 := cell_of_row _ _ 2 _ _ _ HA3
  have a3 := cell_of_row _ _ 3 _ _ _ HA3
  simp only [List.getElem?_toArray, List.getElem?_cons_zero, List.getElem?_cons_succ] at b0 b1 b2 b3 a0 a1 a2 a3
  have fr : ∀ j, w3.frozen? ⟨g, j, none⟩ = false := fun j => by simp [World.frozen?, HA3]
  have HAh : Hid (w3.heap[g]? = _) := HA3
  have x3h : Hid (Ext w w3) := x1.out.trans x3
  clear HA HA3 HB x3 x2 hn
  go_wp2
  have H4 := set4_heap w3 g _ _ _ _ (.func (.func 133) #[] #[]) (.func (.func 134) #[] #[]) (.func (.func 135) #[] #[]) (.func (.func 136) #[] #[]) _ _ HAh.out
  refine bodyPost_ret (results_agg rfl _ _ g [.func (.func 133) #[] #[], .func (.func 134) #[] #[], .func (.func 135) #[] #[], .func (.func 136) #[] #[]] 4 rfl Tryz.isAgg81 Tryz.sizeOf81 rfl (four H4)) rfl ?_
  exact ⟨rfl, x3h.out.then (set4_only w3 g _ _ _ _) (fun k hk => by rw [hgh.out, hk]; exact Nat.le_refl _)⟩
theorem newNil {W w5 : World} {Z : Obj} (x : Ext (W.alloc Z).drew w5) : w5.heap[W.heap.size]? = some Z := (x.block _ (by show _ < (W.heap.push Z).size; simp)).trans (heap_alloc_new W Z)
theorem newMore {W w5 : World} {Z : Obj} (x : Ext (W.alloc Z).drew w5) : Ext W w5 := (((Ext.refl W).alloc Z).drew).trans x
theorem newBeh {W : World} {Z : Obj} {b : Nat} (h : (W.alloc Z).drew.heap.size ≤ b) : W.heap.size < b := by
  have e : (W.alloc Z).drew.heap.size = W.heap.size + 1 := by show (W.heap.push Z).size = _; simp
  omega
theorem setOne {w : World} {g : Nat} {d : Value} {t : TypeId} {fz : Nat × Nat} (h : w.heap[g]? = some (.cells #[d] t fz)) (c : Value) : (w.setCell ⟨g, 0, none⟩ c).heap[g]? = some (.cells #[c] t fz) := heap_setCells_at g t fz [c] 0 w [d] h (Nat.le_refl 1)
/-- how the keyer's own cell may come to stand: laid ahead of the call, or behind it -/
def Laid (W : World) (f : Int) (s8 : Value) (wx : World) : Prop := ∃ g8 b : Nat, s8 = .pointer (some ⟨g8, 0, none⟩) ∧ wx.heap[g8]? = some (.cells #[.func (.func 138) #[] #[.pointer (some ⟨b, 0, none⟩)]] 76) ∧ wx.cell? ⟨b, 0, none⟩ = some (.int .i8 f) ∧ Hid (W.heap.size ≤ g8 ∧ W.heap.size ≤ b ∧ Ext W wx)
theorem endA {W w5 : World} {f : Int} {b : Nat} {s8 : Value} {d : Value} {Z : Obj} (h8 : s8 = .pointer (some ⟨W.heap.size, 0, none⟩)) (k5 : w5.heap[W.heap.size]? = some (.cells #[d] 76 (0, 0))) (hb : w5.cell? ⟨b, 0, none⟩ = some (.int .i8 f)) (hbs : (W.alloc Z).drew.heap.size ≤ b) (x5 : Ext (W.alloc Z).drew w5) :
    Laid W f s8 (w5.setCell ⟨W.heap.size, 0, none⟩ (.func (.func 138) #[] #[.pointer (some ⟨b, 0, none⟩)])) := by
  have hne := newBeh hbs
  exact ⟨_, b, h8, setOne k5 _, ((Only.refl (fun k => k = W.heap.size) w5).setCell (p := ⟨W.heap.size, 0, none⟩) (.inl rfl) _).cell hb (by show ¬ b = W.heap.size; omega), Nat.le_refl _, by omega, ((newMore x5).setNew (Nat.le_refl _) _)⟩
theorem endB {W w5 : World} {f : Int} {b : Nat} {s8 : Value} (h8 : s8 = .pointer (some ⟨w5.heap.size, 0, none⟩)) (hb : w5.cell? ⟨b, 0, none⟩ = some (.int .i8 f)) (hbs : W.drew.heap.size ≤ b) (x5 : Ext W.drew w5) :
    Laid W f s8 (w5.alloc (.cells #[.func (.func 138) #[] #[.pointer (some ⟨b, 0, none⟩)]] 76)) :=
  ⟨_, b, h8, heap_alloc_new _ _, ((Ext.refl w5).alloc _).cell hb, ((Ext.refl W).drew.trans x5).size, hbs, ((Ext.refl W).drew.trans x5).alloc _⟩
theorem set14_only (w : World) (B g : Nat) (v1 v2 c0 c1 c2 c3 : Value) (o : Nat) : Only (fun k => k = B ∨ k = g) w (set4 ((w.setCell ⟨B, 0, none⟩ v1).setCell ⟨B, o, none⟩ v2) g c0 c1 c2 c3) :=
  (((Only.refl _ w).setCell (p := ⟨B, 0, none⟩) (.inl (.inl rfl)) _).setCell (p := ⟨B, o, none⟩) (.inl (.inl rfl)) _).then ((set4_only _ _ _ _ _ _).mono (fun _ _ hg => .inr hg))

set_option maxRecDepth 100000 in
set_option maxHeartbeats 2000000 in
theorem ruleOf_eq (w : World) (a : Addr) (ht : HasRules w) (hd : HasDoes w) (r : Nat) (hr : r < 21) (f : Int) (hs : doAt r = (1, 1)) (hf : (srAt r).2.2 = f) :
    Calls Tryz.prog 37 #[.pointer (some a), .int .i8 (r : Int)] w fun e w' => ∃ b g8, e = .returned (.agg #[keyF b, .func (.func 79) #[] #[.pointer (some ⟨g8, 0, none⟩)], no2, no3]) ∧ w'.cell? ⟨g8, 0, none⟩ = some (keyF b) ∧ w'.cell? ⟨b, 0, none⟩ = some (.int .i8 f) ∧ Ext w w' := by
  have hn := noRule_any
  have hF := fun w1 (x : Ext w w1) => (Form_ok w1 (ht.ext x) r hr).mono (R' := fun e w' => e = .returned (.tuple #[.int .i8 (srAt r).2.2, .int .i8 (srAt r).2.1]) ∧ Ext w1 w') (by rintro _ w' ⟨rfl, m, rfl⟩; exact ⟨rfl, (Ext.refl w1).drewN m⟩)
  rw [hf] at hF
  generalize (srAt r).2.1 = sy at *
  have hko := fun w1 => keyerOf_form w1 (some a) f
  have mixed : Tryz.prog.follows Departure.mixedOrders = true := mixedR
  unfold keyF at *
  obtain ⟨d1, d2⟩ := hd r hr
  have hGh : Hid (0 < w.heap.size) := World.block_lt_of_cell? w _ d1
  rw [hs] at d1 d2
  have hri : (r : Int) < 21 := by omega
  have hrn : ¬ (r : Int) < 0 := by omega
  try unfold noF
  try unfold no1
  try unfold no2
  try unfold no3
  have x1 : Hid (Ext w (w.alloc (.cells #[.nilFunc, .nilFunc, .nilFunc, .nilFunc] 81))) := (Ext.refl w).alloc _
  have HA := heap_alloc_new w (.cells #[.nilFunc, .nilFunc, .nilFunc, .nilFunc] 81)
  clear hs hf ht hd
  go_enter Tryz.func37, Tryz.ntmps37
  go_upto_region 1 with fail
  generalize w.alloc (.cells #[.nilFunc, .nilFunc, .nilFunc, .nilFunc] 81) = w1 at *
  generalize hg : w.heap.size = g at *
  have hgh : Hid (w.heap.size = g) := hg
  clear hg
  go_upto_region 2 with (go_at_call 76; refine (hn _).mono ?_; rintro _ w2 ⟨rfl, x2⟩)
  have HB := heap_alloc_new w2 (.cells #[.func (.func 133) #[] #[], .func (.func 134) #[] #[], .func (.func 135) #[] #[], .func (.func 136) #[] #[]] 81)
  have x3 : Ext w1 (w2.alloc (.cells #[.func (.func 133) #[] #[], .func (.func 134) #[] #[], .func (.func 135) #[] #[], .func (.func 136) #[] #[]] 81)) := x2.alloc _
  have hgB : g < w2.heap.size := by have := x2.size; have := (Array.getElem?_eq_some_iff.1 HA).1; omega
  generalize w2.alloc (.cells #[.func (.func 133) #[] #[], .func (.func 134) #[] #[], .func (.func 135) #[] #[], .func (.func 136) #[] #[]] 81) = w3 at *
  generalize w2.heap.size = B at *
  have hF3 := hF w3 (x1.out.trans x3)
  have HA3 := (x3.block _ (Array.getElem?_eq_some_iff.1 HA).1).trans HA
  have x03 : Hid (Ext w w3) := x1.out.trans x3
  have HAh : Hid (w3.heap[g]? = _) := HA3
  have HBh : Hid (w3.heap[B]? = _) := HB
  have gBh : Hid (g < B) := hgB
  clear hF x1 x3 x2 HA HA3 HB hgB
  go_upto_region 5 with (go_at_call 77; refine hF3.mono ?_; rintro _ w4 ⟨rfl, xF⟩)
  have hf6 := cell_of_row _ _ 0 _ _ _ (heap_alloc_new w4 (.cells #[.int .i8 f] 26))
  have x4 : Ext w3 (w4.alloc (.cells #[.int .i8 f] 26)) := xF.alloc _
  have h6B : Hid (B < w4.heap.size) := by have := (Array.getElem?_eq_some_iff.1 HBh.out).1; have := xF.size; show _ < _; omega
  simp only [List.getElem?_toArray, List.getElem?_cons_zero] at hf6
  generalize w4.alloc (.cells #[.int .i8 f] 26) = W at *
  generalize w4.heap.size = g6 at *
  clear xF
  have HAW := (x4.block _ (Array.getElem?_eq_some_iff.1 HAh.out).1).trans HAh.out
  have HBW := (x4.block _ (Array.getElem?_eq_some_iff.1 HBh.out).1).trans HBh.out
  have d1W := (x03.out.trans x4).cell d1
  have d2W := (x03.out.trans x4).cell d2
  have x0W : Hid (Ext w W) := x03.out.trans x4
  have d2Z : ∀ Z, (W.alloc Z).cell? _ = _ := fun Z => ((Ext.refl W).alloc Z).cell d2W
  have f6Z : ∀ Z, (W.alloc Z).cell? _ = _ := fun Z => ((Ext.refl W).alloc Z).cell hf6
  have HAWh : Hid (W.heap[g]? = _) := HAW
  have HBWh : Hid (W.heap[B]? = _) := HBW
  have d1h : Hid (W.cell? _ = _) := d1W
  clear HAW HBW x4 d1 d2 d1W HAh HBh x03 hF3
  go_cut [8] from 27 to 33 (fun s8 wx => Laid W f s8 wx)
  case first =>
    go_region_with_o (first
      | (go_at_call 78; refine (hko _).mono ?_; rintro _ w5 ⟨b, rfl, hb, hbs, x5⟩; with_reducible have k5 := newNil x5; have k0 : w5.cell? ⟨_, 0, none⟩ = some Value.nilFunc := cell_of_row _ _ 0 _ _ _ k5; have kf := frozen_of_row _ _ 0 _ _ k5)
      | (go_at_call 78; refine (hko _).mono ?_; rintro _ w5 ⟨b, rfl, hb, hbs, x5⟩))
    all_goals go_wp2
    all_goals go_meet
    all_goals first
      | exact endB rfl hb hbs x5
      | exact endA rfl k5 hb hbs x5
  case rest =>
    obtain ⟨g8, b, rfl, H8, hb, HX⟩ := hcut
    have a8 := cell_of_row _ _ 0 _ _ _ H8
    simp only [List.getElem?_toArray, List.getElem?_cons_zero] at a8
    have HB8 := (HX.out.2.2.block _ (Array.getElem?_eq_some_iff.1 HBWh.out).1).trans HBWh.out
    have HA8 := (HX.out.2.2.block _ (Array.getElem?_eq_some_iff.1 HAWh.out).1).trans HAWh.out
    have d1c := HX.out.2.2.cell d1h.out
    have b0 := cell_of_row _ _ 0 _ _ _ HB8
    have b1 := cell_of_row _ _ 1 _ _ _ HB8
    have b2 := cell_of_row _ _ 2 _ _ _ HB8
    have b3 := cell_of_row _ _ 3 _ _ _ HB8
    have a0 := cell_of_row _ _ 0 _ _ _ HA8
    have a1 := cell_of_row _ _ 1 _ _ _ HA8
    have a2 := cell_of_row _ _ 2 _ _ _ HA8
    have a3 := cell_of_row _ _ 3 _ _ _ HA8
    simp only [List.getElem?_toArray, List.getElem?_cons_zero, List.getElem?_cons_succ] at b0 b1 b2 b3 a0 a1 a2 a3
    have fB : ∀ j, wc.frozen? ⟨B, j, none⟩ = false := fun j => by simp [World.frozen?, HB8]
    have fA : ∀ j, wc.frozen? ⟨g, j, none⟩ = false := fun j => by simp [World.frozen?, HA8]
    have n1 : g ≠ B := by have := gBh.out; omega
    have n2 : B ≠ g := by have := gBh.out; omega
    have n3 : B ≠ 0 := by have := gBh.out; have := hGh.out; omega
    have HA8h : Hid (wc.heap[g]? = _) := HA8
    have HB8h : Hid (wc.heap[B]? = _) := HB8
    clear HA8 HB8 H8
    go_wp2
    have H4 := set4_heap ((wc.setCell ⟨B, 0, none⟩ (.func (.func 138) #[] #[.pointer (some ⟨b, 0, none⟩)])).setCell ⟨B, 1, none⟩ (.func (.func 79) #[] #[.pointer (some ⟨g8, 0, none⟩)])) g _ _ _ _ (.func (.func 138) #[] #[.pointer (some ⟨b, 0, none⟩)]) (.func (.func 79) #[] #[.pointer (some ⟨g8, 0, none⟩)]) (.func (.func 135) #[] #[]) (.func (.func 136) #[] #[]) _ _ ((Below.heap_setCell _ _ _ _ n1).trans ((Below.heap_setCell _ _ _ _ n1).trans HA8h.out))
    have O4 := set14_only wc B g (.func (.func 138) #[] #[.pointer (some ⟨b, 0, none⟩)]) (.func (.func 79) #[] #[.pointer (some ⟨g8, 0, none⟩)]) (.func (.func 138) #[] #[.pointer (some ⟨b, 0, none⟩)]) (.func (.func 79) #[] #[.pointer (some ⟨g8, 0, none⟩)]) (.func (.func 135) #[] #[]) (.func (.func 136) #[] #[]) 1
    refine bodyPost_ret (results_agg rfl _ _ g [.func (.func 138) #[] #[.pointer (some ⟨b, 0, none⟩)], .func (.func 79) #[] #[.pointer (some ⟨g8, 0, none⟩)], .func (.func 135) #[] #[], .func (.func 136) #[] #[]] 4 rfl Tryz.isAgg81 Tryz.sizeOf81 rfl (four H4)) rfl ?_
    obtain ⟨z1, z2, z3⟩ := HX.out
    have z4 := hgh.out
    have z5 := gBh.out
    have z6 := (Array.getElem?_eq_some_iff.1 HBWh.out).1
    refine ⟨b, g8, rfl, O4.cell a8 (by show ¬ (g8 = B ∨ g8 = g); omega), O4.cell hb (by show ¬ (b = B ∨ b = g); omega), (x0W.out.trans z3).then O4 (fun k hk => by omega)⟩

set_option maxRecDepth 100000 in
set_option maxHeartbeats 2000000 in
theorem ruleOf_ord (w : World) (a : Addr) (ht : HasRules w) (hd : HasDoes w) (r : Nat) (hr : r < 21) (f : Int) (hs : doAt r = (2, 1)) (hf : (srAt r).2.2 = f) :
    Calls Tryz.prog 37 #[.pointer (some a), .int .i8 (r : Int)] w fun e w' => ∃ b g8, e = .returned (.agg #[keyF b, no1, .func (.func 82) #[] #[.pointer (some ⟨g8, 0, none⟩)], no3]) ∧ w'.cell? ⟨g8, 0, none⟩ = some (keyF b) ∧ w'.cell? ⟨b, 0, none⟩ = some (.int .i8 f) ∧ Ext w w' := by
  have hn := noRule_any
  have hF := fun w1 (x : Ext w w1) => (Form_ok w1 (ht.ext x) r hr).mono (R' := fun e w' => e = .returned (.tuple #[.int .i8 (srAt r).2.2, .int .i8 (srAt r).2.1]) ∧ Ext w1 w') (by rintro _ w' ⟨rfl, m, rfl⟩; exact ⟨rfl, (Ext.refl w1).drewN m⟩)
  rw [hf] at hF
  generalize (srAt r).2.1 = sy at *
  have hko := fun w1 => keyerOf_form w1 (some a) f
  have mixed : Tryz.prog.follows Departure.mixedOrders = true := mixedR
  unfold keyF at *
  obtain ⟨d1, d2⟩ := hd r hr
  have hGh : Hid (0 < w.heap.size) := World.block_lt_of_cell? w _ d1
  rw [hs] at d1 d2
  have hri : (r : Int) < 21 := by omega
  have hrn : ¬ (r : Int) < 0 := by omega
  try unfold noF
  try unfold no1
  try unfold no2
  try unfold no3
  have x1 : Hid (Ext w (w.alloc (.cells #[.nilFunc, .nilFunc, .nilFunc, .nilFunc] 81))) := (Ext.refl w).alloc _
  have HA := heap_alloc_new w (.cells #[.nilFunc, .nilFunc, .nilFunc, .nilFunc] 81)
  clear hs hf ht hd
  go_enter Tryz.func37, Tryz.ntmps37
  go_upto_region 1 with fail
  generalize w.alloc (.cells #[.nilFunc, .nilFunc, .nilFunc, .nilFunc] 81) = w1 at *
  generalize hg : w.heap.size = g at *
  have hgh : Hid (w.heap.size = g) := hg
  clear hg
  go_upto_region 2 with (go_at_call 76; refine (hn _).mono ?_; rintro _ w2 ⟨rfl, x2⟩)
  have HB := heap_alloc_new w2 (.cells #[.func (.func 133) #[] #[], .func (.func 134) #[] #[], .func (.func 135) #[] #[], .func (.func 136) #[] #[]] 81)
  have x3 : Ext w1 (w2.alloc (.cells #[.func (.func 133) #[] #[], .func (.func 134) #[] #[], .func (.func 135) #[] #[], .func (.func 136) #[] #[]] 81)) := x2.alloc _
  have hgB : g < w2.heap.size := by have := x2.size; have := (Array.getElem?_eq_some_iff.1 HA).1; omega
  generalize w2.alloc (.cells #[.func (.func 133) #[] #[], .func (.func 134) #[] #[], .func (.func 135) #[] #[], .func (.func 136) #[] #[]] 81) = w3 at *
  generalize w2.heap.size = B at *
  have hF3 := hF w3 (x1.out.trans x3)
  have HA3 := (x3.block _ (Array.getElem?_eq_some_iff.1 HA).1).trans HA
  have x03 : Hid (Ext w w3) := x1.out.trans x3
  have HAh : Hid (w3.heap[g]? = _) := HA3
  have HBh : Hid (w3.heap[B]? = _) := HB
  have gBh : Hid (g < B) := hgB
  clear hF x1 x3 x2 HA HA3 HB hgB
  go_upto_region 5 with (go_at_call 77; refine hF3.mono ?_; rintro _ w4 ⟨rfl, xF⟩)
  have hf6 := cell_of_row _ _ 0 _ _ _ (heap_alloc_new w4 (.cells #[.int .i8 f] 26))
  have x4 : Ext w3 (w4.alloc (.cells #[.int .i8 f] 26)) := xF.alloc _
  have h6B : Hid (B < w4.heap.size) := by have := (Array.getElem?_eq_some_iff.1 HBh.out).1; have := xF.size; show _ < _; omega
  simp only [List.getElem?_toArray, List.getElem?_cons_zero] at hf6
  generalize w4.alloc (.cells #[.int .i8 f] 26) = W at *
  generalize w4.heap.size = g6 at *
  clear xF
  have HAW := (x4.block _ (Array.getElem?_eq_some_iff.1 HAh.out).1).trans HAh.out
  have HBW := (x4.block _ (Array.getElem?_eq_some_iff.1 HBh.out).1).trans HBh.out
  have d1W := (x03.out.trans x4).cell d1
  have d2W := (x03.out.trans x4).cell d2
  have x0W : Hid (Ext w W) := x03.out.trans x4
  have d2Z : ∀ Z, (W.alloc Z).cell? _ = _ := fun Z => ((Ext.refl W).alloc Z).cell d2W
  have f6Z : ∀ Z, (W.alloc Z).cell? _ = _ := fun Z => ((Ext.refl W).alloc Z).cell hf6
  have HAWh : Hid (W.heap[g]? = _) := HAW
  have HBWh : Hid (W.heap[B]? = _) := HBW
  have d1h : Hid (W.cell? _ = _) := d1W
  clear HAW HBW x4 d1 d2 d1W HAh HBh x03 hF3
  go_cut [8] from 27 to 33 (fun s8 wx => Laid W f s8 wx)
  case first =>
    go_region_with_o (first
      | (go_at_call 78; refine (hko _).mono ?_; rintro _ w5 ⟨b, rfl, hb, hbs, x5⟩; with_reducible have k5 := newNil x5; have k0 : w5.cell? ⟨_, 0, none⟩ = some Value.nilFunc := cell_of_row _ _ 0 _ _ _ k5; have kf := frozen_of_row _ _ 0 _ _ k5)
      | (go_at_call 78; refine (hko _).mono ?_; rintro _ w5 ⟨b, rfl, hb, hbs, x5⟩))
    all_goals go_wp2
    all_goals go_meet
    all_goals first
      | exact endB rfl hb hbs x5
      | exact endA rfl k5 hb hbs x5
  case rest =>
    obtain ⟨g8, b, rfl, H8, hb, HX⟩ := hcut
    have a8 := cell_of_row _ _ 0 _ _ _ H8
    simp only [List.getElem?_toArray, List.getElem?_cons_zero] at a8
    have HB8 := (HX.out.2.2.block _ (Array.getElem?_eq_some_iff.1 HBWh.out).1).trans HBWh.out
    have HA8 := (HX.out.2.2.block _ (Array.getElem?_eq_some_iff.1 HAWh.out).1).trans HAWh.out
    have d1c := HX.out.2.2.cell d1h.out
    have b0 := cell_of_row _ _ 0 _ _ _ HB8
    have b1 := cell_of_row _ _ 1 _ _ _ HB8
    have b2 := cell_of_row _ _ 2 _ _ _ HB8
    have b3 := cell_of_row _ _ 3 _ _ _ HB8
    have a0 := cell_of_row _ _ 0 _ _ _ HA8
    have a1 := cell_of_row _ _ 1 _ _ _ HA8
    have a2 := cell_of_row _ _ 2 _ _ _ HA8
    have a3 := cell_of_row _ _ 3 _ _ _ HA8
    simp only [List.getElem?_toArray, List.getElem?_cons_zero, List.getElem?_cons_succ] at b0 b1 b2 b3 a0 a1 a2 a3
    have fB : ∀ j, wc.frozen? ⟨B, j, none⟩ = false := fun j => by simp [World.frozen?, HB8]
    have fA : ∀ j, wc.frozen? ⟨g, j, none⟩ = false := fun j => by simp [World.frozen?, HA8]
    have n1 : g ≠ B := by have := gBh.out; omega
    have n2 : B ≠ g := by have := gBh.out; omega
    have n3 : B ≠ 0 := by have := gBh.out; have := hGh.out; omega
    have HA8h : Hid (wc.heap[g]? = _) := HA8
    have HB8h : Hid (wc.heap[B]? = _) := HB8
    clear HA8 HB8 H8
    go_wp2
    have H4 := set4_heap ((wc.setCell ⟨B, 0, none⟩ (.func (.func 138) #[] #[.pointer (some ⟨b, 0, none⟩)])).setCell ⟨B, 2, none⟩ (.func (.func 82) #[] #[.pointer (some ⟨g8, 0, none⟩)])) g _ _ _ _ (.func (.func 138) #[] #[.pointer (some ⟨b, 0, none⟩)]) (.func (.func 134) #[] #[]) (.func (.func 82) #[] #[.pointer (some ⟨g8, 0, none⟩)]) (.func (.func 136) #[] #[]) _ _ ((Below.heap_setCell _ _ _ _ n1).trans ((Below.heap_setCell _ _ _ _ n1).trans HA8h.out))
    have O4 := set14_only wc B g (.func (.func 138) #[] #[.pointer (some ⟨b, 0, none⟩)]) (.func (.func 82) #[] #[.pointer (some ⟨g8, 0, none⟩)]) (.func (.func 138) #[] #[.pointer (some ⟨b, 0, none⟩)]) (.func (.func 134) #[] #[]) (.func (.func 82) #[] #[.pointer (some ⟨g8, 0, none⟩)]) (.func (.func 136) #[] #[]) 2
    refine bodyPost_ret (results_agg rfl _ _ g [.func (.func 138) #[] #[.pointer (some ⟨b, 0, none⟩)], .func (.func 134) #[] #[], .func (.func 82) #[] #[.pointer (some ⟨g8, 0, none⟩)], .func (.func 136) #[] #[]] 4 rfl Tryz.isAgg81 Tryz.sizeOf81 rfl (four H4)) rfl ?_
    obtain ⟨z1, z2, z3⟩ := HX.out
    have z4 := hgh.out
    have z5 := gBh.out
    have z6 := (Array.getElem?_eq_some_iff.1 HBWh.out).1
    refine ⟨b, g8, rfl, O4.cell a8 (by show ¬ (g8 = B ∨ g8 = g); omega), O4.cell hb (by show ¬ (b = B ∨ b = g); omega), (x0W.out.trans z3).then O4 (fun k hk => by omega)⟩

set_option maxRecDepth 100000 in
set_option maxHeartbeats 2000000 in
theorem ruleOf_part (w : World) (a : Addr) (ht : HasRules w) (hd : HasDoes w) (r : Nat) (hr : r < 21) (f : Int) (hs : doAt r = (3, 1)) (hf : (srAt r).2.2 = f) :
    Calls Tryz.prog 37 #[.pointer (some a), .int .i8 (r : Int)] w fun e w' => ∃ b g8 g6, e = .returned (.agg #[keyF b, no1, no2, .func (.func 83) #[] #[.pointer (some ⟨g6, 0, none⟩), .pointer (some ⟨g8, 0, none⟩)]]) ∧ w'.cell? ⟨g8, 0, none⟩ = some (keyF b) ∧ w'.cell? ⟨b, 0, none⟩ = some (.int .i8 f) ∧ w'.cell? ⟨g6, 0, none⟩ = some (.int .i8 f) ∧ Ext w w' := by
  have hn := noRule_any
  have hF := fun w1 (x : Ext w w1) => (Form_ok w1 (ht.ext x) r hr).mono (R' := fun e w' => e = .returned (.tuple #[.int .i8 (srAt r).2.2, .int .i8 (srAt r).2.1]) ∧ Ext w1 w') (by rintro _ w' ⟨rfl, m, rfl⟩; exact ⟨rfl, (Ext.refl w1).drewN m⟩)
  rw [hf] at hF
  generalize (srAt r).2.1 = sy at *
  have hko := fun w1 => keyerOf_form w1 (some a) f
  have mixed : Tryz.prog.follows Departure.mixedOrders = true := mixedR
  unfold keyF at *
  obtain ⟨d1, d2⟩ := hd r hr
  have hGh : Hid (0 < w.heap.size) := World.block_lt_of_cell? w _ d1
  rw [hs] at d1 d2
  have hri : (r : Int) < 21 := by omega
  have hrn : ¬ (r : Int) < 0 := by omega
  try unfold noF
  try unfold no1
  try unfold no2
  try unfold no3
  have x1 : Hid (Ext w (w.alloc (.cells #[.nilFunc, .nilFunc, .nilFunc, .nilFunc] 81))) := (Ext.refl w).alloc _
  have HA := heap_alloc_new w (.cells #[.nilFunc, .nilFunc, .nilFunc, .nilFunc] 81)
  clear hs hf ht hd
  go_enter Tryz.func37, Tryz.ntmps37
  go_upto_region 1 with fail
  generalize w.alloc (.cells #[.nilFunc, .nilFunc, .nilFunc, .nilFunc] 81) = w1 at *
  generalize hg : w.heap.size = g at *
  have hgh : Hid (w.heap.size = g) := hg
  clear hg
  go_upto_region 2 with (go_at_call 76; refine (hn _).mono ?_; rintro _ w2 ⟨rfl, x2⟩)
  have HB := heap_alloc_new w2 (.cells #[.func (.func 133) #[] #[], .func (.func 134) #[] #[], .func (.func 135) #[] #[], .func (.func 136) #[] #[]] 81)
  have x3 : Ext w1 (w2.alloc (.cells #[.func (.func 133) #[] #[], .func (.func 134) #[] #[], .func (.func 135) #[] #[], .func (.func 136) #[] #[]] 81)) := x2.alloc _
  have hgB : g < w2.heap.size := by have := x2.size; have := (Array.getElem?_eq_some_iff.1 HA).1; omega
  generalize w2.alloc (.cells #[.func (.func 133) #[] #[], .func (.func 134) #[] #[], .func (.func 135) #[] #[], .func (.func 136) #[] #[]] 81) = w3 at *
  generalize w2.heap.size = B at *
  have hF3 := hF w3 (x1.out.trans x3)
  have HA3 := (x3.block _ (Array.getElem?_eq_some_iff.1 HA).1).trans HA
  have x03 : Hid (Ext w w3) := x1.out.trans x3
  have HAh : Hid (w3.heap[g]? = _) := HA3
  have HBh : Hid (w3.heap[B]? = _) := HB
  have gBh : Hid (g < B) := hgB
  clear hF x1 x3 x2 HA HA3 HB hgB
  go_upto_region 5 with (go_at_call 77; refine hF3.mono ?_; rintro _ w4 ⟨rfl, xF⟩)
  have hf6 := cell_of_row _ _ 0 _ _ _ (heap_alloc_new w4 (.cells #[.int .i8 f] 26))
  have x4 : Ext w3 (w4.alloc (.cells #[.int .i8 f] 26)) := xF.alloc _
  have h6B : Hid (B < w4.heap.size) := by have := (Array.getElem?_eq_some_iff.1 HBh.out).1; have := xF.size; show _ < _; omega
  simp only [List.getElem?_toArray, List.getElem?_cons_zero] at hf6
  generalize w4.alloc (.cells #[.int .i8 f] 26) = W at *
  generalize w4.heap.size = g6 at *
  clear xF
  have HAW := (x4.block _ (Array.getElem?_eq_some_iff.1 HAh.out).1).trans HAh.out
  have HBW := (x4.block _ (Array.getElem?_eq_some_iff.1 HBh.out).1).trans HBh.out
  have d1W := (x03.out.trans x4).cell d1
  have d2W := (x03.out.trans x4).cell d2
  have x0W : Hid (Ext w W) := x03.out.trans x4
  have d2Z : ∀ Z, (W.alloc Z).cell? _ = _ := fun Z => ((Ext.refl W).alloc Z).cell d2W
  have f6Z : ∀ Z, (W.alloc Z).cell? _ = _ := fun Z => ((Ext.refl W).alloc Z).cell hf6
  have HAWh : Hid (W.heap[g]? = _) := HAW
  have HBWh : Hid (W.heap[B]? = _) := HBW
  have d1h : Hid (W.cell? _ = _) := d1W
  clear HAW HBW x4 d1 d2 d1W HAh HBh x03 hF3
  go_cut [8] from 27 to 33 (fun s8 wx => Laid W f s8 wx)
  case first =>
    go_region_with_o (first
      | (go_at_call 78; refine (hko _).mono ?_; rintro _ w5 ⟨b, rfl, hb, hbs, x5⟩; with_reducible have k5 := newNil x5; have k0 : w5.cell? ⟨_, 0, none⟩ = some Value.nilFunc := cell_of_row _ _ 0 _ _ _ k5; have kf := frozen_of_row _ _ 0 _ _ k5)
      | (go_at_call 78; refine (hko _).mono ?_; rintro _ w5 ⟨b, rfl, hb, hbs, x5⟩))
    all_goals go_wp2
    all_goals go_meet
    all_goals first
      | exact endB rfl hb hbs x5
      | exact endA rfl k5 hb hbs x5
  case rest =>
    obtain ⟨g8, b, rfl, H8, hb, HX⟩ := hcut
    have a8 := cell_of_row _ _ 0 _ _ _ H8
    simp only [List.getElem?_toArray, List.getElem?_cons_zero] at a8
    have HB8 := (HX.out.2.2.block _ (Array.getElem?_eq_some_iff.1 HBWh.out).1).trans HBWh.out
    have HA8 := (HX.out.2.2.block _ (Array.getElem?_eq_some_iff.1 HAWh.out).1).trans HAWh.out
    have d1c := HX.out.2.2.cell d1h.out
    have b0 := cell_of_row _ _ 0 _ _ _ HB8
    have b1 := cell_of_row _ _ 1 _ _ _ HB8
    have b2 := cell_of_row _ _ 2 _ _ _ HB8
    have b3 := cell_of_row _ _ 3 _ _ _ HB8
    have a0 := cell_of_row _ _ 0 _ _ _ HA8
    have a1 := cell_of_row _ _ 1 _ _ _ HA8
    have a2 := cell_of_row _ _ 2 _ _ _ HA8
    have a3 := cell_of_row _ _ 3 _ _ _ HA8
    simp only [List.getElem?_toArray, List.getElem?_cons_zero, List.getElem?_cons_succ] at b0 b1 b2 b3 a0 a1 a2 a3
    have fB : ∀ j, wc.frozen? ⟨B, j, none⟩ = false := fun j => by simp [World.frozen?, HB8]
    have fA : ∀ j, wc.frozen? ⟨g, j, none⟩ = false := fun j => by simp [World.frozen?, HA8]
    have n1 : g ≠ B := by have := gBh.out; omega
    have n2 : B ≠ g := by have := gBh.out; omega
    have n3 : B ≠ 0 := by have := gBh.out; have := hGh.out; omega
    have HA8h : Hid (wc.heap[g]? = _) := HA8
    have HB8h : Hid (wc.heap[B]? = _) := HB8
    clear HA8 HB8 H8
    go_wp2
    have H4 := set4_heap ((wc.setCell ⟨B, 0, none⟩ (.func (.func 138) #[] #[.pointer (some ⟨b, 0, none⟩)])).setCell ⟨B, 3, none⟩ (.func (.func 83) #[] #[.pointer (some ⟨g6, 0, none⟩), .pointer (some ⟨g8, 0, none⟩)])) g _ _ _ _ (.func (.func 138) #[] #[.pointer (some ⟨b, 0, none⟩)]) (.func (.func 134) #[] #[]) (.func (.func 135) #[] #[]) (.func (.func 83) #[] #[.pointer (some ⟨g6, 0, none⟩), .pointer (some ⟨g8, 0, none⟩)]) _ _ ((Below.heap_setCell _ _ _ _ n1).trans ((Below.heap_setCell _ _ _ _ n1).trans HA8h.out))
    have O4 := set14_only wc B g (.func (.func 138) #[] #[.pointer (some ⟨b, 0, none⟩)]) (.func (.func 83) #[] #[.pointer (some ⟨g6, 0, none⟩), .pointer (some ⟨g8, 0, none⟩)]) (.func (.func 138) #[] #[.pointer (some ⟨b, 0, none⟩)]) (.func (.func 134) #[] #[]) (.func (.func 135) #[] #[]) (.func (.func 83) #[] #[.pointer (some ⟨g6, 0, none⟩), .pointer (some ⟨g8, 0, none⟩)]) 3
    refine bodyPost_ret (results_agg rfl _ _ g [.func (.func 138) #[] #[.pointer (some ⟨b, 0, none⟩)], .func (.func 134) #[] #[], .func (.func 135) #[] #[], .func (.func 83) #[] #[.pointer (some ⟨g6, 0, none⟩), .pointer (some ⟨g8, 0, none⟩)]] 4 rfl Tryz.isAgg81 Tryz.sizeOf81 rfl (four H4)) rfl ?_
    obtain ⟨z1, z2, z3⟩ := HX.out
    have z4 := hgh.out
    have z5 := gBh.out
    have z6 := (Array.getElem?_eq_some_iff.1 HBWh.out).1
    refine ⟨b, g8, g6, rfl, O4.cell a8 (by show ¬ (g8 = B ∨ g8 = g); omega), O4.cell hb (by show ¬ (b = B ∨ b = g); omega), O4.cell (z3.cell hf6) (by show ¬ (g6 = B ∨ g6 = g); have := h6B.out; omega), (x0W.out.trans z3).then O4 (fun k hk => by omega)⟩
end Go.Proofs.YtbioickfookjeaaGreatDoor

/-
  match: Key, Equal, From, UpTo of rules that make keys by forms; of no schema.
-/
namespace Go.Proofs.YtbioickfookjeaaGreatDoor
open Go.RowKit

theorem fld0 (w : World) (a b c d : Value) : (Instr.field 81 (.agg #[a, b, c, d]) 0).run Tryz.prog w = .ok a w := by kernel_rfl
theorem fld1 (w : World) (a b c d : Value) : (Instr.field 81 (.agg #[a, b, c, d]) 1).run Tryz.prog w = .ok b w := by kernel_rfl
theorem fld2 (w : World) (a b c d : Value) : (Instr.field 81 (.agg #[a, b, c, d]) 2).run Tryz.prog w = .ok c w := by kernel_rfl
theorem fld3 (w : World) (a b c d : Value) : (Instr.field 81 (.agg #[a, b, c, d]) 3).run Tryz.prog w = .ok d w := by kernel_rfl
def cmpZ (H : Int → Bool) (o : Option (List UInt8)) (want : List UInt8) : Int := match o with | some got => if H (Lib.compareBytes got want) then 1 else 0 | none => 0
theorem cmpF_z (w : World) (b : Nat) (f : Int) (k : List UInt8 → Option (List UInt8)) (hk : KeyOf w f k) (hb : w.cell? ⟨b, 0, none⟩ = some (.int .i8 f)) (s : ByteArray) (hs : s.size ≤ 65536) (h : FuncId) (H : Int → Bool) (want : List UInt8) (c1 c2 c3 : Nat)
    (h1 : w.cell? ⟨c1, 0, none⟩ = some (keyF b)) (h2 : w.cell? ⟨c2, 0, none⟩ = some (.func (.func h) #[] #[])) (h3 : w.cell? ⟨c3, 0, none⟩ = some (.string (str want))) (hh : ∀ w o, Calls Tryz.prog h #[.int .i64 o] w fun e w' => e = .returned (.bool (H o)) ∧ w' = w) (he : ∀ args w, (callFunc h args).run Tryz.prog w = .ok (.enter h args) w) (z : Int) (hz : cmpZ H (k (byt s)) want = z) :
    Calls Tryz.prog 142 #[.string s, .pointer (some ⟨c1, 0, none⟩), .pointer (some ⟨c2, 0, none⟩), .pointer (some ⟨c3, 0, none⟩)] w fun e w' => e = .returned (.int .i8 z) ∧ Ext w w' := by
  subst hz
  exact cmpF_any w b f k hk hb s hs h H want c1 c2 c3 h1 h2 h3 hh he
set_option maxRecDepth 100000 in
theorem Key_eq (w : World) (a : Addr) (ht : HasRules w) (hd : HasDoes w) (r : Nat) (hr : r < 21) (f : Int) (hs : doAt r = (1, 1)) (hf : (srAt r).2.2 = f) (k : List UInt8 → Option (List UInt8)) (hk : KeyOf w f k) (s : ByteArray) (hz : s.size ≤ 65536) :
    Calls Tryz.prog 12 #[.pointer (some a), .int .i8 (r : Int), .string s] w fun e w' => e = .returned (ans (k (byt s))) ∧ Ext w w' := by
  have h1 := ruleOf_eq w a ht hd r hr f hs hf
  have hq := fun w1 b (x : Ext w w1) (hb : w1.cell? ⟨b, 0, none⟩ = some (.int .i8 f)) => keyerF_any w1 b f k (hk.ext x) hb s hz
  generalize k (byt s) = o at *
  simp only [ans] at hq ⊢
  unfold keyF no2 no3 at h1
  clear ht hd hs hf hk
  have hfd := fld0
  go_enter Tryz.func12, Tryz.ntmps12
  go_wp2_with (first | (go_at_call 37; refine h1.mono ?_; rintro _ w2 ⟨b, g8, rfl, e8, hb, x2⟩) | (go_at_call 138; refine (hq _ _ x2 hb).mono ?_; rintro _ w3 ⟨rfl, x3⟩))
  go_ret2
  exact ⟨rfl, x2.trans x3⟩
set_option maxRecDepth 100000 in
theorem Key_nil (w : World) (r : Int) (s : ByteArray) : Calls Tryz.prog 12 #[.pointer none, .int .i8 r, .string s] w fun e w' => e = .returned (.tuple #[.string ⟨#[]⟩, .bool false]) ∧ Ext w w' := by
  have h1 := ruleOf_nil w r
  have hq := fun w => noKey_any w s
  unfold noF no1 no2 no3 at h1
  have hfd := fld0
  go_enter Tryz.func12, Tryz.ntmps12
  go_wp2_with (first | (go_at_call 37; refine h1.mono ?_; rintro _ w2 ⟨rfl, x2⟩) | (go_at_call 133; refine (hq _).mono ?_; rintro _ w3 ⟨rfl, rfl⟩))
  go_ret2
  exact ⟨rfl, x2⟩
set_option maxRecDepth 100000 in
theorem Equal_nil (w : World) (r : Int) (s t : ByteArray) : Calls Tryz.prog 17 #[.pointer none, .int .i8 r, .string s, .string t] w fun e w' => e = .returned (.int .i8 2) ∧ Ext w w' := by
  have h1 := ruleOf_nil w r
  have hq := fun w => noRule1_any w t
  have hu := fun w => unknown_any w s
  unfold noF no1 no2 no3 at h1
  have hfd := fld1
  go_enter Tryz.func17, Tryz.ntmps17
  go_wp2_with (first | (go_at_call 37; refine h1.mono ?_; rintro _ w2 ⟨rfl, x2⟩) | (go_at_call 134; refine (hq _).mono ?_; rintro _ w3 ⟨rfl, rfl⟩) | (go_at_call 85; refine (hu _).mono ?_; rintro _ w4 ⟨rfl, rfl⟩))
  go_ret
  exact ⟨rfl, x2⟩
set_option maxRecDepth 100000 in
theorem From_nil (w : World) (r : Int) (s t : ByteArray) : Calls Tryz.prog 23 #[.pointer none, .int .i8 r, .string s, .string t] w fun e w' => e = .returned (.int .i8 2) ∧ Ext w w' := by
  have h1 := ruleOf_nil w r
  have hq := fun w v => noRule2_any w t v
  have hu := fun w => unknown_any w s
  unfold noF no1 no2 no3 at h1
  have hfd := fld2
  go_enter Tryz.func23, Tryz.ntmps23
  go_wp2_with (first | (go_at_call 37; refine h1.mono ?_; rintro _ w2 ⟨rfl, x2⟩) | (go_at_call 135; refine (hq _ _).mono ?_; rintro _ w3 ⟨rfl, rfl⟩) | (go_at_call 85; refine (hu _).mono ?_; rintro _ w4 ⟨rfl, rfl⟩))
  go_ret
  exact ⟨rfl, x2⟩
set_option maxRecDepth 100000 in
theorem UpTo_nil (w : World) (r : Int) (s t : ByteArray) : Calls Tryz.prog 24 #[.pointer none, .int .i8 r, .string s, .string t] w fun e w' => e = .returned (.int .i8 2) ∧ Ext w w' := by
  have h1 := ruleOf_nil w r
  have hq := fun w v => noRule2_any w t v
  have hu := fun w => unknown_any w s
  unfold noF no1 no2 no3 at h1
  have hfd := fld2
  go_enter Tryz.func24, Tryz.ntmps24
  go_wp2_with (first | (go_at_call 37; refine h1.mono ?_; rintro _ w2 ⟨rfl, x2⟩) | (go_at_call 135; refine (hq _ _).mono ?_; rintro _ w3 ⟨rfl, rfl⟩) | (go_at_call 85; refine (hu _).mono ?_; rintro _ w4 ⟨rfl, rfl⟩))
  go_ret
  exact ⟨rfl, x2⟩
set_option maxRecDepth 100000 in
theorem Part_nil (w : World) (r : Int) (s t u : ByteArray) (v : Value) : Calls Tryz.prog 27 #[.pointer none, .int .i8 r, .string s, .string t, v, .string u] w fun e w' => e = .returned (.int .i8 2) ∧ Ext w w' := by
  have h1 := ruleOf_nil w r
  have hq := fun w => noRule3_any w t v u
  have hu := fun w => unknown_any w s
  unfold noF no1 no2 no3 at h1
  have hfd := fld3
  go_enter Tryz.func27, Tryz.ntmps27
  go_wp2_with (first | (go_at_call 37; refine h1.mono ?_; rintro _ w2 ⟨rfl, x2⟩) | (go_at_call 136; refine (hq _).mono ?_; rintro _ w3 ⟨rfl, rfl⟩) | (go_at_call 85; refine (hu _).mono ?_; rintro _ w4 ⟨rfl, rfl⟩))
  go_ret
  exact ⟨rfl, x2⟩
set_option maxRecDepth 100000 in
theorem rule1_none (w : World) (b g8 : Nat) (f : Int) (k : List UInt8 → Option (List UInt8)) (hk : KeyOf w f k) (hb : w.cell? ⟨b, 0, none⟩ = some (.int .i8 f)) (h8 : w.cell? ⟨g8, 0, none⟩ = some (keyF b)) (s : ByteArray) (hs : s.size ≤ 65536) (ho : k (byt s) = none) :
    Calls Tryz.prog 79 #[.string s, .pointer (some ⟨g8, 0, none⟩)] w fun e w' => e = .returned (.func (.func 85) #[] #[]) ∧ Ext w w' := by
  have hc := compare_none w b f k hk hb s hs 81 ho
  unfold keyF at hc h8
  clear hk ho
  go_enter Tryz.func79, Tryz.ntmps79
  go_wp2_with (go_at_call 80; refine hc.mono ?_; rintro _ w2 ⟨rfl, x2⟩)
  go_ret
  exact ⟨rfl, x2⟩
set_option maxRecDepth 100000 in
theorem rule1_some (w : World) (b g8 : Nat) (f : Int) (k : List UInt8 → Option (List UInt8)) (hk : KeyOf w f k) (hb : w.cell? ⟨b, 0, none⟩ = some (.int .i8 f)) (h8 : w.cell? ⟨g8, 0, none⟩ = some (keyF b)) (s : ByteArray) (hs : s.size ≤ 65536) (want : List UInt8) (ho : k (byt s) = some want) :
    Calls Tryz.prog 79 #[.string s, .pointer (some ⟨g8, 0, none⟩)] w fun e w' => ∃ c1 c2 c3, e = .returned (cmpF c1 c2 c3) ∧ w'.cell? ⟨c1, 0, none⟩ = some (keyF b) ∧ w'.cell? ⟨c2, 0, none⟩ = some (.func (.func 81) #[] #[]) ∧ w'.cell? ⟨c3, 0, none⟩ = some (.string (str want)) ∧ Ext w w' := by
  have hc := compare_some w b f k hk hb s hs 81 want ho
  unfold keyF at *
  unfold cmpF at *
  clear hk ho
  go_enter Tryz.func79, Tryz.ntmps79
  go_wp2_with (go_at_call 80; refine hc.mono ?_; rintro _ w2 ⟨c1, c2, c3, rfl, hx⟩)
  go_ret
  exact ⟨_, _, _, rfl, hx⟩
set_option maxRecDepth 100000 in
theorem rule2_some (w : World) (b g8 : Nat) (f : Int) (k : List UInt8 → Option (List UInt8)) (hk : KeyOf w f k) (hb : w.cell? ⟨b, 0, none⟩ = some (.int .i8 f)) (h8 : w.cell? ⟨g8, 0, none⟩ = some (keyF b)) (s : ByteArray) (hs : s.size ≤ 65536) (h : FuncId) (want : List UInt8) (ho : k (byt s) = some want) :
    Calls Tryz.prog 82 #[.string s, .func (.func h) #[] #[], .pointer (some ⟨g8, 0, none⟩)] w fun e w' => ∃ c1 c2 c3, e = .returned (cmpF c1 c2 c3) ∧ w'.cell? ⟨c1, 0, none⟩ = some (keyF b) ∧ w'.cell? ⟨c2, 0, none⟩ = some (.func (.func h) #[] #[]) ∧ w'.cell? ⟨c3, 0, none⟩ = some (.string (str want)) ∧ Ext w w' := by
  have hc := compare_some w b f k hk hb s hs h want ho
  unfold keyF at *
  unfold cmpF at *
  clear hk ho
  go_enter Tryz.func82, Tryz.ntmps82
  go_wp2_with (go_at_call 80; refine hc.mono ?_; rintro _ w2 ⟨c1, c2, c3, rfl, hx⟩)
  go_ret
  exact ⟨_, _, _, rfl, hx⟩
set_option maxRecDepth 100000 in
theorem Equal_none (w : World) (a : Addr) (ht : HasRules w) (hd : HasDoes w) (r : Nat) (hr : r < 21) (f : Int) (hs : doAt r = (1, 1)) (hf : (srAt r).2.2 = f) (k : List UInt8 → Option (List UInt8)) (hk : KeyOf w f k) (s t : ByteArray) (hz : t.size ≤ 65536) (ho : k (byt t) = none) :
    Calls Tryz.prog 17 #[.pointer (some a), .int .i8 (r : Int), .string s, .string t] w fun e w' => e = .returned (.int .i8 2) ∧ Ext w w' := by
  have h1 := ruleOf_eq w a ht hd r hr f hs hf
  have hq := fun w1 b g8 (x : Ext w w1) hb h8 => rule1_none w1 b g8 f k (hk.ext x) hb h8 t hz ho
  have hu := fun w => unknown_any w s
  unfold keyF no2 no3 at *
  clear ht hd hs hf hk ho
  have hfd := fld1
  go_enter Tryz.func17, Tryz.ntmps17
  go_wp2_with (first | (go_at_call 37; refine h1.mono ?_; rintro _ w2 ⟨b, g8, rfl, e8, hb, x2⟩) | (go_at_call 79; refine (hq _ _ _ x2 hb e8).mono ?_; rintro _ w3 ⟨rfl, x3⟩) | (go_at_call 85; refine (hu _).mono ?_; rintro _ w4 ⟨rfl, rfl⟩))
  go_ret
  exact ⟨rfl, x2.trans x3⟩
set_option maxRecDepth 100000 in
theorem Equal_some (w : World) (a : Addr) (ht : HasRules w) (hd : HasDoes w) (r : Nat) (hr : r < 21) (f : Int) (hs : doAt r = (1, 1)) (hf : (srAt r).2.2 = f) (k : List UInt8 → Option (List UInt8)) (hk : KeyOf w f k) (s t : ByteArray) (hy : s.size ≤ 65536) (hz : t.size ≤ 65536) (want : List UInt8) (ho : k (byt t) = some want) (z : Int) (hzz : cmpZ (fun o => decide (o = 0)) (k (byt s)) want = z) :
    Calls Tryz.prog 17 #[.pointer (some a), .int .i8 (r : Int), .string s, .string t] w fun e w' => e = .returned (.int .i8 z) ∧ Ext w w' := by
  have h1 := ruleOf_eq w a ht hd r hr f hs hf
  have hq := fun w1 b g8 (x : Ext w w1) hb h8 => rule1_some w1 b g8 f k (hk.ext x) hb h8 t hz want ho
  have hc := fun w1 b c1 c2 c3 (x : Ext w w1) hb h1 h2 h3 => cmpF_z w1 b f k (hk.ext x) hb s hy 81 (fun o => decide (o = 0)) want c1 c2 c3 h1 h2 h3 isSame_any (enters_of Tryz.func81 (by kernel_rfl) rfl) z hzz
  unfold keyF no2 no3 at *
  unfold cmpF at *
  clear ht hd hs hf hk ho hzz
  have hfd := fld1
  go_enter Tryz.func17, Tryz.ntmps17
  go_wp2_with (first | (go_at_call 37; refine h1.mono ?_; rintro _ w2 ⟨b, g8, rfl, e8, hb, x2⟩) | (go_at_call 79; refine (hq _ _ _ x2 hb e8).mono ?_; rintro _ w3 ⟨c1, c2, c3, rfl, d1, d2, d3, x3⟩) | (go_at_call 142; refine (hc _ _ _ _ _ (x2.trans x3) (x3.cell hb) d1 d2 d3).mono ?_; rintro _ w4 ⟨rfl, x4⟩))
  go_ret
  exact ⟨rfl, (x2.trans x3).trans x4⟩
set_option maxRecDepth 100000 in
theorem From_some (w : World) (a : Addr) (ht : HasRules w) (hd : HasDoes w) (r : Nat) (hr : r < 21) (f : Int) (hs : doAt r = (2, 1)) (hf : (srAt r).2.2 = f) (k : List UInt8 → Option (List UInt8)) (hk : KeyOf w f k) (s t : ByteArray) (hy : s.size ≤ 65536) (hz : t.size ≤ 65536) (want : List UInt8) (ho : k (byt t) = some want) (z : Int) (hzz : cmpZ (fun o => decide (0 ≤ o)) (k (byt s)) want = z) :
    Calls Tryz.prog 23 #[.pointer (some a), .int .i8 (r : Int), .string s, .string t] w fun e w' => e = .returned (.int .i8 z) ∧ Ext w w' := by
  have h1 := ruleOf_ord w a ht hd r hr f hs hf
  have hq := fun w1 b g8 (x : Ext w w1) hb h8 => rule2_some w1 b g8 f k (hk.ext x) hb h8 t hz 46 want ho
  have hc := fun w1 b c1 c2 c3 (x : Ext w w1) hb h1 h2 h3 => cmpF_z w1 b f k (hk.ext x) hb s hy 46 (fun o => decide (0 ≤ o)) want c1 c2 c3 h1 h2 h3 isNotAhead_any (enters_of Tryz.func46 (by kernel_rfl) rfl) z hzz
  unfold keyF no1 no3 at *
  unfold cmpF at *
  clear ht hd hs hf hk ho hzz
  have hfd := fld2
  go_enter Tryz.func23, Tryz.ntmps23
  go_wp2_with (first | (go_at_call 37; refine h1.mono ?_; rintro _ w2 ⟨b, g8, rfl, e8, hb, x2⟩) | (go_at_call 82; refine (hq _ _ _ x2 hb e8).mono ?_; rintro _ w3 ⟨c1, c2, c3, rfl, d1, d2, d3, x3⟩) | (go_at_call 142; refine (hc _ _ _ _ _ (x2.trans x3) (x3.cell hb) d1 d2 d3).mono ?_; rintro _ w4 ⟨rfl, x4⟩))
  go_ret
  exact ⟨rfl, (x2.trans x3).trans x4⟩
set_option maxRecDepth 100000 in
theorem UpTo_some (w : World) (a : Addr) (ht : HasRules w) (hd : HasDoes w) (r : Nat) (hr : r < 21) (f : Int) (hs : doAt r = (2, 1)) (hf : (srAt r).2.2 = f) (k : List UInt8 → Option (List UInt8)) (hk : KeyOf w f k) (s t : ByteArray) (hy : s.size ≤ 65536) (hz : t.size ≤ 65536) (want : List UInt8) (ho : k (byt t) = some want) (z : Int) (hzz : cmpZ (fun o => decide (o ≤ 0)) (k (byt s)) want = z) :
    Calls Tryz.prog 24 #[.pointer (some a), .int .i8 (r : Int), .string s, .string t] w fun e w' => e = .returned (.int .i8 z) ∧ Ext w w' := by
  have h1 := ruleOf_ord w a ht hd r hr f hs hf
  have hq := fun w1 b g8 (x : Ext w w1) hb h8 => rule2_some w1 b g8 f k (hk.ext x) hb h8 t hz 47 want ho
  have hc := fun w1 b c1 c2 c3 (x : Ext w w1) hb h1 h2 h3 => cmpF_z w1 b f k (hk.ext x) hb s hy 47 (fun o => decide (o ≤ 0)) want c1 c2 c3 h1 h2 h3 isNotBehind_any (enters_of Tryz.func47 (by kernel_rfl) rfl) z hzz
  unfold keyF no1 no3 at *
  unfold cmpF at *
  clear ht hd hs hf hk ho hzz
  have hfd := fld2
  go_enter Tryz.func24, Tryz.ntmps24
  go_wp2_with (first | (go_at_call 37; refine h1.mono ?_; rintro _ w2 ⟨b, g8, rfl, e8, hb, x2⟩) | (go_at_call 82; refine (hq _ _ _ x2 hb e8).mono ?_; rintro _ w3 ⟨c1, c2, c3, rfl, d1, d2, d3, x3⟩) | (go_at_call 142; refine (hc _ _ _ _ _ (x2.trans x3) (x3.cell hb) d1 d2 d3).mono ?_; rintro _ w4 ⟨rfl, x4⟩))
  go_ret
  exact ⟨rfl, (x2.trans x3).trans x4⟩
end Go.Proofs.YtbioickfookjeaaGreatDoor
