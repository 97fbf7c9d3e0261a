/-
  The bodies of the library's functions in this program are those that the library's contracts speak of.
-/
import Derived.Shelf.LaysM
import Derived.Shelf.Strconv.Itoa3
import Derived.Shelf.Strings.SplitShaped
import Derived.Test.YthifcfdbifhanaaGreatDoorChecked
import Derived.Test.YthifcfdbifhanaaGreatDoorPhoneToWord
import Derived.Test.YthifcfdbifhanaaGreatDoorSpKToNumA
import Derived.Lib.SplitLaws
import Derived.Lib.IndexBytes
import Derived.Test.YthifcfdbifhanaaGreatDoorSleafToSword
import Derived.RangeFuncNested
import Derived.RangeFuncBound
import Derived.RangeFuncCalls
import Derived.RangeFuncLeaves
import Derived.RangeFuncFrom
import Derived.Shelf.Abstract
import Derived.Shelf.RegionOpen
import Derived.OwnWalkIn
import Derived.TacticsInMore
import Derived.LoopNIn
import Derived.LoopIn
namespace Go.Proofs
open Go.Shelf
def Tryz.laysM171_ren : Go.Shelf.Ren := ⟨fun | 171 => 59 | 243 => 91 | 246 => 130 | 283 => 158 | 284 => 159 | 285 => 160 | 286 => 161 | 129 => 186 | 317 => 189 | 318 => 190 | 319 => 191 | 320 => 192 | 337 => 213 | 338 => 214 | n => n, fun | 3 => 3 | 9 => 9 | 2 => 2 | 4 => 4 | 171 => 205 | 0 => 0 | 53 => 206 | 37 => 65 | 5 => 5 | 173 => 209 | 212 => 238 | 51 => 233 | 20 => 20 | 213 => 239 | 46 => 80 | 232 => 274 | 233 => 275 | n => n, fun | 17 => 6 | 18 => 7 | 19 => 8 | n => n⟩
theorem Tryz.laysM171 : Go.Proofs.LaysM.n171 Tryz.prog Tryz.laysM171_ren := {
  mixed := by kernel_rfl
  f129 := Tryz.func186.trans (congrArg some (by kernel_rfl))
  f171 := Tryz.func59.trans (congrArg some (by kernel_rfl))
  f243 := Tryz.func91.trans (congrArg some (by kernel_rfl))
  f246 := Tryz.func130.trans (congrArg some (by kernel_rfl))
  f283 := Tryz.func158.trans (congrArg some (by kernel_rfl))
  f284 := Tryz.func159.trans (congrArg some (by kernel_rfl))
  f285 := Tryz.func160.trans (congrArg some (by kernel_rfl))
  f286 := Tryz.func161.trans (congrArg some (by kernel_rfl))
  f317 := Tryz.func189.trans (congrArg some (by kernel_rfl))
  f318 := Tryz.func190.trans (congrArg some (by kernel_rfl))
  f319 := Tryz.func191.trans (congrArg some (by kernel_rfl))
  f320 := Tryz.func192.trans (congrArg some (by kernel_rfl))
  f337 := Tryz.func213.trans (congrArg some (by kernel_rfl))
  f338 := Tryz.func214.trans (congrArg some (by kernel_rfl))
  t0 := Tryz.underlying0
  a0 := Tryz.isAgg0
  z0 := Tryz.sizeOf0
  v0 := Tryz.zeroValue0
  t2 := Tryz.underlying2
  a2 := Tryz.isAgg2
  z2 := Tryz.sizeOf2
  v2 := Tryz.zeroValue2
  t3 := Tryz.underlying3
  a3 := Tryz.isAgg3
  z3 := Tryz.sizeOf3
  v3 := Tryz.zeroValue3
  t4 := Tryz.underlying4
  a4 := Tryz.isAgg4
  z4 := Tryz.sizeOf4
  v4 := Tryz.zeroValue4
  t5 := Tryz.underlying5
  a5 := Tryz.isAgg5
  z5 := Tryz.sizeOf5
  v5 := Tryz.zeroValue5
  t9 := Tryz.underlying9
  a9 := Tryz.isAgg9
  z9 := Tryz.sizeOf9
  v9 := Tryz.zeroValue9
  t20 := Tryz.underlying20
  a20 := Tryz.isAgg20
  z20 := Tryz.sizeOf20
  v20 := Tryz.zeroValue20
  t37 := Tryz.underlying65
  a37 := Tryz.isAgg65
  z37 := Tryz.sizeOf65
  v37 := Tryz.zeroValue65
  t46 := Tryz.underlying80
  a46 := Tryz.isAgg80
  z46 := Tryz.sizeOf80
  v46 := Tryz.zeroValue80
  t51 := Tryz.underlying233
  a51 := Tryz.isAgg233
  z51 := Tryz.sizeOf233
  v51 := Tryz.zeroValue233
  t53 := Tryz.underlying206
  a53 := Tryz.isAgg206
  z53 := Tryz.sizeOf206
  v53 := Tryz.zeroValue206
  t171 := Tryz.underlying205
  a171 := Tryz.isAgg205
  z171 := Tryz.sizeOf205
  v171 := Tryz.zeroValue205
  t173 := Tryz.underlying209
  a173 := Tryz.isAgg209
  z173 := Tryz.sizeOf209
  v173 := Tryz.zeroValue209
  t212 := Tryz.underlying238
  a212 := Tryz.isAgg238
  z212 := Tryz.sizeOf238
  v212 := Tryz.zeroValue238
  t213 := Tryz.underlying239
  a213 := Tryz.isAgg239
  z213 := Tryz.sizeOf239
  t232 := Tryz.underlying274
  a232 := Tryz.isAgg274
  z232 := Tryz.sizeOf274
  v232 := Tryz.zeroValue274
  t233 := Tryz.underlying275
  a233 := Tryz.isAgg275
  z233 := Tryz.sizeOf275
  v233 := Tryz.zeroValue275
  g17 := by kernel_rfl
  g18 := by kernel_rfl
  g19 := by kernel_rfl
  i0 := by kernel_rfl
  i2 := by kernel_rfl
  i3 := by kernel_rfl
  i4 := by kernel_rfl
  i5 := by kernel_rfl
  i9 := by kernel_rfl
  i20 := by kernel_rfl
  i37 := by kernel_rfl
  i46 := by kernel_rfl
  i51 := by kernel_rfl
  i53 := by kernel_rfl
  i171 := by kernel_rfl
  i173 := by kernel_rfl
  i212 := by kernel_rfl
  i232 := by kernel_rfl
  i233 := by kernel_rfl
  m17 := by kernel_rfl
  m18 := by kernel_rfl
  m19 := by kernel_rfl }
def Tryz.lays171_ren : Go.Shelf.Ren := ⟨fun | 171 => 59 | 243 => 91 | 246 => 130 | 283 => 158 | 284 => 159 | 285 => 160 | 286 => 161 | 129 => 186 | 317 => 189 | 318 => 190 | 319 => 191 | 320 => 192 | 337 => 213 | 338 => 214 | n => n, fun | 3 => 3 | 9 => 9 | 2 => 2 | 4 => 4 | 171 => 205 | 0 => 0 | 53 => 206 | 37 => 65 | 5 => 5 | 173 => 209 | 212 => 238 | 51 => 233 | 20 => 20 | 213 => 239 | 46 => 80 | 232 => 274 | 233 => 275 | n => n, fun | 17 => 6 | 18 => 7 | 19 => 8 | n => n⟩
theorem Tryz.lays171 : Go.Proofs.Lays.n171 Tryz.prog Tryz.lays171_ren := {
  mixed := by kernel_rfl
  f129 := Tryz.func186.trans (congrArg some (by kernel_rfl))
  f171 := Tryz.func59.trans (congrArg some (by kernel_rfl))
  f243 := Tryz.func91.trans (congrArg some (by kernel_rfl))
  f246 := Tryz.func130.trans (congrArg some (by kernel_rfl))
  f283 := Tryz.func158.trans (congrArg some (by kernel_rfl))
  f284 := Tryz.func159.trans (congrArg some (by kernel_rfl))
  f285 := Tryz.func160.trans (congrArg some (by kernel_rfl))
  f286 := Tryz.func161.trans (congrArg some (by kernel_rfl))
  f317 := Tryz.func189.trans (congrArg some (by kernel_rfl))
  f318 := Tryz.func190.trans (congrArg some (by kernel_rfl))
  f319 := Tryz.func191.trans (congrArg some (by kernel_rfl))
  f320 := Tryz.func192.trans (congrArg some (by kernel_rfl))
  f337 := Tryz.func213.trans (congrArg some (by kernel_rfl))
  f338 := Tryz.func214.trans (congrArg some (by kernel_rfl))
  t0 := Tryz.underlying0
  a0 := Tryz.isAgg0
  z0 := Tryz.sizeOf0
  v0 := Tryz.zeroValue0
  t2 := Tryz.underlying2
  a2 := Tryz.isAgg2
  z2 := Tryz.sizeOf2
  v2 := Tryz.zeroValue2
  t3 := Tryz.underlying3
  a3 := Tryz.isAgg3
  z3 := Tryz.sizeOf3
  v3 := Tryz.zeroValue3
  t4 := Tryz.underlying4
  a4 := Tryz.isAgg4
  z4 := Tryz.sizeOf4
  v4 := Tryz.zeroValue4
  t5 := Tryz.underlying5
  a5 := Tryz.isAgg5
  z5 := Tryz.sizeOf5
  v5 := Tryz.zeroValue5
  t9 := Tryz.underlying9
  a9 := Tryz.isAgg9
  z9 := Tryz.sizeOf9
  v9 := Tryz.zeroValue9
  t20 := Tryz.underlying20
  a20 := Tryz.isAgg20
  z20 := Tryz.sizeOf20
  v20 := Tryz.zeroValue20
  t37 := Tryz.underlying65
  a37 := Tryz.isAgg65
  z37 := Tryz.sizeOf65
  v37 := Tryz.zeroValue65
  t46 := Tryz.underlying80
  a46 := Tryz.isAgg80
  z46 := Tryz.sizeOf80
  v46 := Tryz.zeroValue80
  t51 := Tryz.underlying233
  a51 := Tryz.isAgg233
  z51 := Tryz.sizeOf233
  v51 := Tryz.zeroValue233
  t53 := Tryz.underlying206
  a53 := Tryz.isAgg206
  z53 := Tryz.sizeOf206
  v53 := Tryz.zeroValue206
  t171 := Tryz.underlying205
  a171 := Tryz.isAgg205
  z171 := Tryz.sizeOf205
  v171 := Tryz.zeroValue205
  t173 := Tryz.underlying209
  a173 := Tryz.isAgg209
  z173 := Tryz.sizeOf209
  v173 := Tryz.zeroValue209
  t212 := Tryz.underlying238
  a212 := Tryz.isAgg238
  z212 := Tryz.sizeOf238
  v212 := Tryz.zeroValue238
  t213 := Tryz.underlying239
  a213 := Tryz.isAgg239
  z213 := Tryz.sizeOf239
  t232 := Tryz.underlying274
  a232 := Tryz.isAgg274
  z232 := Tryz.sizeOf274
  v232 := Tryz.zeroValue274
  t233 := Tryz.underlying275
  a233 := Tryz.isAgg275
  z233 := Tryz.sizeOf275
  v233 := Tryz.zeroValue275
  g17 := by kernel_rfl
  g18 := by kernel_rfl
  g19 := by kernel_rfl }
def Tryz.laysM146_ren : Go.Shelf.Ren := ⟨fun | 146 => 233 | 221 => 245 | 268 => 247 | 138 => 248 | 143 => 166 | 195 => 249 | 197 => 49 | 218 => 250 | 219 => 194 | 260 => 68 | 217 => 71 | 225 => 165 | 224 => 164 | 267 => 215 | 266 => 96 | 314 => 235 | n => n, fun | 9 => 9 | 31 => 22 | 3 => 3 | 4 => 4 | 0 => 0 | 105 => 87 | 21 => 21 | 5 => 5 | 46 => 80 | 119 => 133 | 139 => 136 | 138 => 135 | 146 => 276 | 51 => 233 | n => n, fun | 1 => 4 | 3 => 0 | 4 => 1 | n => n⟩
theorem Tryz.laysM146 : Go.Proofs.LaysM.n146 Tryz.prog Tryz.laysM146_ren := {
  mixed := by kernel_rfl
  f138 := Tryz.func248.trans (congrArg some (by kernel_rfl))
  f143 := Tryz.func166.trans (congrArg some (by kernel_rfl))
  f146 := Tryz.func233.trans (congrArg some (by kernel_rfl))
  f195 := Tryz.func249.trans (congrArg some (by kernel_rfl))
  f197 := Tryz.func49.trans (congrArg some (by kernel_rfl))
  f217 := Tryz.func71.trans (congrArg some (by kernel_rfl))
  f218 := Tryz.func250.trans (congrArg some (by kernel_rfl))
  f219 := Tryz.func194.trans (congrArg some (by kernel_rfl))
  f221 := Tryz.func245.trans (congrArg some (by kernel_rfl))
  f224 := Tryz.func164.trans (congrArg some (by kernel_rfl))
  f225 := Tryz.func165.trans (congrArg some (by kernel_rfl))
  f260 := Tryz.func68.trans (congrArg some (by kernel_rfl))
  f266 := Tryz.func96.trans (congrArg some (by kernel_rfl))
  f267 := Tryz.func215.trans (congrArg some (by kernel_rfl))
  f268 := Tryz.func247.trans (congrArg some (by kernel_rfl))
  f314 := Tryz.func235.trans (congrArg some (by kernel_rfl))
  t0 := Tryz.underlying0
  a0 := Tryz.isAgg0
  z0 := Tryz.sizeOf0
  v0 := Tryz.zeroValue0
  t3 := Tryz.underlying3
  a3 := Tryz.isAgg3
  z3 := Tryz.sizeOf3
  v3 := Tryz.zeroValue3
  t4 := Tryz.underlying4
  a4 := Tryz.isAgg4
  z4 := Tryz.sizeOf4
  v4 := Tryz.zeroValue4
  t5 := Tryz.underlying5
  a5 := Tryz.isAgg5
  z5 := Tryz.sizeOf5
  v5 := Tryz.zeroValue5
  t9 := Tryz.underlying9
  a9 := Tryz.isAgg9
  z9 := Tryz.sizeOf9
  v9 := Tryz.zeroValue9
  t21 := Tryz.underlying21
  a21 := Tryz.isAgg21
  z21 := Tryz.sizeOf21
  v21 := Tryz.zeroValue21
  t31 := Tryz.underlying22
  a31 := Tryz.isAgg22
  z31 := Tryz.sizeOf22
  v31 := Tryz.zeroValue22
  t46 := Tryz.underlying80
  a46 := Tryz.isAgg80
  z46 := Tryz.sizeOf80
  v46 := Tryz.zeroValue80
  t51 := Tryz.underlying233
  a51 := Tryz.isAgg233
  z51 := Tryz.sizeOf233
  v51 := Tryz.zeroValue233
  t105 := Tryz.underlying87
  a105 := Tryz.isAgg87
  z105 := Tryz.sizeOf87
  v105 := Tryz.zeroValue87
  t119 := Tryz.underlying133
  a119 := Tryz.isAgg133
  z119 := Tryz.sizeOf133
  t138 := Tryz.underlying135
  a138 := Tryz.isAgg135
  z138 := Tryz.sizeOf135
  v138 := Tryz.zeroValue135
  t139 := Tryz.underlying136
  a139 := Tryz.isAgg136
  z139 := Tryz.sizeOf136
  v139 := Tryz.zeroValue136
  t146 := Tryz.underlying276
  a146 := Tryz.isAgg276
  z146 := Tryz.sizeOf276
  v146 := Tryz.zeroValue276
  g1 := by kernel_rfl
  g3 := by kernel_rfl
  g4 := by kernel_rfl
  i0 := by kernel_rfl
  i3 := by kernel_rfl
  i4 := by kernel_rfl
  i5 := by kernel_rfl
  i9 := by kernel_rfl
  i21 := by kernel_rfl
  i31 := by kernel_rfl
  i46 := by kernel_rfl
  i51 := by kernel_rfl
  i105 := by kernel_rfl
  i138 := by kernel_rfl
  i139 := by kernel_rfl
  i146 := by kernel_rfl
  m1 := by kernel_rfl
  s1_3 := fun w h => Go.Proofs.cell_of_shapedOpen_int (zero := #[.int .i64 0]) (t := 3) h (of_decide_eq_true (by kernel_rfl)) (by kernel_rfl) rfl (by kernel_rfl) (by kernel_rfl) Tryz.underlying3
  m3 := by kernel_rfl
  m4 := by kernel_rfl }
end Go.Proofs

/-
  Numbers with dots between them.
-/
namespace Go.Proofs.YthifcfdbifhanaaGreatDoor
open Go.RowKit

theorem splitD_none : ∀ l : List UInt8, (46 : UInt8) ∉ l → splitD l = [l]
  | [], _ => rfl
  | b :: t, h => by
    rw [splitD, if_neg (fun e => h (by simp [e])), splitD_none t (fun e => h (by simp [e]))]
theorem splitD_app : ∀ (p q : List UInt8), (46 : UInt8) ∉ p → splitD (p ++ 46 :: q) = p :: splitD q
  | [], q, _ => by rw [List.nil_append, splitD, if_pos rfl]
  | b :: p, q, h => by
    rw [List.cons_append, splitD, if_neg (fun e => h (by simp [e])), splitD_app p q (fun e => h (by simp [e]))]
theorem splitD_len : ∀ (l : List UInt8), ∀ r ∈ splitD l, r.length ≤ l.length
  | [], r, h => by simp [splitD] at h; subst h; simp
  | b :: t, r, h => by
    rw [splitD] at h
    split at h
    · rcases List.mem_cons.1 h with e | e
      · subst e; simp
      · have := splitD_len t r e; simp; omega
    · cases hs : splitD t with
      | nil => rw [hs] at h; simp at h; subst h; simp
      | cons r0 rs =>
        rw [hs] at h
        rcases List.mem_cons.1 h with e | e
        · subst e
          have := splitD_len t r0 (by rw [hs]; simp)
          simp; omega
        · have := splitD_len t r (by rw [hs]; simp [e])
          simp; omega
theorem idx_dot (s : ByteArray) : Lib.indexB s ⟨#[46]⟩ = Lib.indexByte (byt s) 46 := Go.Lib.one s ⟨#[46]⟩ rfl
theorem cnt_dot (s : ByteArray) : Lib.countB s ⟨#[46]⟩ = (byt s).count 46 := Lib.count_one 46 (byt s)
theorem splitB_dot : ∀ (k : Nat) (s : ByteArray), (byt s).count 46 = k → (Lib.splitB ⟨#[46]⟩ 0 k s).map byt = splitD (byt s) := by
  intro k
  induction k with
  | zero =>
    intro s h
    rw [splitD_none _ (by intro e; have := List.count_pos_iff.2 e; omega)]
    rfl
  | succ k ih =>
    intro s h
    have hne : Lib.indexByte (byt s) 46 ≠ -1 := by
      intro e
      have hn := Lib.indexByte_none e
      have : (46 : UInt8) ∈ byt s := List.count_pos_iff.1 (by omega)
      obtain ⟨i, hi, he⟩ := List.getElem_of_mem this
      exact hn i (by rw [List.getElem?_eq_getElem hi, he])
    have hge := Lib.indexByte_ge (byt s) 46
    obtain ⟨o, ho⟩ : ∃ o : Nat, Lib.indexByte (byt s) 46 = o := ⟨(Lib.indexByte (byt s) 46).toNat, by omega⟩
    obtain ⟨h1, h2⟩ := Lib.indexByte_some ho
    have hol : o < (byt s).length := (List.getElem?_eq_some_iff.1 h1).1
    have hsp : byt s = (byt s).take o ++ 46 :: (byt s).drop (o + 1) := by
      have hg : (byt s)[o] = 46 := (List.getElem?_eq_some_iff.1 h1).2
      rw [← hg, List.getElem_cons_drop, List.take_append_drop]
    have hno : (46 : UInt8) ∉ (byt s).take o := by
      intro e
      obtain ⟨i, hi, he⟩ := List.getElem_of_mem e
      have hi' : i < o := by rw [List.length_take] at hi; omega
      refine h2 i hi' ?_
      rw [List.getElem_take] at he
      rw [List.getElem?_eq_getElem (by omega), he]
    have hc : (byt (s.extract (o + 1) s.size)).count 46 = k := by
      rw [byt_from]
      rw [hsp, List.count_append, List.count_cons_self, List.count_eq_zero.2 hno] at h
      omega
    rw [Lib.splitB, idx_dot, ho]
    have hb : ((o : Int) == -1) = false := by simp only [beq_eq_false_iff_ne, ne_eq]; omega
    rw [hb]
    simp only [Bool.false_eq_true, if_false, List.map_cons]
    have e1 : ((o : Int)).toNat + 0 = o := by omega
    have e2 : ((o : Int)).toNat + (⟨#[46]⟩ : ByteArray).size = o + 1 := by show ((o : Int)).toNat + 1 = o + 1; omega
    rw [e1, e2, ih _ hc, byt_from]
    have e3 : byt (s.extract 0 o) = (byt s).take o := by rw [byt_extract]; simp
    rw [e3]
    conv => rhs; rw [hsp]
    rw [splitD_app _ _ hno]
set_option maxRecDepth 100000 in
theorem slIndex_dot (w : World) (x : ByteArray) :
    Calls Tryz.prog 194 #[.string x, .string ⟨#[46]⟩] w fun e w' => e = .returned (.int .i64 (Lib.indexB x ⟨#[46]⟩)) ∧ w' = w := by
  have hx := fun w => Any.stringslite_IndexByte ({ Tryz.laysM146 with } : Lays.n217 Tryz.prog Tryz.laysM146_ren) x 46 w
  rw [idx_dot]
  by_cases hq : byt x = [46]
  · have n1 : ([46] == x.toList) = true := by rw [toList_byt, hq]; rfl
    have HR : Hid (Lib.indexByte (byt x) 46 = 0) := by show Lib.indexByte (byt x) 46 = 0; rw [hq]; rfl
    clear hq hx
    go_enter Tryz.func194, Tryz.ntmps194
    go_wp2
    go_ret
    exact ⟨by rw [HR.out]; rfl, rfl⟩
  · have n1 : ([46] == x.toList) = false := by rw [toList_byt]; simp only [beq_eq_false_iff_ne, ne_eq]; exact fun e => hq e.symm
    have hx2 : ∀ w, Calls Tryz.prog 71 #[.string x, .int .u8 46] w fun e w' => e = .returned (.int .i64 (Lib.indexByte (byt x) 46)) ∧ w' = w := hx
    clear hq hx
    go_enter Tryz.func194, Tryz.ntmps194
    go_wp2_with (go_at_call 71; refine (hx2 _).mono ?_; rintro e w2 ⟨rfl, rfl⟩)
    go_ret
    exact ⟨rfl, rfl⟩
theorem Index_dot (w : World) (x : ByteArray) :
    Calls Tryz.prog 166 #[.string x, .string ⟨#[46]⟩] w fun e w' => e = .returned (.int .i64 (Lib.indexB x ⟨#[46]⟩)) ∧ w' = w := by
  have hx := fun w => slIndex_dot w x
  go_enter Tryz.func166, Tryz.ntmps166
  go_wp2_with (go_at_call 194; refine (hx _).mono ?_; rintro e w2 ⟨rfl, rfl⟩)
  go_ret
  exact ⟨rfl, rfl⟩
theorem Count_dot (w : World) (s : ByteArray) :
    Calls Tryz.prog 248 #[.string s, .string ⟨#[46]⟩] w fun e w' => e = .returned (.int .i64 (Lib.countB s ⟨#[46]⟩ : Nat)) ∧ w' = w := by
  rw [cnt_dot]
  exact Any.strings_Count_one ({ Tryz.laysM146 with } : Lays.n138 Tryz.prog Tryz.laysM146_ren) s 46 w
theorem Split_dot (w : World) (s : ByteArray) (hs : s.size ≤ 65536) :
    Calls Tryz.prog 233 #[.string s, .string ⟨#[46]⟩] w fun e w' => ∃ R : List ByteArray, R.map byt = splitD (byt s) ∧ e = .returned (.slice (some ⟨w.heap.size, 0, none⟩) R.length R.length) ∧ w' = w.alloc (.cells (R.map Value.string).toArray 9) := by
  have hle := Lib.countB_le ⟨#[46]⟩ (by decide) s.size s (Nat.le_refl _)
  have hlen := Lib.splitB_all ⟨#[46]⟩ (by decide) 0 _ s rfl
  have c := Any.strings_genSplit_core ({ Tryz.laysM146 with } : Lays.n221 Tryz.prog Tryz.laysM146_ren) Tryz.laysM146.i9 s ⟨#[46]⟩ 0 (-1) (Lib.countB s ⟨#[46]⟩ + 1) w (by omega) (by decide) (Nat.zero_le _)
    (fun x c hx => Index_dot _ x) (Count_dot w s) (by decide) (by decide) (by rw [if_pos (by decide)]; omega)
  rw [Nat.add_sub_cancel, hlen] at c
  have e2 : Lib.cellsOf (Lib.splitB ⟨#[46]⟩ 0 (Lib.countB s ⟨#[46]⟩) s) (Lib.countB s ⟨#[46]⟩ + 1) = ((Lib.splitB ⟨#[46]⟩ 0 (Lib.countB s ⟨#[46]⟩) s).map Value.string).toArray := by rw [← hlen]; exact Lib.cellsOf_full _
  rw [e2] at c
  have hR := splitB_dot _ s (cnt_dot s).symm
  have c2 : Calls Tryz.prog 245 #[.string s, .string ⟨#[46]⟩, .int .i64 0, .int .i64 (-1)] w fun e w' => e = .returned (.slice (some ⟨w.heap.size, 0, none⟩) (Lib.countB s ⟨#[46]⟩ + 1) (Lib.countB s ⟨#[46]⟩ + 1)) ∧ w' = w.alloc (.cells ((Lib.splitB ⟨#[46]⟩ 0 (Lib.countB s ⟨#[46]⟩) s).map Value.string).toArray 9) := c
  rw [← hlen] at c2
  generalize Lib.splitB ⟨#[46]⟩ 0 (Lib.countB s ⟨#[46]⟩) s = R at *
  clear c e2 hlen hle
  go_enter Tryz.func233, Tryz.ntmps233
  go_wp2_with (go_at_call 245; refine c2.mono ?_; rintro e w' ⟨rfl, rfl⟩)
  go_ret
  exact ⟨R, hR, rfl, rfl⟩
end Go.Proofs.YthifcfdbifhanaaGreatDoor

/-
  A range over a function that keeps what it has still to hand out in a box of its own: the rounds' law.
-/
namespace Go.Proofs.YthifcfdbifhanaaGreatDoor
open Go.RowKit Go.Shelf

/-- the blocks of B stand -/
def Keeps (B : Nat → Prop) (W W' : World) : Prop := ∀ k, B k → W'.heap[k]? = W.heap[k]?
theorem Keeps.refl (B : Nat → Prop) (W : World) : Keeps B W W := fun _ _ => rfl
theorem Keeps.trans {B : Nat → Prop} {A C D : World} (h : Keeps B A C) (k : Keeps B C D) : Keeps B A D := fun g hg => (k g hg).trans (h g hg)
/-- what lies from m on and is no row of cells lies as it lay -/
def Firm (m : Nat) (W W' : World) : Prop := ∀ k o, m ≤ k → W.heap[k]? = some o → o.isCells = false → W'.heap[k]? = some o
theorem Firm.refl (m : Nat) (W : World) : Firm m W W := fun _ _ _ h _ => h
theorem Firm.trans {m : Nat} {A C D : World} (h : Firm m A C) (k : Firm m C D) : Firm m A D := fun g o hg ho hc => k g o hg (h g o hg ho hc) hc
theorem Firm.setCell (m : Nat) (W : World) (p : Addr) (u : Value) : Firm m W (W.setCell p u) := by
  intro k o _ ho hc
  simp only [World.setCell, Array.getElem?_modify]
  split
  · rename_i e; subst e; rw [ho]; cases o <;> simp_all [Obj.isCells]
  · exact ho
theorem Ext.firm {m : Nat} {W W' : World} (h : Ext W W') : Firm m W W' := fun k _ _ ho _ => (h.block k (Array.getElem?_eq_some_iff.1 ho).1).trans ho
theorem Ext.keeps {B : Nat → Prop} {W W' : World} (h : Ext W W') (hB : ∀ k, B k → k < W.heap.size) : Keeps B W W' := fun k hk => h.block k (hB k hk)

theorem putObj_only {S : Nat → Prop} (W : World) (l : Nat) (o : Obj) (h : S l) : Only S W (W.putObj l o) :=
  ⟨rfl, rfl, rfl, by simp [World.putObj], fun k _ hn => World.putObj_heap_other (fun e => hn (e ▸ h))⟩

section
variable {α : Type} {n : Nat} {P : Program}
/-- a function that hands out what encs says, keeping what is left in the box Bs; the rounds keep the blocks of B -/
def BoxSeq (n : Nat) (P : Program) (gf : Nat) (lb : Array Value) (encs : α → Array Value) (B : Nat → Prop) (Bs : Nat) (S Sp : List α → Prop) (w : World) : Prop :=
  ∀ (l : Nat) (J Jx : List α → World → Prop) (W : World), Ext w W → (∀ s A u, J s A → J s (A.setCell ⟨Bs, 0, none⟩ u)) →
    (∀ pre x W1, J pre W1 → YieldAt Fence.wide (n - 1) P l (encs x) W1 fun e W' => (e = .returned (.bool true) ∧ J (pre ++ [x]) W' ∧ Keeps B W1 W') ∨ (e = .returned (.bool false) ∧ Jx (pre ++ [x]) W')) →
    J [] W → CallsIn Fence.wide n P gf (#[.func (.yield l) #[] #[]] ++ lb) W fun e W' => (∃ v, e = .returned v) ∧ ((∃ xs, S xs ∧ J xs W') ∨ (∃ pre, Sp pre ∧ Jx pre W'))

/-- how a round may end -/
def boxPost (m : Nat) (B : Nat → Prop) (I Ix : List α → World → Prop) (xs : List α) (W : World) : Exit → Act → World → Prop
  | .normal, _, W' => Firm m W W' ∧ Keeps B W W' ∧ I xs W'
  | .ret, _, W' => Firm m W W' ∧ Ix xs W'
  | _, _, _ => False

theorem wpIn_range_box {g : Operand} {ps : Array Tmp} {assign body : Code} {Q : Exit → Act → World → Prop} {a : Act} {w : World} {gf : Nat} {lb : Array Value} (hg : a.eval g = .func (.func gf) #[] lb)
    (eg : ∀ args w, (callFunc gf args).run P w = .ok (.enter gf args) w) {encs : α → Array Value} {B : Nat → Prop} {Bs : Nat} {S Sp : List α → Prop} (hseq : BoxSeq (n - 1) P gf lb encs B Bs S Sp w)
    (hB : ∀ k, B k → k < w.heap.size) (hBs : Bs < w.heap.size) (hps : ∀ x, (encs x).size = ps.size) (I Ix : List α → World → Prop)
    (hI : ∀ s W W', I s W → Only (Up (fun k => k = Bs) w.heap.size) W W' → I s W') (hIx : ∀ s W W', Ix s W → Only (Up (fun k => k = Bs) w.heap.size) W W' → Ix s W') (h0 : I [] w) (a₁ : α → Act)
    (hassign : ∀ (l : Nat) (x : α) (W : World) (K : Act → World → Prop), K (a₁ x) W →
      assign.wpIn (Fence.wide.inRound l) (n - 1 - 1) P (Exit.then K (fun _ _ _ => False)) { tmps := (ps.zip (encs x)).foldl (fun t (p, v) => t.setIfInBounds p v) a.tmps, defers := [] } W)
    (hbody : ∀ (l : Nat) (pre : List α) (x : α) (W : World), I pre W → body.wpIn (Fence.wide.inRound l) (n - 1 - 1) P (boxPost w.heap.size B I Ix (pre ++ [x]) W) (a₁ x) W)
    (hdone : ∀ (D : Nat) (xs : List α) (W : World), w.heap.size ≤ D → S xs → I xs W → W.heap[D]? = some (.deferred (some [])) → Q .normal { a with defers := { target := .collected D, args := #[] } :: a.defers } W)
    (hstop : ∀ (D : Nat) (pre : List α) (W : World), w.heap.size ≤ D → Sp pre → Ix pre W → W.heap[D]? = some (.deferred (some [])) → Code.ret.wpIn Fence.wide n P Q { a with defers := { target := .collected D, args := #[] } :: a.defers } W) :
    (Code.rangeFunc g ps assign body).wpIn Fence.wide n P Q a w := by
  refine wpIn_rangeFunc ?_
  intro fn hfn
  obtain ⟨rc, hrc⟩ : ∃ rc : LoopState → Option Code → Loop, rc = fun st pe => { state := st, pending := pe, fn, tmps := a.tmps, params := ps, assign, body, defers := w.heap.size } := ⟨_, rfl⟩
  obtain ⟨V, hV⟩ : ∃ V, (w.alloc (.deferred (some []))).alloc (.loop (rc .ready none)) = V := ⟨_, rfl⟩
  have xV : Ext w V := by rw [← hV]; exact ((Ext.refl w).alloc _).alloc _
  have hl0 : V.heap[w.heap.size + 1]? = some (.loop (rc .ready none)) := by
    rw [← hV]; have := World.alloc_heap_new (w.alloc (.deferred (some []))) (.loop (rc .ready none)); rwa [World.size_alloc] at this
  have hd0 : V.heap[w.heap.size]? = some (.deferred (some [])) := by
    rw [← hV]; exact (Below.heap_alloc _ _ _ (by simp)).trans (World.alloc_heap_new w _)
  have up : ∀ {l : Nat}, w.heap.size ≤ l → Up (fun k => k = Bs) w.heap.size l := fun h => .inr h
  refine ⟨w.heap.size + 1, [{ target := .collected w.heap.size, args := #[] }], V, { target := .fn (.func gf) lb, args := #[.func (.yield (w.heap.size + 1)) #[] #[]] }, V, gf, #[.func (.yield (w.heap.size + 1)) #[] #[]] ++ lb, V, ?_, ?_, fun _ _ => trivial, ?_, fun h => (by cases h), ?_⟩
  · rw [← hV, hrc]; exact run_enterLoop_outer _ _ _ _ _
  · simp only [resolve, hg]
    simp [go_sem]
  · simp [invoke, go_sem, eg]
  refine (hseq (w.heap.size + 1) (fun pre W => I pre W ∧ W.heap[w.heap.size + 1]? = some (.loop (rc .ready none)) ∧ W.heap[w.heap.size]? = some (.deferred (some [])))
    (fun pre W => Ix pre W ∧ W.heap[w.heap.size + 1]? = some (.loop (rc .done (some .ret))) ∧ W.heap[w.heap.size]? = some (.deferred (some []))) V xV ?_ ?_ ⟨hI _ _ _ h0 xV.only, hl0, hd0⟩).mono ?_
  · rintro s A u ⟨h1, h2, h3⟩
    refine ⟨hI _ _ _ h1 ((Only.refl _ A).setCell (p := ⟨Bs, 0, none⟩) (.inl (.inl rfl)) u), ?_, ?_⟩
    · rw [Below.heap_setCell _ _ _ _ (by simp; omega)]; exact h2
    · rw [Below.heap_setCell _ _ _ _ (by simp; omega)]; exact h3
  · rintro pre x W ⟨hi, hl, hd⟩
    have hlt : w.heap.size + 1 < W.heap.size := (Array.getElem?_eq_some_iff.1 hl).1
    have hy := run_yield (P := P) (args := encs x) hl (by rw [hrc]; exact hps x)
    rw [hrc] at hy
    obtain ⟨W2, hW2⟩ : ∃ W2, W.putObj (w.heap.size + 1) (.loop { rc .ready none with state := .busy }) = W2 := ⟨_, rfl⟩
    have hl2 : W2.heap[w.heap.size + 1]? = some (.loop { rc .ready none with state := .busy }) := by rw [← hW2]; exact World.putObj_heap_same hlt
    have hd2 : W2.heap[w.heap.size]? = some (.deferred (some [])) := by rw [← hW2]; exact (World.putObj_heap_other (by omega)).trans hd
    have hi2 : I pre W2 := by rw [← hW2]; exact hI _ _ _ hi (putObj_only W _ _ (up (by omega)))
    have hk2 : Keeps B W W2 := by intro k hk; rw [← hW2]; exact World.putObj_heap_other (by have := hB k hk; omega)
    refine ⟨fn, _, assign, body, hy, roundIn_of_wpIn hfn (hassign _ x W _ ⟨W2, by rw [← hW2]; exact run_beginRound hl (by rw [hrc]), wpIn_mono (hbody _ pre x W2 hi2) ?_⟩)⟩
    rintro e a3 W3 hp
    have fin : ∀ (jump : Option Code), Firm w.heap.size W2 W3 →
        (Instr.endRound (w.heap.size + 1) jump).run P W3 = .ok (.bool jump.isNone) (W3.putObj (w.heap.size + 1) (.loop (rc (if jump.isNone then .ready else .done) jump))) ∧
        (W3.putObj (w.heap.size + 1) (.loop (rc (if jump.isNone then .ready else .done) jump))).heap[w.heap.size + 1]? = some (.loop (rc (if jump.isNone then .ready else .done) jump)) ∧
        (W3.putObj (w.heap.size + 1) (.loop (rc (if jump.isNone then .ready else .done) jump))).heap[w.heap.size]? = some (.deferred (some [])) := fun jump hf => by
      have hl3 := hf _ _ (by omega) hl2 rfl
      have hd3 := hf _ _ (Nat.le_refl _) hd2 rfl
      have hr := run_endRound (P := P) jump hl3
      refine ⟨?_, World.putObj_heap_same (Array.getElem?_eq_some_iff.1 hl3).1, (World.putObj_heap_other (by omega)).trans hd3⟩
      rw [hr, hrc]
    cases e with
    | normal =>
      obtain ⟨hf, hk, hi3⟩ := hp
      obtain ⟨hr, hl4, hd4⟩ := fin none hf
      exact ⟨_, _, hr, .inl ⟨rfl, ⟨hI _ _ _ hi3 (putObj_only W3 _ _ (up (by omega))), hl4, hd4⟩, (hk2.trans hk).trans (fun k hb => World.putObj_heap_other (by have := hB k hb; omega))⟩⟩
    | ret =>
      obtain ⟨hf, hi3⟩ := hp
      obtain ⟨hr, hl4, hd4⟩ := fin (some .ret) hf
      exact ⟨_, _, hr, .inr ⟨rfl, hIx _ _ _ hi3 (putObj_only W3 _ _ (up (by omega))), hl4, hd4⟩⟩
    | _ => exact hp.elim
  · rintro e W2 ⟨⟨v, rfl⟩, ⟨xs, hS, hi, hl, hd⟩ | ⟨pre, hS, hi, hl, hd⟩⟩
    · refine ⟨none, _, by have := run_endLoop (P := P) hl (by rw [hrc]; simp); rw [hrc] at this; exact this, ?_⟩
      exact hdone _ xs _ (Nat.le_refl _) hS (hI _ _ _ hi (putObj_only W2 _ _ (up (by omega)))) ((World.putObj_heap_other (by omega)).trans hd)
    · refine ⟨some .ret, _, by have := run_endLoop (P := P) hl (by rw [hrc]; simp); rw [hrc] at this; exact this, ?_⟩
      exact hstop _ pre _ (Nat.le_refl _) hS (hIx _ _ _ hi (putObj_only W2 _ _ (up (by omega)))) ((World.putObj_heap_other (by omega)).trans hd)
end
end Go.Proofs.YthifcfdbifhanaaGreatDoor
