/-
  The bodies of the library's functions in this program are those that the library's contracts speak of.
-/
import Derived.Shelf.Strings.Trim
import Derived.Shelf.Small.Wraps
import Derived.Shelf.Utf8.AppendRunePlain
import Derived.Shelf.Strings.Prefix
import Derived.Shelf.Strings.Runes
import Derived.Test.YtfiijlmpfpmgiaaGreatDoorChecked
import Derived.Test.YtfiijlmpfpmgiaaGreatDoorMathToRules
import Derived.Deep.QuietTactic
import Derived.BigQuiet
import Derived.Lib.MapLaws
import Derived.Lib.TrimAscii
namespace Go.Proofs
open Go.Shelf
def Tryz.lays231_ren : Go.Shelf.Ren := ⟨fun | 231 => 223 | n => n, fun | 9 => 9 | 5 => 5 | 3 => 3 | 4 => 4 | n => n, fun | n => n⟩
theorem Tryz.lays231 : Go.Proofs.Lays.n231 Tryz.prog Tryz.lays231_ren := {
  mixed := by kernel_rfl
  f231 := Tryz.func223.trans (congrArg some (by kernel_rfl))
  t3 := Tryz.underlying3
  a3 := Tryz.isAgg3
  z3 := Tryz.sizeOf3
  v3 := Tryz.zeroValue3
  t4 := Tryz.underlying4
  a4 := Tryz.isAgg4
  z4 := Tryz.sizeOf4
  v4 := Tryz.zeroValue4
  t5 := Tryz.underlying5
  a5 := Tryz.isAgg5
  z5 := Tryz.sizeOf5
  v5 := Tryz.zeroValue5
  t9 := Tryz.underlying9
  a9 := Tryz.isAgg9
  z9 := Tryz.sizeOf9
  v9 := Tryz.zeroValue9 }
def Tryz.lays232_ren : Go.Shelf.Ren := ⟨fun | 232 => 224 | n => n, fun | 9 => 9 | 5 => 5 | 3 => 3 | 4 => 4 | n => n, fun | n => n⟩
theorem Tryz.lays232 : Go.Proofs.Lays.n232 Tryz.prog Tryz.lays232_ren := {
  mixed := by kernel_rfl
  f232 := Tryz.func224.trans (congrArg some (by kernel_rfl))
  t3 := Tryz.underlying3
  a3 := Tryz.isAgg3
  z3 := Tryz.sizeOf3
  v3 := Tryz.zeroValue3
  t4 := Tryz.underlying4
  a4 := Tryz.isAgg4
  z4 := Tryz.sizeOf4
  v4 := Tryz.zeroValue4
  t5 := Tryz.underlying5
  a5 := Tryz.isAgg5
  z5 := Tryz.sizeOf5
  v5 := Tryz.zeroValue5
  t9 := Tryz.underlying9
  a9 := Tryz.isAgg9
  z9 := Tryz.sizeOf9
  v9 := Tryz.zeroValue9 }
def Tryz.lays162_ren : Go.Shelf.Ren := ⟨fun | 162 => 249 | 232 => 224 | 227 => 106 | 234 => 226 | 236 => 228 | 228 => 107 | 271 => 243 | 151 => 233 | 120 => 253 | 197 => 56 | 152 => 104 | 260 => 76 | 137 => 59 | 119 => 145 | 224 => 146 | 225 => 147 | 217 => 79 | 266 => 108 | n => n, fun | 9 => 9 | 4 => 4 | 3 => 3 | 5 => 5 | 117 => 171 | 116 => 170 | 0 => 0 | 124 => 220 | 21 => 21 | 105 => 121 | 46 => 85 | 119 => 173 | 139 => 176 | 138 => 175 | n => n, fun | 3 => 1 | 4 => 2 | n => n⟩
theorem Tryz.lays162 : Go.Proofs.Lays.n162 Tryz.prog Tryz.lays162_ren := {
  mixed := by kernel_rfl
  f119 := Tryz.func145.trans (congrArg some (by kernel_rfl))
  f120 := Tryz.func253.trans (congrArg some (by kernel_rfl))
  f137 := Tryz.func59.trans (congrArg some (by kernel_rfl))
  f151 := Tryz.func233.trans (congrArg some (by kernel_rfl))
  f152 := Tryz.func104.trans (congrArg some (by kernel_rfl))
  f162 := Tryz.func249.trans (congrArg some (by kernel_rfl))
  f197 := Tryz.func56.trans (congrArg some (by kernel_rfl))
  f217 := Tryz.func79.trans (congrArg some (by kernel_rfl))
  f224 := Tryz.func146.trans (congrArg some (by kernel_rfl))
  f225 := Tryz.func147.trans (congrArg some (by kernel_rfl))
  f227 := Tryz.func106.trans (congrArg some (by kernel_rfl))
  f228 := Tryz.func107.trans (congrArg some (by kernel_rfl))
  f232 := Tryz.func224.trans (congrArg some (by kernel_rfl))
  f234 := Tryz.func226.trans (congrArg some (by kernel_rfl))
  f236 := Tryz.func228.trans (congrArg some (by kernel_rfl))
  f260 := Tryz.func76.trans (congrArg some (by kernel_rfl))
  f266 := Tryz.func108.trans (congrArg some (by kernel_rfl))
  f271 := Tryz.func243.trans (congrArg some (by kernel_rfl))
  t0 := Tryz.underlying0
  a0 := Tryz.isAgg0
  z0 := Tryz.sizeOf0
  v0 := Tryz.zeroValue0
  t3 := Tryz.underlying3
  a3 := Tryz.isAgg3
  z3 := Tryz.sizeOf3
  v3 := Tryz.zeroValue3
  t4 := Tryz.underlying4
  a4 := Tryz.isAgg4
  z4 := Tryz.sizeOf4
  v4 := Tryz.zeroValue4
  t5 := Tryz.underlying5
  a5 := Tryz.isAgg5
  z5 := Tryz.sizeOf5
  v5 := Tryz.zeroValue5
  t9 := Tryz.underlying9
  a9 := Tryz.isAgg9
  z9 := Tryz.sizeOf9
  v9 := Tryz.zeroValue9
  t21 := Tryz.underlying21
  a21 := Tryz.isAgg21
  z21 := Tryz.sizeOf21
  v21 := Tryz.zeroValue21
  t46 := Tryz.underlying85
  a46 := Tryz.isAgg85
  z46 := Tryz.sizeOf85
  v46 := Tryz.zeroValue85
  t105 := Tryz.underlying121
  a105 := Tryz.isAgg121
  z105 := Tryz.sizeOf121
  v105 := Tryz.zeroValue121
  t116 := Tryz.underlying170
  a116 := Tryz.isAgg170
  z116 := Tryz.sizeOf170
  t117 := Tryz.underlying171
  a117 := Tryz.isAgg171
  z117 := Tryz.sizeOf171
  v117 := Tryz.zeroValue171
  t119 := Tryz.underlying173
  a119 := Tryz.isAgg173
  z119 := Tryz.sizeOf173
  t124 := Tryz.underlying220
  a124 := Tryz.isAgg220
  z124 := Tryz.sizeOf220
  v124 := Tryz.zeroValue220
  t138 := Tryz.underlying175
  a138 := Tryz.isAgg175
  z138 := Tryz.sizeOf175
  v138 := Tryz.zeroValue175
  t139 := Tryz.underlying176
  a139 := Tryz.isAgg176
  z139 := Tryz.sizeOf176
  v139 := Tryz.zeroValue176
  g3 := by kernel_rfl
  g4 := by kernel_rfl }
def Tryz.lays160_ren : Go.Shelf.Ren := ⟨fun | 160 => 203 | 232 => 224 | 231 => 223 | 227 => 106 | 234 => 226 | 233 => 225 | 236 => 228 | 235 => 227 | 228 => 107 | 271 => 243 | 151 => 233 | 197 => 56 | 120 => 253 | 152 => 104 | 260 => 76 | 137 => 59 | 119 => 145 | 224 => 146 | 225 => 147 | 217 => 79 | 266 => 108 | n => n, fun | 9 => 9 | 4 => 4 | 3 => 3 | 5 => 5 | 117 => 171 | 116 => 170 | 0 => 0 | 124 => 220 | 21 => 21 | 105 => 121 | 46 => 85 | 119 => 173 | 139 => 176 | 138 => 175 | n => n, fun | 3 => 1 | 4 => 2 | n => n⟩
theorem Tryz.lays160 : Go.Proofs.Lays.n160 Tryz.prog Tryz.lays160_ren := {
  mixed := by kernel_rfl
  f119 := Tryz.func145.trans (congrArg some (by kernel_rfl))
  f120 := Tryz.func253.trans (congrArg some (by kernel_rfl))
  f137 := Tryz.func59.trans (congrArg some (by kernel_rfl))
  f151 := Tryz.func233.trans (congrArg some (by kernel_rfl))
  f152 := Tryz.func104.trans (congrArg some (by kernel_rfl))
  f160 := Tryz.func203.trans (congrArg some (by kernel_rfl))
  f197 := Tryz.func56.trans (congrArg some (by kernel_rfl))
  f217 := Tryz.func79.trans (congrArg some (by kernel_rfl))
  f224 := Tryz.func146.trans (congrArg some (by kernel_rfl))
  f225 := Tryz.func147.trans (congrArg some (by kernel_rfl))
  f227 := Tryz.func106.trans (congrArg some (by kernel_rfl))
  f228 := Tryz.func107.trans (congrArg some (by kernel_rfl))
  f231 := Tryz.func223.trans (congrArg some (by kernel_rfl))
  f232 := Tryz.func224.trans (congrArg some (by kernel_rfl))
  f233 := Tryz.func225.trans (congrArg some (by kernel_rfl))
  f234 := Tryz.func226.trans (congrArg some (by kernel_rfl))
  f235 := Tryz.func227.trans (congrArg some (by kernel_rfl))
  f236 := Tryz.func228.trans (congrArg some (by kernel_rfl))
  f260 := Tryz.func76.trans (congrArg some (by kernel_rfl))
  f266 := Tryz.func108.trans (congrArg some (by kernel_rfl))
  f271 := Tryz.func243.trans (congrArg some (by kernel_rfl))
  t0 := Tryz.underlying0
  a0 := Tryz.isAgg0
  z0 := Tryz.sizeOf0
  v0 := Tryz.zeroValue0
  t3 := Tryz.underlying3
  a3 := Tryz.isAgg3
  z3 := Tryz.sizeOf3
  v3 := Tryz.zeroValue3
  t4 := Tryz.underlying4
  a4 := Tryz.isAgg4
  z4 := Tryz.sizeOf4
  v4 := Tryz.zeroValue4
  t5 := Tryz.underlying5
  a5 := Tryz.isAgg5
  z5 := Tryz.sizeOf5
  v5 := Tryz.zeroValue5
  t9 := Tryz.underlying9
  a9 := Tryz.isAgg9
  z9 := Tryz.sizeOf9
  v9 := Tryz.zeroValue9
  t21 := Tryz.underlying21
  a21 := Tryz.isAgg21
  z21 := Tryz.sizeOf21
  v21 := Tryz.zeroValue21
  t46 := Tryz.underlying85
  a46 := Tryz.isAgg85
  z46 := Tryz.sizeOf85
  v46 := Tryz.zeroValue85
  t105 := Tryz.underlying121
  a105 := Tryz.isAgg121
  z105 := Tryz.sizeOf121
  v105 := Tryz.zeroValue121
  t116 := Tryz.underlying170
  a116 := Tryz.isAgg170
  z116 := Tryz.sizeOf170
  t117 := Tryz.underlying171
  a117 := Tryz.isAgg171
  z117 := Tryz.sizeOf171
  v117 := Tryz.zeroValue171
  t119 := Tryz.underlying173
  a119 := Tryz.isAgg173
  z119 := Tryz.sizeOf173
  t124 := Tryz.underlying220
  a124 := Tryz.isAgg220
  z124 := Tryz.sizeOf220
  v124 := Tryz.zeroValue220
  t138 := Tryz.underlying175
  a138 := Tryz.isAgg175
  z138 := Tryz.sizeOf175
  v138 := Tryz.zeroValue175
  t139 := Tryz.underlying176
  a139 := Tryz.isAgg176
  z139 := Tryz.sizeOf176
  v139 := Tryz.zeroValue176
  g3 := by kernel_rfl
  g4 := by kernel_rfl }
def Tryz.lays210_ren : Go.Shelf.Ren := ⟨fun | 210 => 245 | 206 => 70 | n => n, fun | 9 => 9 | 4 => 4 | 3 => 3 | n => n, fun | n => n⟩
theorem Tryz.lays210 : Go.Proofs.Lays.n210 Tryz.prog Tryz.lays210_ren := {
  mixed := by kernel_rfl
  f206 := Tryz.func70.trans (congrArg some (by kernel_rfl))
  f210 := Tryz.func245.trans (congrArg some (by kernel_rfl))
  t3 := Tryz.underlying3
  a3 := Tryz.isAgg3
  z3 := Tryz.sizeOf3
  v3 := Tryz.zeroValue3
  t4 := Tryz.underlying4
  a4 := Tryz.isAgg4
  z4 := Tryz.sizeOf4
  v4 := Tryz.zeroValue4
  t9 := Tryz.underlying9
  a9 := Tryz.isAgg9
  z9 := Tryz.sizeOf9
  v9 := Tryz.zeroValue9 }
def Tryz.lays103_ren : Go.Shelf.Ren := ⟨fun | 103 => 234 | 210 => 245 | 206 => 70 | n => n, fun | 9 => 9 | 4 => 4 | 24 => 195 | 3 => 3 | n => n, fun | n => n⟩
theorem Tryz.lays103 : Go.Proofs.Lays.n103 Tryz.prog Tryz.lays103_ren := {
  mixed := by kernel_rfl
  f103 := Tryz.func234.trans (congrArg some (by kernel_rfl))
  f206 := Tryz.func70.trans (congrArg some (by kernel_rfl))
  f210 := Tryz.func245.trans (congrArg some (by kernel_rfl))
  t3 := Tryz.underlying3
  a3 := Tryz.isAgg3
  z3 := Tryz.sizeOf3
  v3 := Tryz.zeroValue3
  t4 := Tryz.underlying4
  a4 := Tryz.isAgg4
  z4 := Tryz.sizeOf4
  v4 := Tryz.zeroValue4
  t9 := Tryz.underlying9
  a9 := Tryz.isAgg9
  z9 := Tryz.sizeOf9
  v9 := Tryz.zeroValue9
  t24 := Tryz.underlying195
  a24 := Tryz.isAgg195
  z24 := Tryz.sizeOf195
  v24 := Tryz.zeroValue195 }
def Tryz.lays278_ren : Go.Shelf.Ren := ⟨fun | 278 => 244 | n => n, fun | 37 => 67 | 21 => 21 | 51 => 267 | 4 => 4 | 46 => 85 | 5 => 5 | n => n, fun | n => n⟩
theorem Tryz.lays278 : Go.Proofs.Lays.n278 Tryz.prog Tryz.lays278_ren := {
  mixed := by kernel_rfl
  f278 := Tryz.func244.trans (congrArg some (by kernel_rfl))
  t4 := Tryz.underlying4
  a4 := Tryz.isAgg4
  z4 := Tryz.sizeOf4
  v4 := Tryz.zeroValue4
  t5 := Tryz.underlying5
  a5 := Tryz.isAgg5
  z5 := Tryz.sizeOf5
  v5 := Tryz.zeroValue5
  t21 := Tryz.underlying21
  a21 := Tryz.isAgg21
  z21 := Tryz.sizeOf21
  v21 := Tryz.zeroValue21
  t37 := Tryz.underlying67
  a37 := Tryz.isAgg67
  z37 := Tryz.sizeOf67
  v37 := Tryz.zeroValue67
  t46 := Tryz.underlying85
  a46 := Tryz.isAgg85
  z46 := Tryz.sizeOf85
  v46 := Tryz.zeroValue85
  t51 := Tryz.underlying267
  a51 := Tryz.isAgg267
  z51 := Tryz.sizeOf267
  v51 := Tryz.zeroValue267 }
def Tryz.lays242_ren : Go.Shelf.Ren := ⟨fun | 242 => 230 | 278 => 244 | n => n, fun | 37 => 67 | 21 => 21 | 51 => 267 | 4 => 4 | 5 => 5 | 46 => 85 | n => n, fun | n => n⟩
theorem Tryz.lays242 : Go.Proofs.Lays.n242 Tryz.prog Tryz.lays242_ren := {
  mixed := by kernel_rfl
  f242 := Tryz.func230.trans (congrArg some (by kernel_rfl))
  f278 := Tryz.func244.trans (congrArg some (by kernel_rfl))
  t4 := Tryz.underlying4
  a4 := Tryz.isAgg4
  z4 := Tryz.sizeOf4
  v4 := Tryz.zeroValue4
  t5 := Tryz.underlying5
  a5 := Tryz.isAgg5
  z5 := Tryz.sizeOf5
  v5 := Tryz.zeroValue5
  t21 := Tryz.underlying21
  a21 := Tryz.isAgg21
  z21 := Tryz.sizeOf21
  v21 := Tryz.zeroValue21
  t37 := Tryz.underlying67
  a37 := Tryz.isAgg67
  z37 := Tryz.sizeOf67
  v37 := Tryz.zeroValue67
  t46 := Tryz.underlying85
  a46 := Tryz.isAgg85
  z46 := Tryz.sizeOf85
  v46 := Tryz.zeroValue85
  t51 := Tryz.underlying267
  a51 := Tryz.isAgg267
  z51 := Tryz.sizeOf267
  v51 := Tryz.zeroValue267 }
def Tryz.lays206_ren : Go.Shelf.Ren := ⟨fun | 206 => 70 | n => n, fun | 9 => 9 | 4 => 4 | 3 => 3 | n => n, fun | n => n⟩
theorem Tryz.lays206 : Go.Proofs.Lays.n206 Tryz.prog Tryz.lays206_ren := {
  mixed := by kernel_rfl
  f206 := Tryz.func70.trans (congrArg some (by kernel_rfl))
  t3 := Tryz.underlying3
  a3 := Tryz.isAgg3
  z3 := Tryz.sizeOf3
  v3 := Tryz.zeroValue3
  t4 := Tryz.underlying4
  a4 := Tryz.isAgg4
  z4 := Tryz.sizeOf4
  v4 := Tryz.zeroValue4
  t9 := Tryz.underlying9
  a9 := Tryz.isAgg9
  z9 := Tryz.sizeOf9
  v9 := Tryz.zeroValue9 }
def Tryz.lays152_ren : Go.Shelf.Ren := ⟨fun | 152 => 104 | 137 => 59 | 119 => 145 | 224 => 146 | 225 => 147 | 217 => 79 | 266 => 108 | n => n, fun | 9 => 9 | 21 => 21 | 3 => 3 | 4 => 4 | 5 => 5 | 0 => 0 | 46 => 85 | n => n, fun | n => n⟩
theorem Tryz.lays152 : Go.Proofs.Lays.n152 Tryz.prog Tryz.lays152_ren := {
  mixed := by kernel_rfl
  f119 := Tryz.func145.trans (congrArg some (by kernel_rfl))
  f137 := Tryz.func59.trans (congrArg some (by kernel_rfl))
  f152 := Tryz.func104.trans (congrArg some (by kernel_rfl))
  f217 := Tryz.func79.trans (congrArg some (by kernel_rfl))
  f224 := Tryz.func146.trans (congrArg some (by kernel_rfl))
  f225 := Tryz.func147.trans (congrArg some (by kernel_rfl))
  f266 := Tryz.func108.trans (congrArg some (by kernel_rfl))
  t0 := Tryz.underlying0
  a0 := Tryz.isAgg0
  z0 := Tryz.sizeOf0
  v0 := Tryz.zeroValue0
  t3 := Tryz.underlying3
  a3 := Tryz.isAgg3
  z3 := Tryz.sizeOf3
  v3 := Tryz.zeroValue3
  t4 := Tryz.underlying4
  a4 := Tryz.isAgg4
  z4 := Tryz.sizeOf4
  v4 := Tryz.zeroValue4
  t5 := Tryz.underlying5
  a5 := Tryz.isAgg5
  z5 := Tryz.sizeOf5
  v5 := Tryz.zeroValue5
  t9 := Tryz.underlying9
  a9 := Tryz.isAgg9
  z9 := Tryz.sizeOf9
  v9 := Tryz.zeroValue9
  t21 := Tryz.underlying21
  a21 := Tryz.isAgg21
  z21 := Tryz.sizeOf21
  v21 := Tryz.zeroValue21
  t46 := Tryz.underlying85
  a46 := Tryz.isAgg85
  z46 := Tryz.sizeOf85
  v46 := Tryz.zeroValue85 }
def Tryz.lays151_ren : Go.Shelf.Ren := ⟨fun | 151 => 233 | 152 => 104 | 137 => 59 | 119 => 145 | 224 => 146 | 225 => 147 | 217 => 79 | 266 => 108 | n => n, fun | 9 => 9 | 21 => 21 | 4 => 4 | 3 => 3 | 5 => 5 | 0 => 0 | 46 => 85 | n => n, fun | n => n⟩
theorem Tryz.lays151 : Go.Proofs.Lays.n151 Tryz.prog Tryz.lays151_ren := {
  mixed := by kernel_rfl
  f119 := Tryz.func145.trans (congrArg some (by kernel_rfl))
  f137 := Tryz.func59.trans (congrArg some (by kernel_rfl))
  f151 := Tryz.func233.trans (congrArg some (by kernel_rfl))
  f152 := Tryz.func104.trans (congrArg some (by kernel_rfl))
  f217 := Tryz.func79.trans (congrArg some (by kernel_rfl))
  f224 := Tryz.func146.trans (congrArg some (by kernel_rfl))
  f225 := Tryz.func147.trans (congrArg some (by kernel_rfl))
  f266 := Tryz.func108.trans (congrArg some (by kernel_rfl))
  t0 := Tryz.underlying0
  a0 := Tryz.isAgg0
  z0 := Tryz.sizeOf0
  v0 := Tryz.zeroValue0
  t3 := Tryz.underlying3
  a3 := Tryz.isAgg3
  z3 := Tryz.sizeOf3
  v3 := Tryz.zeroValue3
  t4 := Tryz.underlying4
  a4 := Tryz.isAgg4
  z4 := Tryz.sizeOf4
  v4 := Tryz.zeroValue4
  t5 := Tryz.underlying5
  a5 := Tryz.isAgg5
  z5 := Tryz.sizeOf5
  v5 := Tryz.zeroValue5
  t9 := Tryz.underlying9
  a9 := Tryz.isAgg9
  z9 := Tryz.sizeOf9
  v9 := Tryz.zeroValue9
  t21 := Tryz.underlying21
  a21 := Tryz.isAgg21
  z21 := Tryz.sizeOf21
  v21 := Tryz.zeroValue21
  t46 := Tryz.underlying85
  a46 := Tryz.isAgg85
  z46 := Tryz.sizeOf85
  v46 := Tryz.zeroValue85 }
end Go.Proofs

/-
  Rows of digits and the numbers that they tell.
-/
namespace Go.Proofs.YtfiijlmpfpmgiaaGreatDoor

def dg (n : Nat) : UInt8 := UInt8.ofNat (48 + n % 10)
theorem dg_toNat (n : Nat) : (dg n).toNat = 48 + n % 10 := by
  have : 48 + n % 10 < 256 := by omega
  simp [dg, Nat.mod_eq_of_lt this]
theorem dg_isDig (n : Nat) : isDig (dg n) = true := by
  unfold isDig; rw [dg_toNat]; simp; omega
theorem isDig_iff (b : UInt8) : isDig b = true ↔ 48 ≤ b.toNat ∧ b.toNat ≤ 57 := by unfold isDig; simp
theorem dg_of (b : UInt8) (h : isDig b = true) : dg (b.toNat - 48) = b := by
  rw [isDig_iff] at h
  apply UInt8.toNat_inj.1
  rw [dg_toNat]; omega
theorem dg_zero (n : Nat) (h : n % 10 = 0) : dg n = 48 := by
  apply UInt8.toNat_inj.1; rw [dg_toNat, h]; rfl
theorem dg_ne (n : Nat) (h : n % 10 ≠ 0) : dg n ≠ 48 := by
  intro e
  have := congrArg UInt8.toNat e
  rw [dg_toNat] at this
  have h48 : (48 : UInt8).toNat = 48 := rfl
  omega
theorem padL_succ (k n : Nat) : padL (k + 1) n = padL k (n / 10) ++ [dg n] := rfl
theorem padL_length (k : Nat) : ∀ n, (padL k n).length = k := by
  induction k with
  | zero => intro n; rfl
  | succ k ih => intro n; rw [padL_succ, List.length_append, ih]; rfl
theorem padL_dig (k : Nat) : ∀ n, (padL k n).all isDig = true := by
  induction k with
  | zero => intro n; rfl
  | succ k ih => intro n; rw [padL_succ, List.all_append, ih]; simp [dg_isDig]
theorem padL_cons (k : Nat) : ∀ n, padL (k + 1) n = dg (n / 10 ^ k) :: padL k n := by
  induction k with
  | zero => intro n; rw [padL_succ]; simp only [padL, Nat.pow_zero, Nat.div_one, List.nil_append]
  | succ k ih =>
    intro n
    rw [padL_succ (k + 1) n, ih (n / 10), padL_succ k n, Nat.div_div_eq_div_mul, Nat.pow_succ, Nat.mul_comm 10]
    rfl
theorem padL_mod (k : Nat) : ∀ n, padL k (n % 10 ^ k) = padL k n := by
  induction k with
  | zero => intro n; rfl
  | succ k ih =>
    intro n
    rw [padL_succ, padL_succ]
    have e1 : n % 10 ^ (k + 1) / 10 = n / 10 % 10 ^ k := by
      rw [Nat.pow_succ, Nat.mul_comm, Nat.mod_mul_right_div_self]
    have e2 : dg (n % 10 ^ (k + 1)) = dg n := by
      unfold dg
      rw [Nat.pow_succ, Nat.mod_mul_left_mod]
    rw [e1, ih, e2]
theorem padL_put (k r v : Nat) (hr : r < 10 ^ k) : padL (k + 1) (r + v * 10 ^ k) = dg v :: padL k r := by
  rw [padL_cons]
  have hp : 0 < 10 ^ k := Nat.pow_pos (by omega)
  rw [Nat.add_mul_div_right _ _ hp, Nat.div_eq_of_lt hr, Nat.zero_add]
  congr 1
  rw [← padL_mod k (r + v * 10 ^ k), Nat.add_mul_mod_self_right, padL_mod]

theorem digV_foldl (l : List UInt8) : ∀ n, l.foldl (fun n b => 10 * n + (b.toNat - 48)) n = n * 10 ^ l.length + digV l := by
  induction l with
  | nil => intro n; simp [digV]
  | cons b l ih =>
    intro n
    unfold digV
    rw [List.foldl_cons, List.foldl_cons, ih, ih (10 * 0 + (b.toNat - 48)), List.length_cons, Nat.pow_succ]
    rw [Nat.mul_zero, Nat.zero_add, Nat.add_mul, Nat.mul_comm 10 n, Nat.mul_assoc, Nat.mul_comm 10]
    omega
theorem digV_nil : digV [] = 0 := rfl
theorem digV_cons (b : UInt8) (l : List UInt8) : digV (b :: l) = (b.toNat - 48) * 10 ^ l.length + digV l := by
  have := digV_foldl l (10 * 0 + (b.toNat - 48))
  rw [Nat.mul_zero, Nat.zero_add] at this
  rw [← this]; simp [digV]
theorem digV_snoc (l : List UInt8) (b : UInt8) : digV (l ++ [b]) = 10 * digV l + (b.toNat - 48) := by unfold digV; rw [List.foldl_append]; rfl
theorem digV_pad (k : Nat) : ∀ n, digV (padL k n) = n % 10 ^ k := by
  induction k with
  | zero => intro n; simp [padL, digV, Nat.mod_one]
  | succ k ih =>
    intro n
    rw [padL_succ, digV_snoc, ih, dg_toNat, Nat.pow_succ, Nat.mul_comm (10 ^ k) 10, Nat.mod_mul]
    omega
theorem digV_lt (l : List UInt8) (h : l.all isDig = true) : digV l < 10 ^ l.length := by
  induction l with
  | nil => simp [digV]
  | cons b l ih =>
    rw [List.all_cons, Bool.and_eq_true, isDig_iff] at h
    have := ih h.2
    rw [digV_cons, List.length_cons, Nat.pow_succ]
    have h9 : b.toNat - 48 ≤ 9 := by omega
    have := Nat.mul_le_mul_right (10 ^ l.length) h9
    omega
theorem pad_digV (l : List UInt8) (h : l.all isDig = true) : padL l.length (digV l) = l := by
  induction l with
  | nil => rfl
  | cons b l ih =>
    rw [List.all_cons, Bool.and_eq_true] at h
    have hlt := digV_lt l h.2
    rw [digV_cons, List.length_cons, Nat.add_comm _ (digV l), padL_put _ _ _ hlt, ih h.2, dg_of b h.1]

theorem strip_all (l : List UInt8) (h : l.dropWhile (· == 48) = []) : ∀ b ∈ l, b = 48 := by
  induction l with
  | nil => intro b hb; simp at hb
  | cons a t ih =>
    by_cases ha : a = 48
    · subst ha
      rw [List.dropWhile_cons_of_pos (by rfl)] at h
      intro b hb
      rcases List.mem_cons.1 hb with e | e
      · exact e
      · exact ih h b e
    · rw [List.dropWhile_cons_of_neg (by simpa using ha)] at h
      simp at h
/-- the noughts ahead don't count -/
theorem strip_pad (k n : Nat) (h : n < 10 ^ k) : ∀ j, (padL (k + j) n).dropWhile (· == 48) = (padL k n).dropWhile (· == 48) := by
  intro j
  induction j with
  | zero => rfl
  | succ j ih =>
    have h2 : n < 10 ^ (k + j) := Nat.lt_of_lt_of_le h (Nat.pow_le_pow_right (by omega) (by omega))
    rw [← Nat.add_assoc, padL_cons, Nat.div_eq_of_lt h2, dg_zero 0 rfl, List.dropWhile_cons_of_pos (by rfl), ih]
theorem strip_any (k j n : Nat) (h : n < 10 ^ k) (h2 : n < 10 ^ j) : (padL k n).dropWhile (· == 48) = (padL j n).dropWhile (· == 48) := by
  by_cases hk : k ≤ j
  · obtain ⟨i, rfl⟩ : ∃ i, j = k + i := ⟨j - k, by omega⟩
    exact (strip_pad k n h i).symm
  · obtain ⟨i, rfl⟩ : ∃ i, k = j + i := ⟨k - j, by omega⟩
    exact strip_pad j n h2 i
theorem lt_ten_log (n : Nat) : n < 10 ^ (n.log2 + 1) :=
  Nat.lt_of_lt_of_le Nat.lt_log2_self (Nat.pow_le_pow_left (by omega) _)
theorem strip_zero (k : Nat) : (padL k 0).dropWhile (· == 48) = [] := by
  have := strip_any k 0 0 (Nat.pow_pos (by omega)) (by simp)
  rw [this]; rfl
/-- what is left of a row of digits, of which one at least stays -/
theorem showN_of (k n : Nat) (h : n < 10 ^ k) : showN n = (if (padL k n).dropWhile (· == 48) = [] then [48] else (padL k n).dropWhile (· == 48)) := by
  unfold showN
  by_cases h0 : n = 0
  · subst h0; rw [if_pos rfl, strip_zero, if_pos rfl]
  · rw [if_neg h0, strip_any _ k n (lt_ten_log n) h]
    split
    · rename_i he
      exfalso
      have hall : ∀ b ∈ padL k n, b = 48 := by
        exact strip_all _ he
      have e : padL k n = List.replicate k 48 := by
        rw [List.eq_replicate_iff]; exact ⟨padL_length k n, hall⟩
      have e2 : padL k 0 = List.replicate k 48 := by
        rw [List.eq_replicate_iff]
        exact ⟨padL_length k 0, strip_all _ (strip_zero k)⟩
      have := congrArg digV (e.trans e2.symm)
      rw [digV_pad, digV_pad, Nat.mod_eq_of_lt h, Nat.zero_mod] at this
      exact h0 this
    · rfl

theorem isCnt_iff (l : List UInt8) : isCnt l = true ↔ l.all isDig = true ∧ (l = [48] ∨ (l ≠ [] ∧ l.head? ≠ some 48)) := by
  unfold isCnt; simp [Bool.and_eq_true, Bool.or_eq_true]
theorem cnt_ne (l : List UInt8) (h : isCnt l = true) : l ≠ [] := by
  rw [isCnt_iff] at h
  rcases h.2 with h | h
  · rw [h]; simp
  · exact h.1
theorem strip_head (l : List UInt8) (h : l.head? ≠ some 48) : l.dropWhile (· == 48) = l := by
  cases l with
  | nil => rfl
  | cons a t =>
    rw [List.dropWhile_cons_of_neg]
    simpa using h
theorem cnt_pos (l : List UInt8) (h : isCnt l = true) (h2 : l ≠ [48]) : digV l ≠ 0 := by
  rw [isCnt_iff] at h
  obtain ⟨hd, h | ⟨hn, hh⟩⟩ := h
  · exact absurd h h2
  · cases l with
    | nil => exact absurd rfl hn
    | cons a t =>
      rw [digV_cons]
      rw [List.all_cons, Bool.and_eq_true, isDig_iff] at hd
      have ha : a ≠ 48 := by simpa using hh
      have ha' : a.toNat ≠ 48 := fun e => ha (UInt8.toNat_inj.1 e)
      have : 1 * 10 ^ t.length ≤ (a.toNat - 48) * 10 ^ t.length := Nat.mul_le_mul_right _ (by omega)
      have hp : 0 < 10 ^ t.length := Nat.pow_pos (by omega)
      omega
/-- a count is how its number is written -/
theorem show_dig (l : List UInt8) (h : isCnt l = true) : showN (digV l) = l := by
  by_cases h0 : l = [48]
  · subst h0; rfl
  · have hc := (isCnt_iff l).1 h
    have hd := hc.1
    have hh : l.head? ≠ some 48 := by rcases hc.2 with h | h; exact absurd h h0; exact h.2
    rw [showN_of l.length _ (digV_lt l hd), pad_digV l hd, strip_head l hh, if_neg (cnt_ne l h)]
theorem all_drop (l : List UInt8) (p q : UInt8 → Bool) (h : l.all p = true) : (l.dropWhile q).all p = true := by
  rw [List.all_eq_true] at *
  exact fun b hb => h b ((List.dropWhile_sublist q).mem hb)
theorem digV_strip (l : List UInt8) : digV (l.dropWhile (· == 48)) = digV l := by
  induction l with
  | nil => rfl
  | cons a t ih =>
    by_cases h : a = 48
    · subst h
      rw [List.dropWhile_cons_of_pos (by rfl), ih, digV_cons]
      have : (48 : UInt8).toNat = 48 := rfl
      rw [this]; simp
    · rw [List.dropWhile_cons_of_neg (by simpa using h)]
theorem show_cnt (n : Nat) : isCnt (showN n) = true := by
  rw [isCnt_iff]
  unfold showN
  split
  · exact ⟨by decide, Or.inl rfl⟩
  · rename_i h0
    refine ⟨all_drop _ _ _ (padL_dig _ _), Or.inr ⟨?_, ?_⟩⟩
    · intro e
      have := showN_of _ n (lt_ten_log n)
      rw [e, if_pos rfl] at this
      unfold showN at this
      rw [if_neg h0, e] at this
      simp at this
    · intro e
      have := List.head?_dropWhile_not (fun b : UInt8 => b == 48) (padL (n.log2 + 1) n)
      rw [e] at this
      simp at this
theorem dig_show (n : Nat) : digV (showN n) = n := by
  unfold showN
  split
  · rename_i h; subst h; rfl
  · rw [digV_strip, digV_pad, Nat.mod_eq_of_lt (lt_ten_log n)]
theorem show_len (n k : Nat) (h : n < 10 ^ k) (hk : 1 ≤ k) : (showN n).length ≤ k := by
  rw [showN_of k n h]
  split
  · simpa using hk
  · have := (List.dropWhile_sublist (l := padL k n) (· == 48)).length_le
    rw [padL_length] at this
    exact this
/-- the digit k places ahead of the last -/
theorem dig_at (l : List UInt8) (h : l.all isDig = true) (k : Nat) (hk : k < l.length) : (l[l.length - 1 - k]'(by omega)).toNat - 48 = digV l / 10 ^ k % 10 := by
  induction l with
  | nil => simp at hk
  | cons a t ih =>
    rw [List.all_cons, Bool.and_eq_true] at h
    have hlt := digV_lt t h.2
    have ha := (isDig_iff a).1 h.1
    by_cases he : k = t.length
    · subst he
      simp only [List.length_cons, Nat.add_sub_cancel, Nat.sub_self, List.getElem_cons_zero]
      rw [digV_cons, Nat.add_comm, Nat.add_mul_div_right _ _ (Nat.pow_pos (by omega)), Nat.div_eq_of_lt hlt]
      omega
    · have hk2 : k < t.length := by simp at hk; omega
      have e : (a :: t)[(a :: t).length - 1 - k]'(by simp; omega) = t[t.length - 1 - k]'(by omega) := by
        have : (a :: t).length - 1 - k = (t.length - 1 - k) + 1 := by simp; omega
        simp only [this, List.getElem_cons_succ]
      rw [e, ih h.2 hk2, digV_cons]
      have e2 : 10 ^ t.length = 10 ^ (t.length - k - 1) * 10 * 10 ^ k := by
        rw [← Nat.pow_succ, ← Nat.pow_add]; congr 1; omega
      rw [e2, ← Nat.mul_assoc, ← Nat.mul_assoc, Nat.add_comm ((a.toNat - 48) * _ * 10 * 10 ^ k), Nat.add_mul_div_right _ _ (Nat.pow_pos (by omega)), Nat.add_mul_mod_self_right]
theorem dig_beyond (l : List UInt8) (h : l.all isDig = true) (k : Nat) (hk : l.length ≤ k) : digV l / 10 ^ k % 10 = 0 := by
  rw [Nat.div_eq_of_lt (Nat.lt_of_lt_of_le (digV_lt l h) (Nat.pow_le_pow_right (by omega) hk))]
theorem mod_next (a k : Nat) : a % 10 ^ (k + 1) = a % 10 ^ k + a / 10 ^ k % 10 * 10 ^ k := by
  rw [Nat.pow_succ, Nat.mod_mul, Nat.mul_comm (10 ^ k)]
end Go.Proofs.YtfiijlmpfpmgiaaGreatDoor

/-
  The form of rows of digits.
-/
namespace Go.Proofs.YtfiijlmpfpmgiaaGreatDoor
open Go.RowKit

/-- a text and whether there is one -/
def ans (o : Option (List UInt8)) : Value := .tuple #[.string (str (o.getD [])), .bool o.isSome]
theorem ret_some {l : List UInt8} {s : ByteArray} {o : Option (List UInt8)} (ho : o = some l) (hs : s = str l) : Ending.returned (.tuple #[.string s, .bool true]) = .returned (ans o) := by subst ho hs; rfl
theorem ret_none {o : Option (List UInt8)} (ho : o = none) : Ending.returned (.tuple #[.string ⟨#[]⟩, .bool false]) = .returned (ans o) := by subst ho; rfl
theorem all_take_step (s : ByteArray) (k : Nat) (h : k < s.size) (p : UInt8 → Bool) (ha : ((byt s).take k).all p = true) (hb : p s[k] = true) : ((byt s).take (k + 1)).all p = true := by
  rw [take_snoc s k h, List.all_append, ha]; simp [hb]
theorem all_bad (s : ByteArray) (k : Nat) (h : k < s.size) (p : UInt8 → Bool) (hb : p s[k] = false) : (byt s).all p = false := by
  rw [List.all_eq_false]
  refine ⟨s[k], ?_, by simp [hb]⟩
  exact List.mem_of_getElem? (byt_get s k h)
theorem take_whole (s : ByteArray) (k : Nat) (h : ¬ k < s.size) : (byt s).take k = byt s := List.take_of_length_le (by rw [byt_length]; omega)
theorem filter_len (p : UInt8 → Bool) (l : List UInt8) (k : Nat) : ((l.take k).filter p).length ≤ k := by
  have := List.length_filter_le p (l.take k)
  rw [List.length_take] at this
  omega
set_option maxRecDepth 100000 in
set_option maxHeartbeats 1000000 in
theorem digKept_any (w : World) (s : ByteArray) (hs : s.size ≤ 65536) :
    Calls Tryz.prog 205 #[.agg #[], .string s] w fun e w' => e = .returned (ans (digK (byt s))) ∧ Fr w.heap.size w w' := by
  go_enter Tryz.func205, Tryz.ntmps205
  go_wp2_with (first
    | (at_make; refine wpList_make8 rfl _ _ rfl _ s.size rfl rfl rfl (by omega) ?_))
  intro v1 w1 hown1 hfr1
  have hf1 : Fr w.heap.size w w1 := ((Fr.refl _ _).alloc (Nat.le_refl _) _).trans (hfr1.mono (by simp))
  go_wp2
  go_loopw [6, 13] (fun v i wr => ∃ k : Nat, k ≤ s.size ∧ i = .int .i64 k ∧ Own wr w.heap.size v (((byt s).take k).filter isDig) ∧ ((byt s).take k).all (fun b => isDig b || b == 32) = true ∧ Fr w.heap.size w wr) (fun _ i _ => s.size - (intOf i).toNat)
  case atStart => exact ⟨0, Nat.zero_le _, rfl, hown1.mono (by simp), rfl, hf1⟩
  case round =>
    obtain ⟨k, hk, rfl, hown, hall, hfr⟩ := hrel
    clear hown1 hfr1 hf1
    have HA : Hid _ := hall
    clear hall
    by_cases hlt : k < s.size
    · have hb := s[k].toNat_lt
      have hfl := filter_len isDig (byt s) k
      cases hd : isDig s[k] with
      | true =>
        have hr : rDig (s[k].toNat : Int) = true := by rw [rDig_byte]; exact hd
        have HT : Hid (((byt s).take (k + 1)).filter isDig = ((byt s).take k).filter isDig ++ [s[k]]) := by
          show _ = _
          rw [take_snoc s k hlt, List.filter_append]; simp [hd]
        have HN : Hid _ := all_take_step s k hlt (fun b => isDig b || b == 32) HA.out (by simp [hd])
        clear hd
        go_wp2_with (first
          | (go_at_call 231; refine (isDigit_any _ _).mono ?_; rintro e w' ⟨rfl, rfl⟩; rw [hr])
          | (at_builtin; refine wpList_push rfl _ _ rfl _ w.heap.size _ _ [s[k]] _ hown hfr.size rfl 1 1 rfl rfl ?hcs ?hlen ?_))
        case hcs => rfl
        case hlen => simp; omega
        intro v2 w2 hown2 hfr2
        go_wp2
        go_roundw
        case rel => exact ⟨k + 1, by omega, by go_num, by rw [HT.out]; exact hown2, HN.out, hfr.trans hfr2⟩
        case measure => simp [intOf]; omega
      | false =>
        have hr : rDig (s[k].toNat : Int) = false := by rw [rDig_byte]; exact hd
        by_cases h32 : s[k] = 32
        · have h32' : ((s[k].toNat : Int) != 32) = false := by rw [h32]; rfl
          have HT : Hid (((byt s).take (k + 1)).filter isDig = ((byt s).take k).filter isDig) := by
            show _ = _
            rw [take_snoc s k hlt, List.filter_append]; simp [hd]
          have HN : Hid _ := all_take_step s k hlt (fun b => isDig b || b == 32) HA.out (by simp [h32])
          clear hd h32
          go_wp2_with (go_at_call 231; refine (isDigit_any _ _).mono ?_; rintro e w' ⟨rfl, rfl⟩; rw [hr])
          go_roundw
          case rel => exact ⟨k + 1, by omega, by go_num, by rw [HT.out]; exact hown, HN.out, hfr⟩
          case measure => simp [intOf]; omega
        · have h32' : ((s[k].toNat : Int) != 32) = true := by
            simp only [bne_iff_ne, ne_eq]
            intro e
            exact h32 (UInt8.toNat_inj.1 (by show s[k].toNat = 32; omega))
          have HN : Hid (digK (byt s) = none) := by
            show digK (byt s) = none
            unfold digK
            rw [all_bad s k hlt (fun b => isDig b || b == 32) (by simp [hd, h32]), if_neg (by simp)]
          clear hd h32
          go_wp2_with (go_at_call 231; refine (isDigit_any _ _).mono ?_; rintro e w' ⟨rfl, rfl⟩; rw [hr])
          go_ret2
          exact ⟨ret_none HN.out, hfr⟩
    · have hcv := hown.conv
      go_wp2
      go_ret2
      refine ⟨ret_some ?_ rfl, hfr⟩
      have h1 := HA.out
      rw [take_whole s k hlt] at h1 ⊢
      unfold digK
      rw [h1, if_pos rfl]
/-- the key of rows of digits -/
theorem some1_none : some1 none = none := rfl
theorem some1_nil : some1 (some []) = none := rfl
theorem some1_cons (a : UInt8) (t : List UInt8) : some1 (some (a :: t)) = some (a :: t) := by unfold some1; rw [if_neg (by simp)]
theorem str_empty (l : List UInt8) : (str l).toList.isEmpty = l.isEmpty := by
  classical
  rw [← decide_eq_emptyBytes]
  cases l with
  | nil => simp; rfl
  | cons a t =>
    simp only [List.isEmpty_cons, decide_eq_false_iff_not]
    intro e
    have := congrArg byt e
    rw [byt_str] at this
    cases this
theorem nil_empty : (⟨#[]⟩ : ByteArray).toList.isEmpty = true := str_empty []
set_option maxRecDepth 100000 in
set_option maxHeartbeats 1000000 in
theorem digKey_any (w : World) (s : ByteArray) (hs : s.size ≤ 65536) :
    Calls Tryz.prog 178 #[.agg #[], .string s] w fun e w' => e = .returned (ans (some1 (digK (byt s)))) ∧ Fr w.heap.size w w' := by
  have hc := fun w => digKept_any w s hs
  generalize digK (byt s) = o at hc ⊢
  cases o with
  | none =>
    rw [some1_none]
    go_enter Tryz.func178, Tryz.ntmps178
    go_wp2_with (go_at_call 205; refine (hc _).mono ?_; rintro e w' ⟨rfl, hf⟩; simp only [ans, Option.getD, Option.isSome])
    go_ret2
    exact ⟨rfl, ((Fr.refl _ _).alloc (Nat.le_refl _) _).trans (hf.mono (by simp))⟩
  | some l =>
    cases l with
    | nil =>
      rw [some1_nil]
      have hne := str_empty []
      go_enter Tryz.func178, Tryz.ntmps178
      go_wp2_with (go_at_call 205; refine (hc _).mono ?_; rintro e w' ⟨rfl, hf⟩; simp only [ans, Option.getD, Option.isSome])
      go_ret2
      exact ⟨rfl, ((Fr.refl _ _).alloc (Nat.le_refl _) _).trans (hf.mono (by simp))⟩
    | cons a t =>
      rw [some1_cons]
      have hne : (str (a :: t)).toList.isEmpty = false := str_empty (a :: t)
      generalize hS : str (a :: t) = S at *
      go_enter Tryz.func178, Tryz.ntmps178
      go_wp2_with (go_at_call 205; refine (hc _).mono ?_; rintro e w' ⟨rfl, hf⟩; simp only [ans, Option.getD, Option.isSome]; rw [hS])
      go_ret2
      exact ⟨ret_some rfl hS.symm, ((Fr.refl _ _).alloc (Nat.le_refl _) _).trans (hf.mono (by simp))⟩
end Go.Proofs.YtfiijlmpfpmgiaaGreatDoor

/-
  The width of a character at a text's beginning, and texts of characters alone.
-/
namespace Go.Proofs.YtfiijlmpfpmgiaaGreatDoor
theorem widGo_cases (l : List UInt8) (a : Nat) : ∀ n k, widGo l a n k = 0 ∨ ∃ j, inRow j a = true ∧ widGo l a n k = widAt l j ∧ ∀ l', widGo l' a n k = widAt l' j := by
  intro n
  induction n with
  | zero => intro k; exact .inl rfl
  | succ n ih =>
    intro k
    cases h : inRow k a with
    | true => exact .inr ⟨k, h, by rw [widGo, if_pos h], fun l' => by rw [widGo, if_pos h]⟩
    | false =>
      rcases ih (k + 1) with h0 | ⟨j, hj, h1, h2⟩
      · left; rw [widGo, h]; exact h0
      · exact .inr ⟨j, hj, by rw [widGo, h]; exact h1, fun l' => by rw [widGo, h]; exact h2 l'⟩
/-- what a character's width says -/
theorem wid_row_of (a : UInt8) (t : List UInt8) (h : wid (a :: t) ≠ 0) : ∃ k, inRow k a.toNat = true ∧ wid (a :: t) = rowW k ∧ rowW k ≤ (a :: t).length ∧ (∀ j, 1 ≤ j → j < rowW k → tl (a :: t) k j = true) ∧ ∀ t', wid (a :: t') = widAt (a :: t') k := by
  have hc : ∃ k, inRow k a.toNat = true ∧ wid (a :: t) = widAt (a :: t) k ∧ ∀ t', wid (a :: t') = widAt (a :: t') k := by
    rcases widGo_cases (a :: t) a.toNat 9 0 with h0 | ⟨k, hk, h1, h2⟩
    · exact absurd h0 h
    · exact ⟨k, hk, h1, fun t' => h2 (a :: t')⟩
  obtain ⟨k, hk, h1, h2⟩ := hc
  have hw : widAt (a :: t) k ≠ 0 := by rw [← h1]; exact h
  have hl : rowW k ≤ (a :: t).length := by
    by_cases hl : rowW k ≤ (a :: t).length
    · exact hl
    · exact absurd (widAt_short _ _ (by omega)) hw
  have ht : ∀ j, 1 ≤ j → j < rowW k → tl (a :: t) k j = true := by
    intro j h1 h2
    cases hj : tl (a :: t) k j with
    | true => rfl
    | false => exact absurd (widAt_bad _ _ j h1 h2 hj) hw
  exact ⟨k, hk, by rw [h1]; exact widAt_good _ _ hl ht, hl, ht, h2⟩
theorem tl_app (l m : List UInt8) (k j : Nat) (h : tl l k j = true) : tl (l ++ m) k j = true := by
  unfold tl at h ⊢
  cases hj : l[j]? with
  | none => rw [hj] at h; cases h
  | some b =>
    have : (l ++ m)[j]? = some b := by
      rw [List.getElem?_append_left (List.getElem?_eq_some_iff.1 hj).1]; exact hj
    rw [this]; rw [hj] at h; exact h
theorem tl_take (l : List UInt8) (n k j : Nat) (hj : j < n) (h : tl l k j = true) : tl (l.take n) k j = true := by
  unfold tl at h ⊢
  rw [List.getElem?_take, if_pos hj]; exact h
/-- a character stands at the beginning, whatever follows it -/
theorem wid_app (l m : List UInt8) (h : wid l ≠ 0) : wid (l ++ m) = wid l := by
  cases l with
  | nil => exact absurd rfl h
  | cons a t =>
    obtain ⟨k, _, h1, h2, h3, h4⟩ := wid_row_of a t h
    rw [List.cons_append, h4, h1, ← List.cons_append]
    exact widAt_good _ _ (by rw [List.length_append]; omega) (fun j ha hb => tl_app _ _ _ _ (h3 j ha hb))
theorem wid_chunk (l m : List UInt8) (h : wid l ≠ 0) : wid (l.take (wid l) ++ m) = wid l := by
  have hc : wid (l.take (wid l)) = wid l := by
    cases l with
    | nil => exact absurd rfl h
    | cons a t =>
      obtain ⟨k, _, h1, h2, h3, h4⟩ := wid_row_of a t h
      rw [h1]
      obtain ⟨w, hw⟩ : ∃ w, rowW k = w + 1 := ⟨rowW k - 1, by omega⟩
      have e : (a :: t).take (rowW k) = a :: t.take w := by rw [hw]; rfl
      rw [e, h4, ← e]
      exact widAt_good _ _ (by rw [List.length_take]; omega) (fun j ha hb => tl_take _ _ _ _ hb (h3 j ha hb))
  rw [wid_app _ _ (by rw [hc]; exact h), hc]
theorem wid_ascii (a : UInt8) (t : List UInt8) (h : a.toNat < 128) : wid (a :: t) = 1 := by
  rw [wid_row a t 0 (by omega) (Nat.zero_le _) (by show a.toNat ≤ 127; omega)]
  exact widAt_good _ _ (by show 1 ≤ _; simp) (fun j h1 h2 => by have : rowW 0 = 1 := rfl; omega)
theorem validGo_nil (n : Nat) : validGo n [] = true := by cases n <;> rfl
theorem validGo_cons (n : Nat) (a : UInt8) (t : List UInt8) (h : wid (a :: t) ≠ 0) : validGo (n + 1) (a :: t) = validGo n ((a :: t).drop (wid (a :: t))) := by
  rw [validGo, if_neg (by simp), if_neg h]
  have : stp (a :: t) = wid (a :: t) := by unfold stp; omega
  rw [this]
theorem validGo_ascii (n : Nat) (a : UInt8) (t : List UInt8) (h : a.toNat < 128) : validGo (n + 1) (a :: t) = validGo n t := by
  have := wid_ascii a t h
  rw [validGo_cons n a t (by omega), this]; rfl
theorem rowA_high (k : Nat) (h : 2 ≤ rowW k) : 128 ≤ rowA k := by
  by_cases hk : k < 9
  · rcases (show k = 0 ∨ k = 1 ∨ k = 2 ∨ k = 3 ∨ k = 4 ∨ k = 5 ∨ k = 6 ∨ k = 7 ∨ k = 8 by omega) with h | h | h | h | h | h | h | h | h <;> subst h <;> first | decide | (exact absurd h (by decide))
  · have e : rowW k = 0 := by unfold rowW; simp [List.getD, List.getElem?_eq_none (show [1, 2, 3, 3, 3, 3, 4, 4, 4].length ≤ k by simp; omega)]
    omega
end Go.Proofs.YtfiijlmpfpmgiaaGreatDoor

/-
  What a range over a text tells of its bytes: characters beyond the first 128 have only bytes beyond them.
-/
namespace Go.Proofs.YtfiijlmpfpmgiaaGreatDoor
open Go.Lib (decodeL)

theorem dec_byt (s : ByteArray) (pos : Nat) : Utf8.decode s pos = decodeL ((byt s).drop pos) := (Lib.decodeL_drop s pos).symm
theorem rune_high (a : UInt8) (t : List UInt8) (h : 128 ≤ a.toNat) : 128 ≤ (decodeL (a :: t)).1 := by
  rw [Lib.decodeL_N]
  have ha : (a :: t).getD 0 0 = a := rfl
  rcases Lib.decodeN_shape (a :: t).length ((a :: t).getD 0 0).toNat ((a :: t).getD 1 0).toNat ((a :: t).getD 2 0).toNat ((a :: t).getD 3 0).toNat with ⟨c, e⟩ | ⟨c1, c2, c3, cv, e⟩ | ⟨c1, c2, c3, c4, cv, cs, e⟩ | ⟨c1, c2, c3, c4, c5, cv, cw, e⟩ | e
  · rw [ha] at c; omega
  · rw [e]; exact cv
  · rw [e]; show 128 ≤ _ ; dsimp only; omega
  · rw [e]; show 128 ≤ _ ; dsimp only; omega
  · rw [e]; decide
theorem chunk_high (a : UInt8) (t : List UInt8) (h : 128 ≤ a.toNat) : ∀ x ∈ (a :: t).take (decodeL (a :: t)).2, 128 ≤ x.toNat := by
  rw [Lib.decodeL_N]
  have ha : (a :: t).getD 0 0 = a := rfl
  have k1 := ((a :: t).getD 1 0).toNat_lt
  have k2 := ((a :: t).getD 2 0).toNat_lt
  have k3 := ((a :: t).getD 3 0).toNat_lt
  rcases Lib.decodeN_shape (a :: t).length ((a :: t).getD 0 0).toNat ((a :: t).getD 1 0).toNat ((a :: t).getD 2 0).toNat ((a :: t).getD 3 0).toNat with ⟨c, e⟩ | ⟨c1, c2, c3, cv, e⟩ | ⟨c1, c2, c3, c4, cv, cs, e⟩ | ⟨c1, c2, c3, c4, c5, cv, cw, e⟩ | e
  · rw [ha] at c; omega
  · rw [e]
    dsimp only
    rw [Lib.takeB _ c2, ha]
    intro x hx
    simp only [List.mem_cons, List.not_mem_nil, or_false] at hx
    rcases hx with rfl | rfl <;> omega
  · rw [e]
    dsimp only
    rw [Lib.takeC _ c2, ha]
    intro x hx
    simp only [List.mem_cons, List.not_mem_nil, or_false] at hx
    rcases hx with rfl | rfl | rfl <;> omega
  · rw [e]
    dsimp only
    rw [Lib.takeD _ c2, ha]
    intro x hx
    simp only [List.mem_cons, List.not_mem_nil, or_false] at hx
    rcases hx with rfl | rfl | rfl | rfl <;> omega
  · rw [e]
    intro x hx
    simp only [List.take_succ_cons, List.take_zero, List.mem_cons, List.not_mem_nil, or_false] at hx
    subst hx; exact h
theorem wid_one (a : UInt8) (t : List UInt8) (h : wid (a :: t) = 1) : a.toNat < 128 := by
  obtain ⟨k, h1, h2, _⟩ := wid_row_of a t (by omega)
  rw [h] at h2
  unfold inRow at h1
  simp only [Bool.and_eq_true, decide_eq_true_eq] at h1
  rcases (show k = 0 ∨ k = 1 ∨ k = 2 ∨ k = 3 ∨ k = 4 ∨ k = 5 ∨ k = 6 ∨ k = 7 ∨ k = 8 ∨ 9 ≤ k by omega) with h | h | h | h | h | h | h | h | h | h
  · subst h; have : rowL 0 = 127 := rfl; omega
  all_goals first
    | (subst h; exact absurd h2 (by decide))
    | (exfalso
       have : rowW k = 0 := by unfold rowW; rw [List.getD, List.getElem?_eq_none (by exact h)]; rfl
       omega)
theorem dec_width (l : List UInt8) (h : l ≠ []) : (decodeL l).2 = max 1 (wid l) := by
  have := decode_wid ⟨l.toArray⟩ 0 (by
    have := List.length_pos_iff.2 h
    show 0 < l.toArray.size
    simpa using this)
  rw [show byt ⟨l.toArray⟩ = l by simp [byt], List.drop_zero] at this
  exact this
/-- a character that is well-formed is laid as it stood -/
theorem enc_dec (l : List UInt8) (h : wid l ≠ 0) : Lib.encodeRune ((decodeL l).1 : Int) = l.take (wid l) := by
  cases l with
  | nil => exact absurd rfl h
  | cons a t =>
    have hw := dec_width (a :: t) (by simp)
    rw [show max 1 (wid (a :: t)) = wid (a :: t) by omega] at hw
    rw [Lib.encode_decode (a :: t) (by simp), hw]
    rintro ⟨h1, h2⟩
    rw [hw] at h2
    have := wid_one a t h2
    rw [Lib.decodeL_ascii a t this] at h1
    dsimp only at h1
    omega

theorem low_high (b : UInt8) (h : 91 ≤ b.toNat) : lowB b = b := by
  unfold lowB; rw [if_neg]; simp; omega
theorem sm_high (sm : Bool) (b : UInt8) (h : 91 ≤ b.toNat) : smB sm b = b := by
  unfold smB; split
  · exact low_high b h
  · rfl
theorem join_high (sm : Bool) (m : List UInt8) : ∀ (c : List UInt8) (p : Bool), (∀ x ∈ c, 128 ≤ x.toNat) → c ≠ [] → joinL sm p (c ++ m) = c ++ joinL sm false m := by
  intro c
  induction c with
  | nil => intro p _ h; exact absurd rfl h
  | cons a t ih =>
    intro p hc _
    have ha := hc a (by simp)
    have h32 : (a == 32) = false := by
      rw [beq_eq_false_iff_ne]; intro e; subst e; exact absurd ha (by decide)
    rw [List.cons_append, joinL, h32, Bool.false_and, if_neg (by simp), sm_high sm a (by omega)]
    cases t with
    | nil => rfl
    | cons b t => rw [ih false (fun x hx => hc x (by simp [hx])) (by simp)]; rfl
theorem take_drop_w (l : List UInt8) (k : Nat) : l.take k ++ l.drop k = l := List.take_append_drop k l
/-- one character of a text that is well-formed, behind the first 128 -/
theorem join_char (sm p : Bool) (a : UInt8) (t : List UInt8) (h : 128 ≤ a.toNat) (hw : wid (a :: t) ≠ 0) :
    joinL sm p (a :: t) = (a :: t).take (wid (a :: t)) ++ joinL sm false ((a :: t).drop (wid (a :: t))) := by
  have hd := dec_width (a :: t) (by simp)
  rw [show max 1 (wid (a :: t)) = wid (a :: t) by omega] at hd
  have hc := chunk_high a t h
  rw [hd] at hc
  have := join_high sm ((a :: t).drop (wid (a :: t))) ((a :: t).take (wid (a :: t))) p hc (by
    intro e
    have := congrArg List.length e
    rw [List.length_take] at this
    simp at this
    omega)
  rw [take_drop_w] at this
  exact this
theorem let_high (b : UInt8) (h : 128 ≤ b.toNat) : isLet b = false := by unfold isLet; simp; omega
theorem dig_high (b : UInt8) (h : 128 ≤ b.toNat) : isDig b = false := by unfold isDig; simp; omega
theorem sound_high (m : List UInt8) : ∀ (c : List UInt8) (codes row : List UInt8), (∀ x ∈ c, 128 ≤ x.toNat) → c ≠ [] → soundGo codes row (c ++ m) = soundGo (appC codes row) [] m := by
  intro c
  induction c with
  | nil => intro codes row _ h; exact absurd rfl h
  | cons a t ih =>
    intro codes row hc _
    rw [List.cons_append, soundGo, let_high a (hc a (by simp)), if_neg (by simp)]
    cases t with
    | nil => rfl
    | cons b t =>
      rw [ih _ _ (fun x hx => hc x (by simp [hx])) (by simp)]
      rfl
theorem sound_char (codes row : List UInt8) (a : UInt8) (t : List UInt8) (h : 128 ≤ a.toNat) :
    soundGo codes row (a :: t) = soundGo (appC codes row) [] ((a :: t).drop (decodeL (a :: t)).2) := by
  have hd := Lib.decodeL_width (a :: t)
  have := sound_high ((a :: t).drop (decodeL (a :: t)).2) ((a :: t).take (decodeL (a :: t)).2) codes row (chunk_high a t h) (by
    intro e
    have := congrArg List.length e
    rw [List.length_take] at this
    simp at this
    omega)
  rw [take_drop_w] at this
  exact this
end Go.Proofs.YtfiijlmpfpmgiaaGreatDoor

/-
  The calls into the library that package prep makes, in this text's words.
-/
namespace Go.Proofs.YtfiijlmpfpmgiaaGreatDoor
open Go.RowKit

theorem data_str (l : List UInt8) : (str l).data.toList = l := byt_str l
theorem str_size (l : List UInt8) : (str l).size = l.length := by rw [← byt_length, byt_str]
theorem Trim_any (w : World) (l : List UInt8) (hl : l.length ≤ 9223372036854775807) :
    Calls Tryz.prog 203 #[.string (str l), .string ⟨#[32]⟩] w fun e w' => e = .returned (.string (str (trimA (trimZ l)))) ∧ Fr w.heap.size w w' := by
  have h := Any.strings_Trim_one Tryz.lays160 (str l) 32 (by decide) w (by rw [str_size]; exact hl)
  rw [data_str] at h
  refine h.mono ?_
  rintro e w' ⟨rfl, h | h⟩
  · subst h; exact ⟨rfl, Fr.refl _ _⟩
  · subst h; exact ⟨rfl, (Fr.refl _ _).drew⟩
theorem TrimRight_any (w : World) (l : List UInt8) (hl : l.length ≤ 9223372036854775807) :
    Calls Tryz.prog 249 #[.string (str l), .string ⟨#[48]⟩] w fun e w' => e = .returned (.string (str (trimO l))) ∧ w' = w := by
  have h := Any.strings_TrimRight_one Tryz.lays162 (str l) 48 (by decide) w (by rw [str_size]; exact hl)
  rw [data_str] at h
  exact h
theorem suffix_one (l : List UInt8) : Lib.hasSuffix l [32] = decide (l.getLast? = some 32) := by
  unfold Lib.hasSuffix
  rw [← List.reverse_reverse l]
  cases l.reverse with
  | nil => rfl
  | cons a t =>
    rw [List.reverse_cons, List.getLast?_append]
    simp only [List.getLast?_singleton, Option.some_or, Option.some.injEq]
    rw [Bool.eq_iff_iff]
    rw [List.isSuffixOf_iff_suffix, decide_eq_true_eq]
    constructor
    · intro h
      obtain ⟨p, hp⟩ := h
      have := congrArg List.getLast? hp
      simp at this
      exact this.symm
    · intro h; subst h; exact List.suffix_append _ _
theorem CutPrefix_any (w : World) (l : List UInt8) :
    Calls Tryz.prog 234 #[.string (str l), .string ⟨#[45]⟩] w fun e w' => e = .returned (.tuple #[.string (str (if l.head? = some 45 then l.tail else l)), .bool (decide (l.head? = some 45))]) ∧ w' = w := by
  have h := Any.strings_CutPrefix Tryz.lays103 (str l) ⟨#[45]⟩ w
  rw [data_str] at h
  have e1 : Lib.hasPrefix l [45] = decide (l.head? = some 45) := by
    unfold Lib.hasPrefix
    cases l with
    | nil => rfl
    | cons a t =>
      rw [Bool.eq_iff_iff]; simp; exact eq_comm
  have e : Lib.trimPrefix l [45] = if l.head? = some 45 then l.tail else l := by
    unfold Lib.trimPrefix
    rw [e1]
    by_cases ha : l.head? = some 45
    · rw [if_pos (by simpa using ha), if_pos ha]; simp
    · rw [if_neg (by simpa using ha), if_neg ha]
  rw [show (⟨#[45]⟩ : ByteArray).data.toList = [45] from rfl, e, e1] at h
  exact h
theorem runeCells_map (r : Int) : Lib.runeCells r = (Lib.encodeRune r).map B8 := by
  rw [← Lib.byteCells_encodeRune]; rfl
/-- a rune laid behind a row of bytes -/
theorem AppendRune_any (w : World) (B : Nat) (v : Value) (l : List UInt8) (r : Int) (hr0 : -2147483648 ≤ r) (hr1 : r ≤ 2147483647) (hown : Own w B v l) (hB : B ≤ w.heap.size) (hlen : l.length + 4 ≤ 140737488355328) :
    Calls Tryz.prog 230 #[v, .int .i32 r] w fun e w' => ∃ v', e = .returned v' ∧ Own w' B v' (l ++ Lib.encodeRune r) ∧ Fr B w w' := by
  refine (Any.utf8_AppendRune_plain Tryz.lays242 info8 B v l.length (l.map B8) r hr0 hr1 w hown hlen hB).mono ?_
  rintro e w' ⟨v', rfl, h1, o, hg⟩
  refine ⟨v', rfl, own_of h1 (by rw [List.length_append, Lib.runeCells_length]) (by rw [List.map_append, runeCells_map]), ?_⟩
  exact (hown.alloc o).grown (by simp; omega) ((Fr.refl B w).alloc hB o) hg
end Go.Proofs.YtfiijlmpfpmgiaaGreatDoor
