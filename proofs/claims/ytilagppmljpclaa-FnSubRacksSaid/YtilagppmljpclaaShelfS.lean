/-
  Those of the shelf's contracts at this program that the claim uses, as the shelf's own tool laid them.
-/
import Derived.Shelf.Strings.Builder1
import Derived.Shelf.Strings.Builder2
import Derived.Shelf.Strings.OnBuilder
import Derived.Shelf.Small.Bits
import Derived.Shelf.Small.Strs
import Derived.Shelf.Strings.BuilderF
import Derived.Shelf.Strings.BuilderK
import Derived.Shelf.Strings.Builder2Cap
import Derived.Shelf.Strconv.Itoa0
import Derived.Shelf.Strings.Search1
import Derived.Ground.GgsProg
import Derived.Shelf.GgSortFunc.Insertion
import Derived.Shelf.GgSortFunc.Small
import Derived.Shelf.GgSortFunc.Compose
import Derived.Shelf.GgSortFunc.LotD
import Derived.Shelf.GgSortFunc.Pivot
import Derived.Shelf.GgSortFunc.Partition
import Derived.Shelf.GgSortFunc.Pdq
import Derived.Shelf.GgSortFunc.Whole
import Derived.Shelf.Strings.Prefix
import Derived.Shelf.Bits.Mul64
import Derived.Shelf.Strings.Repeat
import Derived.Shelf.Strings.BuilderCap
import Derived.Shelf.SlSortFunc.Xorshift
import Derived.Shelf.SlSortFunc.SiftDown
import Derived.Shelf.SlSortFunc.HeapSort
import Derived.Shelf.SlSortFunc.PartialInsertion
import Derived.Test.YtilagppmljpclaaProg
namespace Go.Proofs
open Go.Shelf
def Try.laysGg6_ren : Go.Shelf.Ren := ⟨fun | 6 => 48 | 10 => 102 | 11 => 103 | 12 => 104 | 13 => 105 | 14 => 106 | 24 => 156 | 25 => 157 | 26 => 158 | 27 => 159 | 28 => 160 | 29 => 161 | 30 => 162 | 31 => 163 | 32 => 164 | 33 => 165 | 34 => 189 | 35 => 190 | 36 => 191 | 37 => 192 | 38 => 193 | 39 => 205 | n => n, fun | 20 => 20 | 26 => 80 | 35 => 136 | 0 => 0 | 37 => 138 | 3 => 3 | 41 => 142 | 44 => 145 | 49 => 198 | 51 => 130 | 4 => 4 | 54 => 202 | 53 => 201 | 58 => 206 | 5 => 5 | 9 => 9 | 60 => 222 | 64 => 226 | 66 => 237 | 67 => 238 | 17 => 17 | 32 => 133 | 33 => 134 | 82 => 252 | 12 => 12 | 75 => 246 | 76 => 247 | 77 => 248 | 78 => 211 | 79 => 249 | 80 => 250 | n => n, fun | n => n⟩
theorem Try.laysGg6 : Go.Proofs.LaysGg.n6 Try.prog Try.laysGg6_ren := {
  mixed := by kernel_rfl
  f6 := Try.func48.trans (congrArg some (by kernel_rfl))
  f10 := Try.func102.trans (congrArg some (by kernel_rfl))
  f11 := Try.func103.trans (congrArg some (by kernel_rfl))
  f12 := Try.func104.trans (congrArg some (by kernel_rfl))
  f13 := Try.func105.trans (congrArg some (by kernel_rfl))
  f14 := Try.func106.trans (congrArg some (by kernel_rfl))
  f24 := Try.func156.trans (congrArg some (by kernel_rfl))
  f25 := Try.func157.trans (congrArg some (by kernel_rfl))
  f26 := Try.func158.trans (congrArg some (by kernel_rfl))
  f27 := Try.func159.trans (congrArg some (by kernel_rfl))
  f28 := Try.func160.trans (congrArg some (by kernel_rfl))
  f29 := Try.func161.trans (congrArg some (by kernel_rfl))
  f30 := Try.func162.trans (congrArg some (by kernel_rfl))
  f31 := Try.func163.trans (congrArg some (by kernel_rfl))
  f32 := Try.func164.trans (congrArg some (by kernel_rfl))
  f33 := Try.func165.trans (congrArg some (by kernel_rfl))
  f34 := Try.func189.trans (congrArg some (by kernel_rfl))
  f35 := Try.func190.trans (congrArg some (by kernel_rfl))
  f36 := Try.func191.trans (congrArg some (by kernel_rfl))
  f37 := Try.func192.trans (congrArg some (by kernel_rfl))
  f38 := Try.func193.trans (congrArg some (by kernel_rfl))
  f39 := Try.func205.trans (congrArg some (by kernel_rfl))
  t0 := Try.underlying0
  a0 := Try.isAgg0
  z0 := Try.sizeOf0
  v0 := Try.zeroValue0
  i0 := by kernel_rfl
  t3 := Try.underlying3
  a3 := Try.isAgg3
  z3 := Try.sizeOf3
  v3 := Try.zeroValue3
  i3 := by kernel_rfl
  t4 := Try.underlying4
  a4 := Try.isAgg4
  z4 := Try.sizeOf4
  v4 := Try.zeroValue4
  i4 := by kernel_rfl
  t5 := Try.underlying5
  a5 := Try.isAgg5
  z5 := Try.sizeOf5
  v5 := Try.zeroValue5
  i5 := by kernel_rfl
  t9 := Try.underlying9
  a9 := Try.isAgg9
  z9 := Try.sizeOf9
  v9 := Try.zeroValue9
  i9 := by kernel_rfl
  t12 := Try.underlying12
  a12 := Try.isAgg12
  z12 := Try.sizeOf12
  v12 := Try.zeroValue12
  i12 := by kernel_rfl
  t17 := Try.underlying17
  a17 := Try.isAgg17
  z17 := Try.sizeOf17
  v17 := Try.zeroValue17
  i17 := by kernel_rfl
  t20 := Try.underlying20
  a20 := Try.isAgg20
  z20 := Try.sizeOf20
  v20 := Try.zeroValue20
  i20 := by kernel_rfl
  t26 := Try.underlying80
  a26 := Try.isAgg80
  z26 := Try.sizeOf80
  v26 := Try.zeroValue80
  i26 := by kernel_rfl
  t32 := Try.underlying133
  a32 := Try.isAgg133
  z32 := Try.sizeOf133
  v32 := Try.zeroValue133
  i32 := by kernel_rfl
  t33 := Try.underlying134
  a33 := Try.isAgg134
  z33 := Try.sizeOf134
  v33 := Try.zeroValue134
  i33 := by kernel_rfl
  t35 := Try.underlying136
  a35 := Try.isAgg136
  z35 := Try.sizeOf136
  v35 := Try.zeroValue136
  i35 := by kernel_rfl
  t37 := Try.underlying138
  a37 := Try.isAgg138
  z37 := Try.sizeOf138
  v37 := Try.zeroValue138
  i37 := by kernel_rfl
  t41 := Try.underlying142
  a41 := Try.isAgg142
  z41 := Try.sizeOf142
  v41 := Try.zeroValue142
  i41 := by kernel_rfl
  t44 := Try.underlying145
  a44 := Try.isAgg145
  z44 := Try.sizeOf145
  v44 := Try.zeroValue145
  i44 := by kernel_rfl
  t49 := Try.underlying198
  a49 := Try.isAgg198
  z49 := Try.sizeOf198
  v49 := Try.zeroValue198
  i49 := by kernel_rfl
  t51 := Try.underlying130
  a51 := Try.isAgg130
  z51 := Try.sizeOf130
  v51 := Try.zeroValue130
  i51 := by kernel_rfl
  t53 := Try.underlying201
  a53 := Try.isAgg201
  z53 := Try.sizeOf201
  v53 := Try.zeroValue201
  i53 := by kernel_rfl
  t54 := Try.underlying202
  a54 := Try.isAgg202
  z54 := Try.sizeOf202
  v54 := Try.zeroValue202
  i54 := by kernel_rfl
  t58 := Try.underlying206
  a58 := Try.isAgg206
  z58 := Try.sizeOf206
  v58 := Try.zeroValue206
  i58 := by kernel_rfl
  t60 := Try.underlying222
  a60 := Try.isAgg222
  z60 := Try.sizeOf222
  v60 := Try.zeroValue222
  i60 := by kernel_rfl
  t64 := Try.underlying226
  a64 := Try.isAgg226
  z64 := Try.sizeOf226
  v64 := Try.zeroValue226
  i64 := by kernel_rfl
  t66 := Try.underlying237
  a66 := Try.isAgg237
  z66 := Try.sizeOf237
  v66 := Try.zeroValue237
  i66 := by kernel_rfl
  t67 := Try.underlying238
  a67 := Try.isAgg238
  z67 := Try.sizeOf238
  v67 := Try.zeroValue238
  i67 := by kernel_rfl
  t75 := Try.underlying246
  a75 := Try.isAgg246
  z75 := Try.sizeOf246
  v75 := Try.zeroValue246
  i75 := by kernel_rfl
  t76 := Try.underlying247
  a76 := Try.isAgg247
  z76 := Try.sizeOf247
  v76 := Try.zeroValue247
  i76 := by kernel_rfl
  t77 := Try.underlying248
  a77 := Try.isAgg248
  z77 := Try.sizeOf248
  v77 := Try.zeroValue248
  i77 := by kernel_rfl
  t78 := Try.underlying211
  a78 := Try.isAgg211
  z78 := Try.sizeOf211
  v78 := Try.zeroValue211
  i78 := by kernel_rfl
  t79 := Try.underlying249
  a79 := Try.isAgg249
  z79 := Try.sizeOf249
  v79 := Try.zeroValue249
  i79 := by kernel_rfl
  t80 := Try.underlying250
  a80 := Try.isAgg250
  z80 := Try.sizeOf250
  v80 := Try.zeroValue250
  i80 := by kernel_rfl
  t82 := Try.underlying252
  a82 := Try.isAgg252
  z82 := Try.sizeOf252
  v82 := Try.zeroValue252
  i82 := by kernel_rfl }
end Go.Proofs
