/- Several texts in one: SHr, SHt, T1, RD2. -/
import Derived.Test.YtbnbogdglffkmaaDoorProg
import Derived.Shelf.Small.Strs
import Derived.Shelf.Small.Wraps
import Derived.Shelf.Strings.SlTrimAscii
import Derived.Shelf.Strconv.AtoiAll
import Derived.Ground.NamesProg
import Derived.Shelf.Strconv.Itoa3
import Derived.Shelf.Strings.OnBuilder
import Derived.Test.YtbnbogdglffkmaaDoorKRd2
import Derived.Test.YtbnbogdglffkmaaDoorKRd6
import Derived.Test.YtbnbogdglffkmaaDoorKRd4
import Derived.Test.YtbnbogdglffkmaaDoorKRd9
import Derived.Test.YtbnbogdglffkmaaDoorKRd1

/-! SHr: The contracts of the library's functions that the reader of texts calls, at this program. -/
namespace Go.Proofs
open Go.Shelf
def Tryd.lays103_ren : Go.Shelf.Ren := ⟨fun | 103 => 57 | 210 => 64 | 206 => 74 | n => n, fun | 9 => 9 | 4 => 4 | 24 => 89 | 3 => 3 | n => n, fun | n => n⟩
theorem Tryd.lays103 : Go.Proofs.Lays.n103 Tryd.prog Tryd.lays103_ren := {
  mixed := by kernel_rfl
  f103 := Tryd.func57.trans (congrArg some (by kernel_rfl))
  f206 := Tryd.func74.trans (congrArg some (by kernel_rfl))
  f210 := Tryd.func64.trans (congrArg some (by kernel_rfl))
  t3 := Tryd.underlying3
  a3 := Tryd.isAgg3
  z3 := Tryd.sizeOf3
  v3 := Tryd.zeroValue3
  t4 := Tryd.underlying4
  a4 := Tryd.isAgg4
  z4 := Tryd.sizeOf4
  v4 := Tryd.zeroValue4
  t9 := Tryd.underlying9
  a9 := Tryd.isAgg9
  z9 := Tryd.sizeOf9
  v9 := Tryd.zeroValue9
  t24 := Tryd.underlying89
  a24 := Tryd.isAgg89
  z24 := Tryd.sizeOf89
  v24 := Tryd.zeroValue89 }
def Tryd.lays137_ren : Go.Shelf.Ren := ⟨fun | 137 => 61 | 217 => 72 | 266 => 84 | n => n, fun | 9 => 9 | 5 => 5 | 3 => 3 | n => n, fun | n => n⟩
theorem Tryd.lays137 : Go.Proofs.Lays.n137 Tryd.prog Tryd.lays137_ren := {
  mixed := by kernel_rfl
  f137 := Tryd.func61.trans (congrArg some (by kernel_rfl))
  f217 := Tryd.func72.trans (congrArg some (by kernel_rfl))
  f266 := Tryd.func84.trans (congrArg some (by kernel_rfl))
  t3 := Tryd.underlying3
  a3 := Tryd.isAgg3
  z3 := Tryd.sizeOf3
  v3 := Tryd.zeroValue3
  t5 := Tryd.underlying5
  a5 := Tryd.isAgg5
  z5 := Tryd.sizeOf5
  v5 := Tryd.zeroValue5
  t9 := Tryd.underlying9
  a9 := Tryd.isAgg9
  z9 := Tryd.sizeOf9
  v9 := Tryd.zeroValue9 }
def Tryd.lays161_ren : Go.Shelf.Ren := ⟨fun | 161 => 58 | 231 => 65 | 227 => 66 | 233 => 67 | 235 => 68 | 228 => 75 | 197 => 76 | 151 => 77 | 260 => 88 | 152 => 89 | 137 => 61 | 119 => 98 | 224 => 86 | 225 => 85 | 217 => 72 | 266 => 84 | n => n, fun | 9 => 9 | 4 => 4 | 3 => 3 | 5 => 5 | 117 => 102 | 116 => 101 | 0 => 0 | 124 => 105 | 105 => 110 | 21 => 21 | 119 => 137 | 46 => 120 | 139 => 140 | 138 => 139 | n => n, fun | 3 => 3 | 4 => 4 | n => n⟩
theorem Tryd.lays161 : Go.Proofs.Lays.n161 Tryd.prog Tryd.lays161_ren := {
  mixed := by kernel_rfl
  f119 := Tryd.func98.trans (congrArg some (by kernel_rfl))
  f137 := Tryd.func61.trans (congrArg some (by kernel_rfl))
  f151 := Tryd.func77.trans (congrArg some (by kernel_rfl))
  f152 := Tryd.func89.trans (congrArg some (by kernel_rfl))
  f161 := Tryd.func58.trans (congrArg some (by kernel_rfl))
  f197 := Tryd.func76.trans (congrArg some (by kernel_rfl))
  f217 := Tryd.func72.trans (congrArg some (by kernel_rfl))
  f224 := Tryd.func86.trans (congrArg some (by kernel_rfl))
  f225 := Tryd.func85.trans (congrArg some (by kernel_rfl))
  f227 := Tryd.func66.trans (congrArg some (by kernel_rfl))
  f228 := Tryd.func75.trans (congrArg some (by kernel_rfl))
  f231 := Tryd.func65.trans (congrArg some (by kernel_rfl))
  f233 := Tryd.func67.trans (congrArg some (by kernel_rfl))
  f235 := Tryd.func68.trans (congrArg some (by kernel_rfl))
  f260 := Tryd.func88.trans (congrArg some (by kernel_rfl))
  f266 := Tryd.func84.trans (congrArg some (by kernel_rfl))
  t0 := Tryd.underlying0
  a0 := Tryd.isAgg0
  z0 := Tryd.sizeOf0
  v0 := Tryd.zeroValue0
  t3 := Tryd.underlying3
  a3 := Tryd.isAgg3
  z3 := Tryd.sizeOf3
  v3 := Tryd.zeroValue3
  t4 := Tryd.underlying4
  a4 := Tryd.isAgg4
  z4 := Tryd.sizeOf4
  v4 := Tryd.zeroValue4
  t5 := Tryd.underlying5
  a5 := Tryd.isAgg5
  z5 := Tryd.sizeOf5
  v5 := Tryd.zeroValue5
  t9 := Tryd.underlying9
  a9 := Tryd.isAgg9
  z9 := Tryd.sizeOf9
  v9 := Tryd.zeroValue9
  t21 := Tryd.underlying21
  a21 := Tryd.isAgg21
  z21 := Tryd.sizeOf21
  v21 := Tryd.zeroValue21
  t46 := Tryd.underlying120
  a46 := Tryd.isAgg120
  z46 := Tryd.sizeOf120
  v46 := Tryd.zeroValue120
  t105 := Tryd.underlying110
  a105 := Tryd.isAgg110
  z105 := Tryd.sizeOf110
  v105 := Tryd.zeroValue110
  t116 := Tryd.underlying101
  a116 := Tryd.isAgg101
  z116 := Tryd.sizeOf101
  t117 := Tryd.underlying102
  a117 := Tryd.isAgg102
  z117 := Tryd.sizeOf102
  v117 := Tryd.zeroValue102
  t119 := Tryd.underlying137
  a119 := Tryd.isAgg137
  z119 := Tryd.sizeOf137
  t124 := Tryd.underlying105
  a124 := Tryd.isAgg105
  z124 := Tryd.sizeOf105
  v124 := Tryd.zeroValue105
  t138 := Tryd.underlying139
  a138 := Tryd.isAgg139
  z138 := Tryd.sizeOf139
  v138 := Tryd.zeroValue139
  t139 := Tryd.underlying140
  a139 := Tryd.isAgg140
  z139 := Tryd.sizeOf140
  v139 := Tryd.zeroValue140
  g3 := by kernel_rfl
  g4 := by kernel_rfl }
def Tryd.laysC172_ren : Go.Shelf.Ren := ⟨fun | 172 => 59 | 244 => 69 | 245 => 70 | 247 => 78 | 279 => 79 | 280 => 80 | 281 => 81 | 282 => 82 | 287 => 90 | 316 => 91 | 171 => 60 | 205 => 92 | 321 => 99 | 322 => 100 | 243 => 71 | 246 => 83 | 283 => 93 | 284 => 94 | 285 => 95 | 286 => 96 | 129 => 102 | 317 => 101 | 318 => 103 | 319 => 104 | 320 => 105 | 337 => 106 | 338 => 107 | n => n, fun | 9 => 9 | 3 => 3 | 75 => 93 | 76 => 94 | 4 => 4 | 5 => 5 | 167 => 113 | 37 => 22 | 0 => 0 | 85 => 114 | 2 => 2 | 168 => 116 | 53 => 122 | 175 => 123 | 46 => 120 | 210 => 127 | 127 => 143 | 145 => 146 | 143 => 144 | 21 => 21 | 171 => 129 | 173 => 132 | 212 => 148 | 51 => 134 | 20 => 20 | 213 => 149 | 232 => 153 | 233 => 154 | 80 => 46 | n => n, fun | 15 => 1 | 16 => 2 | 17 => 5 | 18 => 6 | 19 => 7 | n => n⟩
theorem Tryd.laysC172 : Go.Proofs.LaysC.n172 Tryd.prog Tryd.laysC172_ren := {
  mixed := by kernel_rfl
  f129 := Tryd.func102.trans (congrArg some (by kernel_rfl))
  f171 := Tryd.func60.trans (congrArg some (by kernel_rfl))
  f172 := Tryd.func59.trans (congrArg some (by kernel_rfl))
  f205 := Tryd.func92.trans (congrArg some (by kernel_rfl))
  f243 := Tryd.func71.trans (congrArg some (by kernel_rfl))
  f244 := Tryd.func69.trans (congrArg some (by kernel_rfl))
  f245 := Tryd.func70.trans (congrArg some (by kernel_rfl))
  f246 := Tryd.func83.trans (congrArg some (by kernel_rfl))
  f247 := Tryd.func78.trans (congrArg some (by kernel_rfl))
  f279 := Tryd.func79.trans (congrArg some (by kernel_rfl))
  f280 := Tryd.func80.trans (congrArg some (by kernel_rfl))
  f281 := Tryd.func81.trans (congrArg some (by kernel_rfl))
  f282 := Tryd.func82.trans (congrArg some (by kernel_rfl))
  f283 := Tryd.func93.trans (congrArg some (by kernel_rfl))
  f284 := Tryd.func94.trans (congrArg some (by kernel_rfl))
  f285 := Tryd.func95.trans (congrArg some (by kernel_rfl))
  f286 := Tryd.func96.trans (congrArg some (by kernel_rfl))
  f287 := Tryd.func90.trans (congrArg some (by kernel_rfl))
  f316 := Tryd.func91.trans (congrArg some (by kernel_rfl))
  f317 := Tryd.func101.trans (congrArg some (by kernel_rfl))
  f318 := Tryd.func103.trans (congrArg some (by kernel_rfl))
  f319 := Tryd.func104.trans (congrArg some (by kernel_rfl))
  f320 := Tryd.func105.trans (congrArg some (by kernel_rfl))
  f321 := Tryd.func99.trans (congrArg some (by kernel_rfl))
  f322 := Tryd.func100.trans (congrArg some (by kernel_rfl))
  f337 := Tryd.func106.trans (congrArg some (by kernel_rfl))
  f338 := Tryd.func107.trans (congrArg some (by kernel_rfl))
  t0 := Tryd.underlying0
  a0 := Tryd.isAgg0
  z0 := Tryd.sizeOf0
  v0 := Tryd.zeroValue0
  t2 := Tryd.underlying2
  a2 := Tryd.isAgg2
  z2 := Tryd.sizeOf2
  v2 := Tryd.zeroValue2
  t3 := Tryd.underlying3
  a3 := Tryd.isAgg3
  z3 := Tryd.sizeOf3
  v3 := Tryd.zeroValue3
  t4 := Tryd.underlying4
  a4 := Tryd.isAgg4
  z4 := Tryd.sizeOf4
  v4 := Tryd.zeroValue4
  t5 := Tryd.underlying5
  a5 := Tryd.isAgg5
  z5 := Tryd.sizeOf5
  v5 := Tryd.zeroValue5
  t9 := Tryd.underlying9
  a9 := Tryd.isAgg9
  z9 := Tryd.sizeOf9
  v9 := Tryd.zeroValue9
  t20 := Tryd.underlying20
  a20 := Tryd.isAgg20
  z20 := Tryd.sizeOf20
  v20 := Tryd.zeroValue20
  t21 := Tryd.underlying21
  a21 := Tryd.isAgg21
  z21 := Tryd.sizeOf21
  v21 := Tryd.zeroValue21
  t37 := Tryd.underlying22
  a37 := Tryd.isAgg22
  z37 := Tryd.sizeOf22
  v37 := Tryd.zeroValue22
  t46 := Tryd.underlying120
  a46 := Tryd.isAgg120
  z46 := Tryd.sizeOf120
  v46 := Tryd.zeroValue120
  t51 := Tryd.underlying134
  a51 := Tryd.isAgg134
  z51 := Tryd.sizeOf134
  v51 := Tryd.zeroValue134
  t53 := Tryd.underlying122
  a53 := Tryd.isAgg122
  z53 := Tryd.sizeOf122
  v53 := Tryd.zeroValue122
  t75 := Tryd.underlying93
  a75 := Tryd.isAgg93
  z75 := Tryd.sizeOf93
  v75 := Tryd.zeroValue93
  t76 := Tryd.underlying94
  a76 := Tryd.isAgg94
  z76 := Tryd.sizeOf94
  v76 := Tryd.zeroValue94
  t85 := Tryd.underlying114
  a85 := Tryd.isAgg114
  z85 := Tryd.sizeOf114
  v85 := Tryd.zeroValue114
  t127 := Tryd.underlying143
  a127 := Tryd.isAgg143
  z127 := Tryd.sizeOf143
  v127 := Tryd.zeroValue143
  t143 := Tryd.underlying144
  a143 := Tryd.isAgg144
  z143 := Tryd.sizeOf144
  v143 := Tryd.zeroValue144
  t145 := Tryd.underlying146
  a145 := Tryd.isAgg146
  z145 := Tryd.sizeOf146
  v145 := Tryd.zeroValue146
  t167 := Tryd.underlying113
  a167 := Tryd.isAgg113
  z167 := Tryd.sizeOf113
  v167 := Tryd.zeroValue113
  t168 := Tryd.underlying116
  a168 := Tryd.isAgg116
  z168 := Tryd.sizeOf116
  v168 := Tryd.zeroValue116
  t171 := Tryd.underlying129
  a171 := Tryd.isAgg129
  z171 := Tryd.sizeOf129
  v171 := Tryd.zeroValue129
  t173 := Tryd.underlying132
  a173 := Tryd.isAgg132
  z173 := Tryd.sizeOf132
  v173 := Tryd.zeroValue132
  t175 := Tryd.underlying123
  a175 := Tryd.isAgg123
  z175 := Tryd.sizeOf123
  v175 := Tryd.zeroValue123
  t210 := Tryd.underlying127
  a210 := Tryd.isAgg127
  z210 := Tryd.sizeOf127
  v210 := Tryd.zeroValue127
  t212 := Tryd.underlying148
  a212 := Tryd.isAgg148
  z212 := Tryd.sizeOf148
  v212 := Tryd.zeroValue148
  t213 := Tryd.underlying149
  a213 := Tryd.isAgg149
  z213 := Tryd.sizeOf149
  t232 := Tryd.underlying153
  a232 := Tryd.isAgg153
  z232 := Tryd.sizeOf153
  v232 := Tryd.zeroValue153
  t233 := Tryd.underlying154
  a233 := Tryd.isAgg154
  z233 := Tryd.sizeOf154
  v233 := Tryd.zeroValue154
  g15 := by kernel_rfl
  g16 := by kernel_rfl
  g17 := by kernel_rfl
  g18 := by kernel_rfl
  g19 := by kernel_rfl
  t80 := Tryd.underlying46
  a80 := Tryd.isAgg46
  z80 := Tryd.sizeOf46
  v80 := Tryd.zeroValue46
  i0 := by kernel_rfl
  i2 := by kernel_rfl
  i3 := by kernel_rfl
  i4 := by kernel_rfl
  i5 := by kernel_rfl
  i9 := by kernel_rfl
  i20 := by kernel_rfl
  i21 := by kernel_rfl
  i37 := by kernel_rfl
  i46 := by kernel_rfl
  i51 := by kernel_rfl
  i53 := by kernel_rfl
  i75 := by kernel_rfl
  i76 := by kernel_rfl
  i80 := by kernel_rfl
  i85 := by kernel_rfl
  i127 := by kernel_rfl
  i143 := by kernel_rfl
  i145 := by kernel_rfl
  i167 := by kernel_rfl
  i168 := by kernel_rfl
  i171 := by kernel_rfl
  i173 := by kernel_rfl
  i175 := by kernel_rfl
  i210 := by kernel_rfl
  i212 := by kernel_rfl
  i232 := by kernel_rfl
  i233 := by kernel_rfl
  m15 := by kernel_rfl
  m16 := by kernel_rfl
  m17 := by kernel_rfl
  m18 := by kernel_rfl
  m19 := by kernel_rfl
  c0 := by kernel_rfl
  c2 := by kernel_rfl
  c3 := by kernel_rfl
  c4 := by kernel_rfl
  c5 := by kernel_rfl
  c9 := by kernel_rfl
  c20 := by kernel_rfl
  c21 := by kernel_rfl
  c37 := by kernel_rfl
  c46 := by kernel_rfl
  c51 := by kernel_rfl
  c53 := by kernel_rfl
  c75 := by kernel_rfl
  c76 := by kernel_rfl
  c80 := by kernel_rfl
  c85 := by kernel_rfl
  c127 := by kernel_rfl
  c143 := by kernel_rfl
  c145 := by kernel_rfl
  c167 := by kernel_rfl
  c168 := by kernel_rfl
  c171 := by kernel_rfl
  c173 := by kernel_rfl
  c175 := by kernel_rfl
  c210 := by kernel_rfl
  c212 := by kernel_rfl
  c213 := by kernel_rfl
  c232 := by kernel_rfl
  c233 := by kernel_rfl }
end Go.Proofs

/-! SHt: The contracts of strconv.Itoa and strings.Builder at this program. -/
namespace Go.Proofs
open Go.Shelf
def Tryd.lays171_ren : Go.Shelf.Ren := ⟨fun | 171 => 60 | 243 => 71 | 246 => 83 | 283 => 93 | 284 => 94 | 285 => 95 | 286 => 96 | 129 => 102 | 317 => 101 | 318 => 103 | 319 => 104 | 320 => 105 | 337 => 106 | 338 => 107 | n => n, fun | 3 => 3 | 9 => 9 | 2 => 2 | 4 => 4 | 171 => 129 | 0 => 0 | 53 => 122 | 37 => 22 | 5 => 5 | 173 => 132 | 212 => 148 | 51 => 134 | 20 => 20 | 213 => 149 | 46 => 120 | 232 => 153 | 233 => 154 | n => n, fun | 17 => 5 | 18 => 6 | 19 => 7 | n => n⟩
theorem Tryd.lays171 : Go.Proofs.Lays.n171 Tryd.prog Tryd.lays171_ren := {
  mixed := by kernel_rfl
  f129 := Tryd.func102.trans (congrArg some (by kernel_rfl))
  f171 := Tryd.func60.trans (congrArg some (by kernel_rfl))
  f243 := Tryd.func71.trans (congrArg some (by kernel_rfl))
  f246 := Tryd.func83.trans (congrArg some (by kernel_rfl))
  f283 := Tryd.func93.trans (congrArg some (by kernel_rfl))
  f284 := Tryd.func94.trans (congrArg some (by kernel_rfl))
  f285 := Tryd.func95.trans (congrArg some (by kernel_rfl))
  f286 := Tryd.func96.trans (congrArg some (by kernel_rfl))
  f317 := Tryd.func101.trans (congrArg some (by kernel_rfl))
  f318 := Tryd.func103.trans (congrArg some (by kernel_rfl))
  f319 := Tryd.func104.trans (congrArg some (by kernel_rfl))
  f320 := Tryd.func105.trans (congrArg some (by kernel_rfl))
  f337 := Tryd.func106.trans (congrArg some (by kernel_rfl))
  f338 := Tryd.func107.trans (congrArg some (by kernel_rfl))
  t0 := Tryd.underlying0
  a0 := Tryd.isAgg0
  z0 := Tryd.sizeOf0
  v0 := Tryd.zeroValue0
  t2 := Tryd.underlying2
  a2 := Tryd.isAgg2
  z2 := Tryd.sizeOf2
  v2 := Tryd.zeroValue2
  t3 := Tryd.underlying3
  a3 := Tryd.isAgg3
  z3 := Tryd.sizeOf3
  v3 := Tryd.zeroValue3
  t4 := Tryd.underlying4
  a4 := Tryd.isAgg4
  z4 := Tryd.sizeOf4
  v4 := Tryd.zeroValue4
  t5 := Tryd.underlying5
  a5 := Tryd.isAgg5
  z5 := Tryd.sizeOf5
  v5 := Tryd.zeroValue5
  t9 := Tryd.underlying9
  a9 := Tryd.isAgg9
  z9 := Tryd.sizeOf9
  v9 := Tryd.zeroValue9
  t20 := Tryd.underlying20
  a20 := Tryd.isAgg20
  z20 := Tryd.sizeOf20
  v20 := Tryd.zeroValue20
  t37 := Tryd.underlying22
  a37 := Tryd.isAgg22
  z37 := Tryd.sizeOf22
  v37 := Tryd.zeroValue22
  t46 := Tryd.underlying120
  a46 := Tryd.isAgg120
  z46 := Tryd.sizeOf120
  v46 := Tryd.zeroValue120
  t51 := Tryd.underlying134
  a51 := Tryd.isAgg134
  z51 := Tryd.sizeOf134
  v51 := Tryd.zeroValue134
  t53 := Tryd.underlying122
  a53 := Tryd.isAgg122
  z53 := Tryd.sizeOf122
  v53 := Tryd.zeroValue122
  t171 := Tryd.underlying129
  a171 := Tryd.isAgg129
  z171 := Tryd.sizeOf129
  v171 := Tryd.zeroValue129
  t173 := Tryd.underlying132
  a173 := Tryd.isAgg132
  z173 := Tryd.sizeOf132
  v173 := Tryd.zeroValue132
  t212 := Tryd.underlying148
  a212 := Tryd.isAgg148
  z212 := Tryd.sizeOf148
  v212 := Tryd.zeroValue148
  t213 := Tryd.underlying149
  a213 := Tryd.isAgg149
  z213 := Tryd.sizeOf149
  t232 := Tryd.underlying153
  a232 := Tryd.isAgg153
  z232 := Tryd.sizeOf153
  v232 := Tryd.zeroValue153
  t233 := Tryd.underlying154
  a233 := Tryd.isAgg154
  z233 := Tryd.sizeOf154
  v233 := Tryd.zeroValue154
  g17 := by kernel_rfl
  g18 := by kernel_rfl
  g19 := by kernel_rfl }
def Tryd.lays156_ren : Go.Shelf.Ren := ⟨fun | 156 => 130 | 165 => 131 | 166 => 132 | 169 => 133 | 240 => 134 | 241 => 135 | 276 => 136 | 277 => 137 | n => n, fun | 31 => 56 | 9 => 9 | 3 => 3 | 4 => 4 | 0 => 0 | 20 => 20 | 72 => 172 | 76 => 94 | 70 => 170 | 37 => 22 | 75 => 93 | 127 => 143 | 164 => 174 | 5 => 5 | 80 => 46 | n => n, fun | n => n⟩
theorem Tryd.lays156 : Go.Proofs.Lays.n156 Tryd.prog Tryd.lays156_ren := {
  mixed := by kernel_rfl
  f156 := Tryd.func130.trans (congrArg some (by kernel_rfl))
  f165 := Tryd.func131.trans (congrArg some (by kernel_rfl))
  f166 := Tryd.func132.trans (congrArg some (by kernel_rfl))
  f169 := Tryd.func133.trans (congrArg some (by kernel_rfl))
  f240 := Tryd.func134.trans (congrArg some (by kernel_rfl))
  f241 := Tryd.func135.trans (congrArg some (by kernel_rfl))
  f276 := Tryd.func136.trans (congrArg some (by kernel_rfl))
  f277 := Tryd.func137.trans (congrArg some (by kernel_rfl))
  t0 := Tryd.underlying0
  a0 := Tryd.isAgg0
  z0 := Tryd.sizeOf0
  v0 := Tryd.zeroValue0
  t3 := Tryd.underlying3
  a3 := Tryd.isAgg3
  z3 := Tryd.sizeOf3
  v3 := Tryd.zeroValue3
  t4 := Tryd.underlying4
  a4 := Tryd.isAgg4
  z4 := Tryd.sizeOf4
  v4 := Tryd.zeroValue4
  t9 := Tryd.underlying9
  a9 := Tryd.isAgg9
  z9 := Tryd.sizeOf9
  v9 := Tryd.zeroValue9
  t20 := Tryd.underlying20
  a20 := Tryd.isAgg20
  z20 := Tryd.sizeOf20
  v20 := Tryd.zeroValue20
  t31 := Tryd.underlying56
  a31 := Tryd.isAgg56
  z31 := Tryd.sizeOf56
  v31 := Tryd.zeroValue56
  t37 := Tryd.underlying22
  a37 := Tryd.isAgg22
  z37 := Tryd.sizeOf22
  v37 := Tryd.zeroValue22
  t70 := Tryd.underlying170
  a70 := Tryd.isAgg170
  z70 := Tryd.sizeOf170
  v70 := Tryd.zeroValue170
  t72 := Tryd.underlying172
  a72 := Tryd.isAgg172
  z72 := Tryd.sizeOf172
  v72 := Tryd.zeroValue172
  t75 := Tryd.underlying93
  a75 := Tryd.isAgg93
  z75 := Tryd.sizeOf93
  v75 := Tryd.zeroValue93
  t76 := Tryd.underlying94
  a76 := Tryd.isAgg94
  z76 := Tryd.sizeOf94
  v76 := Tryd.zeroValue94
  t127 := Tryd.underlying143
  a127 := Tryd.isAgg143
  z127 := Tryd.sizeOf143
  v127 := Tryd.zeroValue143
  t164 := Tryd.underlying174
  a164 := Tryd.isAgg174
  z164 := Tryd.sizeOf174
  v164 := Tryd.zeroValue174 }
end Go.Proofs

/-! T1: The text of a node, and TermText of the program. -/
namespace Go.Proofs
open Go.Shelf
theorem Tryd.builderExtra156 : Builder.Extra Tryd.prog Tryd.lays156_ren where
  sizeBuilder := by kernel_rfl
  liesBuilder := by kernel_rfl
  t5 := Tryd.underlying5
  a5 := Tryd.isAgg5
  z5 := Tryd.sizeOf5
  v5 := Tryd.zeroValue5
  infoByte := by kernel_rfl
  cellsByte := by kernel_rfl
  sizeByte := by kernel_rfl
  neB5 := by decide
end Go.Proofs

namespace Go.Proofs.YtbnbogdglffkmaaDoor
open Go.RowKit Go.Deep

theorem itoa_any (v : Int) (h0 : 0 ≤ v) (h1 : v < 100) (w : World) :
    Calls Tryd.prog 60 #[.int .i64 v] w fun e w' => e = .returned (.string (str (Lib.decDigits v.toNat))) ∧ w' = w := by
  obtain ⟨n, rfl⟩ := Int.eq_ofNat_of_zero_le h0
  exact Any.strconv_Itoa_small Tryd.lays171 n (by omega) w

set_option maxHeartbeats 400000 in
theorem varText_any (v : Int) (h0 : 0 ≤ v) (h1 : v < 100) (w : World) :
    Calls Tryd.prog 126 #[.int .i64 v] w fun e w' => e = .returned (.string (str (120 :: Lib.decDigits v.toNat))) ∧ w' = w := by
  have hz : (str (Lib.decDigits v.toNat)).size ≤ 2 := by rw [str_size]; exact dec_len (by omega)
  go_enter Tryd.func126, Tryd.ntmps126
  go_wp2_with fail
  with_reducible refine (itoa_any v h0 h1 _).mono ?_
  rintro e w2 ⟨rfl, rfl⟩
  go_wp2_with fail
  go_ret
  exact ⟨by rw [show (120 :: Lib.decDigits v.toNat) = [120] ++ Lib.decDigits v.toNat from rfl, ← str_add]; rfl, rfl⟩

theorem join_any (ks : List (List UInt8)) (bk n c : Nat) (w : World) (hnk : n = ks.length) (hcells : ∀ (j : Nat) l, ks[j]? = some l → w.cell? ⟨bk, j, none⟩ = some (.string (str l))) (hbk : bk < w.heap.size) (hn : ks.length ≤ 1000) (hc : ks.length ≤ c) (hl : lens ks ≤ 1000000) :
    Calls Tryd.prog 130 #[.slice (some ⟨bk, 0, none⟩) n c, .string ⟨#[44]⟩] w fun e w' => e = .returned (.string (str (Lib.join ks [44]))) ∧ Below w.heap.size w w' := by
  subst hnk
  have hm : (ks.map str).map (·.data.toList) = ks := by
    rw [List.map_map]
    exact (List.map_congr_left fun x _ => by simp [str]).trans (List.map_id ks)
  have hj := join_len ks
  have := Any.strings_Join Tryd.lays156 Tryd.builderExtra156 bk 0 c (ks.map str) ⟨#[44]⟩ w (fun j x hx => by
    rw [List.getElem?_map] at hx
    cases hk : ks[j]? with
    | none => rw [hk] at hx; cases hx
    | some l => rw [hk] at hx; obtain rfl := Option.some.inj hx; rw [Nat.zero_add]; exact hcells j l hk) hbk (by rw [List.length_map]; omega) (by rw [List.length_map]; exact hc) (by rw [hm]; show (Lib.join ks [44]).length ≤ _; omega)
  rw [hm, List.length_map] at this
  exact this

theorem Tryd.infoS : ∃ i, Tryd.prog.info? 9 = some i ∧ i.zero = some (.string ⟨#[]⟩) ∧ i.size = 1 ∧ i.bytes = 16 := by
  have h : (Tryd.prog.info? 9).map (fun i => (i.zero, i.size, i.bytes)) = some (some (.string ⟨#[]⟩), 1, 16) := by kernel_rfl
  obtain ⟨i, hi, hz⟩ := Option.map_eq_some_iff.1 h
  simp only [Prod.mk.injEq] at hz
  exact ⟨i, hi, hz.1, hz.2.1, hz.2.2⟩
theorem make_strs (n : Nat) (hn : n ≤ 1048576) (w : World) :
    (Instr.makeSlice 56 (.int .i64 (n : Int)) (.int .i64 (n : Int))).run Tryd.prog w = .ok (.slice (some ⟨w.heap.size, 0, none⟩) n n) (w.alloc (.cells (madeCells #[.string ⟨#[]⟩] n) 9)) := by
  obtain ⟨i, hi, hz, hs, hb⟩ := Tryd.infoS
  have := run_make (P := Tryd.prog) w 56 9 i _ Tryd.underlying56 hi hz .i64 .i64 (n : Int) (n : Int) (by omega) (by omega) (by rw [hb]; omega) (by omega)
  rw [hs] at this
  simpa [Value.cells] using this
theorem strs_made (w : World) (n : Nat) (hn : n ≤ 1048576) : (w.alloc (.cells (madeCells #[.string ⟨#[]⟩] n) 9)).ownsRow w.heap.size 9 1 (.slice (some ⟨w.heap.size, 0, none⟩) n n) n ((List.replicate n []).map fun l => Value.string (str l)) := by
  refine ⟨by simp, .inr ⟨w.heap.size, n, madeCells #[.string ⟨#[]⟩] n, rfl, Nat.le_refl _, heap_alloc_new _ _, Nat.le_refl _, by unfold maxLen; omega, by simp [size_madeCells], ?_⟩⟩
  rw [toList_madeCells_one, List.map_replicate, List.take_of_length_le (by simp)]
  rfl
theorem sign_slice1 (w : World) : (Instr.slice 9 (.string ⟨#[97, 98, 103, 102]⟩) (some (.int .i64 0)) (some (.int .i64 1)) none).run Tryd.prog w = .ok (.string (str [97])) w := by kernel_rfl
theorem sign_slice2 (w : World) : (Instr.slice 9 (.string ⟨#[97, 98, 103, 102]⟩) (some (.int .i64 1)) (some (.int .i64 2)) none).run Tryd.prog w = .ok (.string (str [98])) w := by kernel_rfl
theorem sign_slice3 (w : World) : (Instr.slice 9 (.string ⟨#[97, 98, 103, 102]⟩) (some (.int .i64 2)) (some (.int .i64 3)) none).run Tryd.prog w = .ok (.string (str [103])) w := by kernel_rfl
theorem sign_slice4 (w : World) : (Instr.slice 9 (.string ⟨#[97, 98, 103, 102]⟩) (some (.int .i64 3)) (some (.int .i64 4)) none).run Tryd.prog w = .ok (.string (str [102])) w := by kernel_rfl
theorem sign_slice {s : Int} (h0 : 1 ≤ s) (h1 : s ≤ 4) (w : World) :
    (Instr.slice 9 (.string ⟨#[97, 98, 103, 102]⟩) (some (.int .i64 (s - 1))) (some (.int .i64 s)) none).run Tryd.prog w = .ok (.string (str (ltr s))) w := by
  have : s = 1 ∨ s = 2 ∨ s = 3 ∨ s = 4 := by omega
  rcases this with rfl | rfl | rfl | rfl
  · exact sign_slice1 w
  · exact sign_slice2 w
  · exact sign_slice3 w
  · exact sign_slice4 w
theorem cell_lowT {W w2 : World} {q : Addr} {x : Value} (hb : Below W.heap.size W w2) (h : W.cell? q = some x) : w2.cell? q = some x := by
  rw [hb.cell (World.block_lt_of_cell? _ _ h)]; exact h
theorem okN_signs {s v : Int} {n : Nat} (hs : s ≠ 0) (h : okN s v n = true) : 1 ≤ s ∧ s ≤ 4 := by
  have h' := ((okN_iff _ _ _).1 h).1
  unfold ar at h'
  split at h'
  · omega
  · split at h'
    · omega
    · split at h' <;> omega

set_option maxRecDepth 100000 in
set_option maxHeartbeats 1000000 in
theorem symText_any (N : Nat) : ∀ (s : Int) (a : Option Addr) (c : Nat) (k : Fo) (w : World), NSl w 0 w.heap.size a k → s ≠ 0 → okN s 0 (flen k) = true → fok k = true → fsz k ≤ N → N ≤ 1000 →
    Calls Tryd.prog 129 #[.agg #[.int .i64 s, .slice a (flen k) c]] w fun e w' => e = .returned (.string (str (tx s 0 k))) ∧ Below w.heap.size w w' := by
  induction N using Nat.strongRecOn with
  | _ N ih =>
    intro s a c k w hl hs hokN hok hN hN2
    have hfl := flen_le_sz k
    obtain ⟨hs1, hs4⟩ := okN_signs hs hokN
    have hsl := fun w => sign_slice hs1 hs4 w
    have hshort := fts_short k hok
    have hjl := join_len (fts k)
    have hfl2 := fts_len k
    have hll := ltr_len s
    have HOK := Lib.hid hok
    have HSH := Lib.hid hshort
    have IH := Lib.hid ih
    have HS := Lib.hid hs
    have hz1 : (str (ltr s)).size = 1 := by rw [str_size]; exact hll
    have hz2 : (str (Lib.join (fts k) [44])).size ≤ 100000 := by rw [str_size]; omega
    have hz3 : (str (ltr s ++ [40])).size = 2 := by rw [str_size]; simp [hll]
    have hz4 : (str ((ltr s ++ [40]) ++ Lib.join (fts k) [44])).size ≤ 100002 := by rw [str_size] at hz2 ⊢; simp [hll]; omega
    have HJ1 : Hid (str (ltr s) ++ ⟨#[40]⟩ = str (ltr s ++ [40])) := (str_add _ [40])
    have HJ2 : Hid (str (ltr s ++ [40]) ++ str (Lib.join (fts k) [44]) = str ((ltr s ++ [40]) ++ Lib.join (fts k) [44])) := (str_add _ _)
    have HJ3 : Hid (str ((ltr s ++ [40]) ++ Lib.join (fts k) [44]) ++ ⟨#[41]⟩ = str (((ltr s ++ [40]) ++ Lib.join (fts k) [44]) ++ [41])) := (str_add _ [41])
    clear ih hok hshort hjl hll hs hokN
    by_cases hk0 : flen k = 0
    · have HT := Lib.hid (tx_leaf (v := 0) HS.out hk0)
      have ek : ((flen k : Int) == 0) = true := by simp [hk0]
      clear hl hfl hN hfl2 hk0
      go_enter Tryd.func129, Tryd.ntmps129
      go_wp2_with fail
      go_ret
      exact ⟨by rw [HT.out]; rfl, (Below.refl _ _).alloc (Nat.le_refl _) _⟩
    · have HT := Lib.hid (tx_kids (v := 0) HS.out hk0)
      have ek : ((flen k : Int) == 0) = false := by simp; omega
      have hmk := make_strs (flen k) (by omega)
      have HST := Lib.hid (strs_made (w.alloc (.cells #[.int .i64 s, .slice a (flen k) c] 87)) (flen k) (by omega))
      go_enter Tryd.func129, Tryd.ntmps129
      go_wp2_with fail
      clear hmk
      go_loopw [25] (fun i wr => ∃ (j : Nat) (ys : List (List UInt8)), j ≤ flen k ∧ i = .int .i64 j ∧ Hid (ys.length = flen k ∧ ∀ q, q < j → ys[q]? = (fts k)[q]?) ∧ Hid (wr.ownsRow (w.heap.size + 1) 9 1 (.slice (some ⟨w.heap.size + 1, 0, none⟩) (flen k) (flen k)) (flen k) (ys.map fun l => Value.string (str l))) ∧ Below (w.heap.size + 1) (w.alloc (.cells #[.int .i64 s, .slice a (flen k) c] 87)) wr) (fun i _ => flen k - (intOf i).toNat)
      case atStart => exact ⟨0, List.replicate (flen k) [], by omega, rfl, ⟨by simp, fun q hq => by omega⟩, by simpa [Hid] using HST.out, (Below.refl _ _).alloc (by simp) _⟩
      case round =>
        clear HST
        obtain ⟨j, ys, hj, rfl, hys, hown, hbl⟩ := hrel
        have hsr := hbl.size
        simp at hsr
        by_cases hlt : j < flen k
        · rcases hl with rfl | ⟨b, o, rfl, hrow⟩
          · simp [flen] at hlt
          obtain ⟨s', v', kk, val, ⟨x, y, hd⟩, _, hbB, hkc, hn⟩ := nrow_at (hrow.below (after_top hbl)) hlt
          have hkN := fsz_kid hd
          have hkok := fok_kid HOK.out hd
          have HAT := Lib.hid (fts_at j k hd)
          have HBL := Lib.hid hbl
          have g1 : (0 : Int) ≤ (j : Int) := by omega
          have g2 : (j : Int) < (flen k : Int) := by omega
          clear hd hrow hbl hsl hz1 hz2 hz3 hz4
          have hcl : ∃ u, wr.cell? ⟨w.heap.size + 1, j, none⟩ = some u := by
            rw [hown.out.cellAt j (by omega)]
            exact ⟨_, List.getElem?_eq_getElem (by simp [hys.out.1, hlt])⟩
          have hfz := hown.out.frozenAt j
          have HFIN : Hid (∀ w2 : World, Below wr.heap.size wr w2 → (∃ u, w2.cell? ⟨w.heap.size + 1, j, none⟩ = some u) ∧ w2.frozen? ⟨w.heap.size + 1, j, none⟩ = false ∧ (∃ ys' : List (List UInt8), Hid (ys'.length = flen k ∧ ∀ q, q < j + 1 → ys'[q]? = (fts k)[q]?) ∧ Hid ((w2.setCell ⟨w.heap.size + 1, j, none⟩ (.string (str (tx s' v' kk)))).ownsRow (w.heap.size + 1) 9 1 (.slice (some ⟨w.heap.size + 1, 0, none⟩) (flen k) (flen k)) (flen k) (ys'.map fun l => Value.string (str l)))) ∧ Below (w.heap.size + 1) (w.alloc (.cells #[.int .i64 s, .slice (some ⟨b, o, none⟩) (flen k) c] 87)) (w2.setCell ⟨w.heap.size + 1, j, none⟩ (.string (str (tx s' v' kk))))) := by
            intro w2 hb2
            have hown2 := own_low hb2 hown.out
            obtain ⟨u, hcl⟩ := hcl
            refine ⟨⟨u, cell_lowT hb2 hcl⟩, hown2.frozenAt j, ⟨ys.set j (tx s' v' kk), ?_, ?_⟩, (HBL.out.trans (hb2.mono hsr)).setCell (by simp) _⟩
            · refine ⟨by rw [List.length_set]; exact hys.out.1, fun q hq => ?_⟩
              by_cases e : q = j
              · subst e
                rw [List.getElem?_set_self (by rw [hys.out.1]; exact hlt), HAT.out]
              · rw [List.getElem?_set_ne (fun h => e h.symm)]
                exact hys.out.2 q (by omega)
            · obtain ⟨hst, _⟩ := hown2.stored j (.string (str (tx s' v' kk)))
              unfold Hid
              rw [List.map_set]
              exact hst
          clear hown hys hcl hfz HAT
          rcases hn with ⟨rfl, rfl, rfl⟩ | ⟨hs', a2, c2, rfl, hn2⟩
          · have hv := ((okN_iff _ _ _).1 hkok.1).2.1 rfl
            clear hkok
            go_wp2_with fail
            refine upon_method 126 (by kernel_rfl) (by kernel_rfl) ?_
            go_simp
            with_reducible refine (varText_any v' hv.1 (by omega) _).mono ?_
            rintro e w2 ⟨rfl, rfl⟩
            obtain ⟨⟨u, hcl⟩, hfz, ⟨ys', hys', hown'⟩, hbl'⟩ := HFIN.out w2 (Below.refl _ _)
            rw [tx_var] at hown' hbl'
            have HBL' := Lib.hid hbl'
            clear HFIN hbl'
            go_wp2_with fail
            go_roundw
            case rel => exact ⟨j + 1, ys', by omega, by go_num, hys', hown', HBL'.out⟩
            case measure => simp [intOf]; omega
          · have hv0 : v' = 0 := ((okN_iff _ _ _).1 hkok.1).2.2 hs'
            subst hv0
            have HKO := Lib.hid hkok
            have HN2 := Lib.hid hn2
            have HS' := Lib.hid hs'
            clear hn2 hkok hs'
            go_wp2_with fail
            refine upon_method 129 (by kernel_rfl) (by kernel_rfl) ?_
            go_simp
            with_reducible refine (IH.out (fsz kk) (by omega) s' a2 c2 kk _ ?_ HS'.out HKO.out.1 HKO.out.2 (Nat.le_refl _) (by omega)).mono ?_
            · exact HN2.out.mono (Nat.le_refl _) (by omega)
            rintro e w2 ⟨rfl, hb2⟩
            obtain ⟨⟨u, hcl⟩, hfz, ⟨ys', hys', hown'⟩, hbl'⟩ := HFIN.out w2 hb2
            have HBL' := Lib.hid hbl'
            clear HFIN hbl' hb2
            go_wp2_with fail
            go_roundw
            case rel => exact ⟨j + 1, ys', by omega, by go_num, hys', hown', HBL'.out⟩
            case measure => simp [intOf]; omega
        · have hje : j = flen k := by omega
          subst hje
          have HE : Hid (ys = fts k) := by
            refine List.ext_getElem? fun q => ?_
            by_cases hq : q < flen k
            · exact hys.out.2 q hq
            · rw [List.getElem?_eq_none (by rw [hys.out.1]; omega), List.getElem?_eq_none (by rw [fts_len]; omega)]
          have HCE : Hid (∀ (q : Nat) l, (fts k)[q]? = some l → wr.cell? ⟨w.heap.size + 1, q, none⟩ = some (.string (str l))) := fun q l hql => by
            have hq := (List.getElem?_eq_some_iff.1 hql).1
            rw [hown.out.cellAt q (by rw [fts_len] at hq; omega), HE.out, List.getElem?_map, hql]
            rfl
          have hgl : w.heap.size + 1 < wr.heap.size := by
            rcases hown.out.2 with ⟨h, _⟩ | ⟨g, cap, cur, hv, _, hg, _⟩
            · cases h
            · simp only [Value.slice.injEq, Option.some.injEq, Addr.mk.injEq] at hv
              obtain ⟨⟨rfl, _⟩, _⟩ := hv
              exact (Array.getElem?_eq_some_iff.1 hg).1
          have HBL := Lib.hid hbl
          clear hys hown hbl
          go_wp2_with fail
          rw [HJ1.out]
          go_wp2_with fail
          with_reducible refine (join_any (fts k) (w.heap.size + 1) (flen k) (flen k) _ hfl2.symm HCE.out hgl (by omega) (by omega) ?_).mono ?_
          · have := HSH.out; omega
          rintro e w2 ⟨rfl, hb2⟩
          have HB2 := Lib.hid (HBL.out.trans (hb2.mono hsr))
          clear hb2 hgl
          go_wp2_with fail
          rw [HJ2.out]
          go_wp2_with fail
          rw [HJ3.out]
          go_wp2_with fail
          go_ret
          exact ⟨by rw [HT.out]; simp, after_top HB2.out⟩
end Go.Proofs.YtbnbogdglffkmaaDoor

/-! RD2: The reader of texts: a mark is skipped, a letter's sign, a variable. -/
namespace Go.Proofs.YtbnbogdglffkmaaDoor
open Go.RowKit Go.Deep

/-- The two errors of the library that a number's reader hands on lie below block B. -/
structure ErrAt (w : World) (B : Nat) : Prop where
  syn : ∃ tp p, w.cell? ⟨1, 0, none⟩ = some (.iface tp p)
  rng : ∃ tp p, w.cell? ⟨2, 0, none⟩ = some (.iface tp p)
  b1 : 1 < B
  b2 : 2 < B
theorem ErrAt.same {w w' : World} {B : Nat} (h : ErrAt w B) (hs : Same 0 B w w') : ErrAt w' B := by
  obtain ⟨⟨t1, p1, h1⟩, ⟨t2, p2, h2⟩, b1, b2⟩ := h
  exact ⟨⟨t1, p1, by rw [hs.cell (Nat.zero_le _) b1]; exact h1⟩, ⟨t2, p2, by rw [hs.cell (Nat.zero_le _) b2]; exact h2⟩, b1, b2⟩
theorem ErrAt.mono {w : World} {B B' : Nat} (h : ErrAt w B) (hB : B ≤ B') : ErrAt w B' := ⟨h.syn, h.rng, Nat.lt_of_lt_of_le h.b1 hB, Nat.lt_of_lt_of_le h.b2 hB⟩

/-- The reader in block br holds the text l, and room for so many. -/
structure RdAt (w : World) (br : Nat) (l : List UInt8) (room : Int) : Prop where
  lt : br < w.heap.size
  c0 : w.cell? ⟨br, 0, none⟩ = some (.string (str l))
  c1 : w.cell? ⟨br, 1, none⟩ = some (.int .i64 room)
  f0 : w.frozen? ⟨br, 0, none⟩ = false
  f1 : w.frozen? ⟨br, 1, none⟩ = false
theorem RdAt.of_block {w w' : World} {br : Nat} {l : List UInt8} {room : Int} (h : RdAt w br l room) (hb : w'.heap[br]? = w.heap[br]?) (hs : w.heap.size ≤ w'.heap.size) : RdAt w' br l room := by
  have hc : ∀ o, w'.cell? ⟨br, o, none⟩ = w.cell? ⟨br, o, none⟩ := fun o => by simp only [World.cell?, hb]
  have hf : ∀ o, w'.frozen? ⟨br, o, none⟩ = w.frozen? ⟨br, o, none⟩ := fun o => by simp only [World.frozen?, hb]
  exact ⟨Nat.lt_of_lt_of_le h.lt hs, by rw [hc]; exact h.c0, by rw [hc]; exact h.c1, by rw [hf]; exact h.f0, by rw [hf]; exact h.f1⟩
theorem RdAt.below {w w' : World} {br B : Nat} {l : List UInt8} {room : Int} (h : RdAt w br l room) (hb : Below B w w') (hB : br < B) : RdAt w' br l room := h.of_block (hb.block br hB) hb.size
theorem ne_cell {b i j : Nat} (h : i ≠ j) : (⟨b, i, none⟩ : Addr) ≠ ⟨b, j, none⟩ := fun e => h (congrArg Addr.off e)
theorem RdAt.rest {w : World} {br : Nat} {l : List UInt8} {room : Int} (h : RdAt w br l room) (l' : List UInt8) : RdAt (w.setCell ⟨br, 0, none⟩ (.string (str l'))) br l' room :=
  ⟨by rw [World.size_setCell]; exact h.lt, World.cell?_setCell_same _ _ _ h.c0, by rw [World.cell?_setCell_other _ _ _ _ (ne_cell (by omega))]; exact h.c1, by rw [World.frozen?_setCell]; exact h.f0, by rw [World.frozen?_setCell]; exact h.f1⟩
theorem RdAt.room {w : World} {br : Nat} {l : List UInt8} {room : Int} (h : RdAt w br l room) (r' : Int) : RdAt (w.setCell ⟨br, 1, none⟩ (.int .i64 r')) br l r' :=
  ⟨by rw [World.size_setCell]; exact h.lt, by rw [World.cell?_setCell_other _ _ _ _ (ne_cell (by omega))]; exact h.c0, World.cell?_setCell_same _ _ _ h.c1, by rw [World.frozen?_setCell]; exact h.f0, by rw [World.frozen?_setCell]; exact h.f1⟩

/-- Nothing that was there has changed but what block br holds. -/
structure Rk (br : Nat) (w w' : World) : Prop where
  os : w'.os = w.os
  tape : w'.tape = w.tape
  output : w'.output = w.output
  size : w.heap.size ≤ w'.heap.size
  block : ∀ k, k < w.heap.size → k ≠ br → w'.heap[k]? = w.heap[k]?
theorem Rk.refl (br : Nat) (w : World) : Rk br w w := ⟨rfl, rfl, rfl, Nat.le_refl _, fun _ _ _ => rfl⟩
theorem Rk.trans {br : Nat} {w w1 w2 : World} (h : Rk br w w1) (h' : Rk br w1 w2) : Rk br w w2 :=
  ⟨h'.os.trans h.os, h'.tape.trans h.tape, h'.output.trans h.output, Nat.le_trans h.size h'.size, fun k hk hn => (h'.block k (Nat.lt_of_lt_of_le hk h.size) hn).trans (h.block k hk hn)⟩
theorem Rk.of_below {br : Nat} {w w' : World} (h : Below w.heap.size w w') : Rk br w w' := ⟨h.os, h.tape, h.output, h.size, fun k hk _ => h.block k hk⟩
theorem Rk.set (br : Nat) (w : World) (o : Nat) (v : Value) : Rk br w (w.setCell ⟨br, o, none⟩ v) :=
  ⟨rfl, rfl, rfl, by rw [World.size_setCell]; exact Nat.le_refl _, fun k _ hn => Below.heap_setCell _ _ _ _ (by simpa using hn)⟩
theorem Rk.to {br B : Nat} {w w' : World} (h : Rk br w w') (hB : B ≤ br) (hw : B ≤ w.heap.size) : Below B w w' :=
  ⟨h.os, h.tape, h.output, h.size, fun k hk => h.block k (by omega) (by omega)⟩
theorem Rk.same {br B : Nat} {w w' : World} (h : Rk br w w') (hB : B ≤ br) (hw : B ≤ w.heap.size) : Same 0 B w w' := fun k _ hk => h.block k (by omega) (by omega)

theorem cutPrefix_any (m : UInt8) (l : List UInt8) (w : World) :
    Calls Tryd.prog 57 #[.string (str l), .string ⟨#[m]⟩] w fun e w' => e = .returned (.tuple #[.string (str ((skp m l).getD l)), .bool (skp m l).isSome]) ∧ w' = w := by
  have h := Any.strings_CutPrefix Tryd.lays103 (str l) ⟨#[m]⟩ w
  refine Calls.mono h fun e w' ⟨he, hw⟩ => ⟨?_, hw⟩
  rw [he]
  rcases skp_has (m := m) (l := l) with ⟨h1, r, _, h2, h3⟩ | ⟨h1, h2, h3⟩
  · show Ending.returned (.tuple #[.string (str (Lib.trimPrefix l [m])), .bool (Lib.hasPrefix l [m])]) = _
    rw [h1, h2, h3]; rfl
  · show Ending.returned (.tuple #[.string (str (Lib.trimPrefix l [m])), .bool (Lib.hasPrefix l [m])]) = _
    rw [h1, h2, h3]; rfl

set_option maxHeartbeats 400000 in
theorem skip_any (br : Nat) (m : UInt8) (l : List UInt8) (room : Int) (w : World) (h : RdAt w br l room) :
    Calls Tryd.prog 44 #[.pointer (some ⟨br, 0, none⟩), .string ⟨#[m]⟩] w fun e w' =>
      e = .returned (.bool (skp m l).isSome) ∧ Rk br w w' ∧ RdAt w' br ((skp m l).getD l) room := by
  have h0 := h.c0
  have h2 := h.f0
  have HH := Lib.hid h
  clear h
  go_enter Tryd.func44, Tryd.ntmps44
  go_wp2_with (go_at_call 57; refine (cutPrefix_any _ _ _).mono ?_; rintro e w2 ⟨rfl, rfl⟩)
  go_ret
  exact ⟨rfl, Rk.set _ _ _ _, HH.out.rest _⟩

theorem sgnI_range (b : UInt8) : 0 ≤ sgnI b ∧ sgnI b ≤ 4 := by
  unfold sgnI
  split
  · omega
  · split
    · omega
    · split
      · omega
      · split <;> omega
set_option maxHeartbeats 400000 in
theorem signLetter_any (b : UInt8) (w : World) :
    Calls Tryd.prog 46 #[.int .u8 b.toNat] w fun e w' => e = .returned (.int .i64 (sgnI b)) ∧ w = w' := by
  have hi := Any.strings_IndexByte Tryd.lays137 ⟨#[97, 98, 103, 102]⟩ (b.toNat : Int) w
  have hb : (b.toNat : Int).toNat.toUInt8 = b := by
    rw [Int.toNat_natCast]
    exact UInt8.ofNat_toNat
  rw [hb] at hi
  have hx := index_letter b
  obtain ⟨hr0, hr1⟩ := sgnI_range b
  obtain ⟨x, hxx⟩ : ∃ x, x = Lib.indexByte [97, 98, 103, 102] b := ⟨_, rfl⟩
  have hi : Calls Tryd.prog 61 #[.string ⟨#[97, 98, 103, 102]⟩, .int .u8 b.toNat] w fun e w' => e = .returned (.int .i64 x) ∧ w' = w := by rw [hxx]; exact hi
  rw [← hxx] at hx
  clear hb hxx
  have HX := Lib.hid hx
  clear hx
  go_enter Tryd.func46, Tryd.ntmps46
  go_wp2_with (go_at_call 61; refine hi.mono ?_; rintro e w2 ⟨rfl, rfl⟩)
  go_ret
  refine ⟨?_, rfl⟩
  rw [show wrap64 (1 + x) = sgnI b from by have := HX.out; unfold wrap64; omega]
  rfl

/-- A reading's answer: the node, and what is left. -/
def NdPost (br : Nat) (w : World) (o : Option ((Int × Int × Fo) × Nat × List UInt8)) (e : Ending) (w' : World) : Prop :=
  ∃ nv l' room', e = .returned (.tuple #[nv, .bool o.isSome]) ∧ Rk br w w' ∧ RdAt w' br l' room' ∧
    ∀ s v k m r, o = some ((s, v, k), m, r) → l' = r ∧ room' = (m : Int) ∧ NodeC w' w.heap.size w'.heap.size nv s v k

theorem itoaI_any (v : Int) (h0 : 0 ≤ v) (h1 : v < 100) (w : World) :
    Calls Tryd.prog 60 #[.int .i64 v] w fun e w' => e = .returned (.string (str (Lib.decDigits v.toNat))) ∧ w' = w := itoa_any v h0 h1 w
/-- A number's text is read: a number, or an error. -/
theorem atoi_any (d : List UInt8) (hd : d.length ≤ 1048576) (w : World) {B : Nat} (hE : ErrAt w B) :
    Calls Tryd.prog 59 #[.string (str d)] w fun e w' => Below w.heap.size w w' ∧
      ((∃ v, Lib.atoiAll d = .ok v ∧ e = .returned (.tuple #[.int .i64 v, .nilIface])) ∨ ((∀ v, Lib.atoiAll d ≠ .ok v) ∧ ∃ v t p, e = .returned (.tuple #[.int .i64 v, .iface t p]))) := by
  have hs : (str d).size ≤ 1048576 := by rw [str_size]; exact hd
  cases hA : Lib.atoiAll d with
  | ok v =>
    refine Calls.mono (Any.strconv_Atoi_ok Tryd.laysC172 (str d) (by omega) v hA w) fun e w' ⟨he, hw⟩ => ⟨?_, .inl ⟨v, rfl, he⟩⟩
    rcases hw with rfl | ⟨t, rfl⟩
    · exact Below.refl _ _
    · exact Lib.bytesWorld_below _ _ _
  | «syntax» =>
    obtain ⟨tp, p, hc⟩ := hE.syn
    exact Calls.mono (Any.strconv_Atoi_syntax Tryd.laysC172 (str d) (by omega) hA (.iface tp p) w hc (.inr ⟨tp, p, rfl⟩)) fun e w' ⟨N, he, _, _, hb⟩ => ⟨hb, .inr ⟨(fun v h => by cases h), _, _, _, he⟩⟩
  | range =>
    obtain ⟨tp, p, hc⟩ := hE.rng
    exact Calls.mono (Any.strconv_Atoi_range Tryd.laysC172 (str d) (by omega) hA (.iface tp p) w hc (.inr ⟨tp, p, rfl⟩)) fun e w' ⟨N, he, _, _, hb⟩ => ⟨hb, .inr ⟨(fun v h => by cases h), _, _, _, he⟩⟩
theorem str_toList (l : List UInt8) : (str l).data.toList = l := rfl
theorem str_inj {l m : List UInt8} (h : str l = str m) : l = m := by
  have := congrArg (fun s : ByteArray => s.data.toList) h
  exact this
theorem str_of {s : ByteArray} {l : List UInt8} (h : s.data.toList = l) : s = str l := by
  apply ByteArray.ext
  rw [← h]
  simp [str]
theorem trimLeft_any (l : List UInt8) (w : World) :
    Calls Tryd.prog 58 #[.string (str l), .string ⟨#[48, 49, 50, 51, 52, 53, 54, 55, 56, 57]⟩] w fun e w' => e = .returned (.string (str (l.dropWhile isDig))) ∧ Below w.heap.size w w' := by
  refine Calls.mono (Any.strings_TrimLeft_laid Tryd.lays161 (by kernel_rfl) (str l) ⟨#[48, 49, 50, 51, 52, 53, 54, 55, 56, 57]⟩ w (by decide) (ascii_of_all (by decide))) fun e w' ⟨he, hb⟩ => ⟨?_, hb⟩
  rw [he, ← trim_digs]
  rfl
end Go.Proofs.YtbnbogdglffkmaaDoor
