/- What the law stands on: StLay StP StB DkLay SameS StLayC. -/
import Derived.Test.YthmiojmlaclgaaaGreatDoorJ00
import Derived.Test.YthmiojmlaclgaaaGreatDoorRows
import Derived.Shelf.Strings.Cut
import Derived.Shelf.Strings.Split
import Derived.Shelf.Strings.OnBuilder
import Derived.Shelf.Strconv.Itoa3
import Derived.Shelf.Pu.ErrVarParseUint
import Derived.Lib.ItoaNum
import Derived.Lib.ItoaLen
import Derived.Lib.Join
import Derived.Lib.IndexMore
import Derived.Lib.ParseIntBCases
import Derived.Lib.SplitLaws
import Derived.Test.YthmiojmlaclgaaaGreatDoorJ01
import Derived.Lib.SmallJoins
import Derived.Lib.AppendIntMem
import Derived.Lib.AtoiErrMem
import Derived.Shelf.Strings.Prefix
import Derived.Shelf.Strings.Count
import Derived.Shelf.Slices.Turned
import Derived.Shelf.Strconv.ErrVarAll
import Derived.Shelf.Strings.BuilderF
import Derived.Test.YthmiojmlaclgaaaGreatDoorJ05
import Derived.Test.YthmiojmlaclgaaaGreatDoorJ04
import Derived.BigQuiet
import Derived.Deep.QuietTactic
import Derived.Shelf.Pu.Clone
set_option maxRecDepth 100000
set_option maxHeartbeats 12800000
namespace Go.Proofs.YthmiojmlaclgaaaGreatDoor.Fx
open Go.RowKit
section
open Go.Shelf
def laysCut_ren:Go.Shelf.Ren:=⟨fun | 145=>173 | 220=>212 | 219=>45 | 217=>73 | 225=>74 | 224=>75 | 267=>76 | 266=>113 | 314=>114 | n=>n,fun | 9=>9 | 4=>4 | 59=>204 | 3=>3 | 5=>5 | 46=>125 | 146=>155 | 51=>154 | n=>n,fun | 1=>0 | n=>n⟩
theorem laysCut:Go.Proofs.Lays.n145 Tryz.prog laysCut_ren:={
 mixed:=by kernel_rfl
 f145:=Tryz.func173.trans (congrArg some (by kernel_rfl))
 f217:=Tryz.func73.trans (congrArg some (by kernel_rfl))
 f219:=Tryz.func45.trans (congrArg some (by kernel_rfl))
 f220:=Tryz.func212.trans (congrArg some (by kernel_rfl))
 f224:=Tryz.func75.trans (congrArg some (by kernel_rfl))
 f225:=Tryz.func74.trans (congrArg some (by kernel_rfl))
 f266:=Tryz.func113.trans (congrArg some (by kernel_rfl))
 f267:=Tryz.func76.trans (congrArg some (by kernel_rfl))
 f314:=Tryz.func114.trans (congrArg some (by kernel_rfl))
 t3:=Tryz.underlying3
 a3:=Tryz.isAgg3
 z3:=Tryz.sizeOf3
 v3:=Tryz.zeroValue3
 t4:=Tryz.underlying4
 a4:=Tryz.isAgg4
 z4:=Tryz.sizeOf4
 v4:=Tryz.zeroValue4
 t5:=Tryz.underlying5
 a5:=Tryz.isAgg5
 z5:=Tryz.sizeOf5
 v5:=Tryz.zeroValue5
 t9:=Tryz.underlying9
 a9:=Tryz.isAgg9
 z9:=Tryz.sizeOf9
 v9:=Tryz.zeroValue9
 t46:=Tryz.underlying125
 a46:=Tryz.isAgg125
 z46:=Tryz.sizeOf125
 v46:=Tryz.zeroValue125
 t51:=Tryz.underlying154
 a51:=Tryz.isAgg154
 z51:=Tryz.sizeOf154
 v51:=Tryz.zeroValue154
 t59:=Tryz.underlying204
 a59:=Tryz.isAgg204
 z59:=Tryz.sizeOf204
 v59:=Tryz.zeroValue204
 t146:=Tryz.underlying155
 a146:=Tryz.isAgg155
 z146:=Tryz.sizeOf155
 v146:=Tryz.zeroValue155
 g1:=by kernel_rfl }
def laysCutM_ren:Go.Shelf.Ren:=⟨fun | 145=>173 | 220=>212 | 219=>45 | 217=>73 | 225=>74 | 224=>75 | 267=>76 | 266=>113 | 314=>114 | n=>n,fun | 9=>9 | 4=>4 | 59=>204 | 3=>3 | 5=>5 | 46=>125 | 146=>155 | 51=>154 | n=>n,fun | 1=>0 | n=>n⟩
theorem laysCutM:Go.Proofs.LaysM.n145 Tryz.prog laysCutM_ren:={
 mixed:=by kernel_rfl
 f145:=Tryz.func173.trans (congrArg some (by kernel_rfl))
 f217:=Tryz.func73.trans (congrArg some (by kernel_rfl))
 f219:=Tryz.func45.trans (congrArg some (by kernel_rfl))
 f220:=Tryz.func212.trans (congrArg some (by kernel_rfl))
 f224:=Tryz.func75.trans (congrArg some (by kernel_rfl))
 f225:=Tryz.func74.trans (congrArg some (by kernel_rfl))
 f266:=Tryz.func113.trans (congrArg some (by kernel_rfl))
 f267:=Tryz.func76.trans (congrArg some (by kernel_rfl))
 f314:=Tryz.func114.trans (congrArg some (by kernel_rfl))
 t3:=Tryz.underlying3
 a3:=Tryz.isAgg3
 z3:=Tryz.sizeOf3
 v3:=Tryz.zeroValue3
 t4:=Tryz.underlying4
 a4:=Tryz.isAgg4
 z4:=Tryz.sizeOf4
 v4:=Tryz.zeroValue4
 t5:=Tryz.underlying5
 a5:=Tryz.isAgg5
 z5:=Tryz.sizeOf5
 v5:=Tryz.zeroValue5
 t9:=Tryz.underlying9
 a9:=Tryz.isAgg9
 z9:=Tryz.sizeOf9
 v9:=Tryz.zeroValue9
 t46:=Tryz.underlying125
 a46:=Tryz.isAgg125
 z46:=Tryz.sizeOf125
 v46:=Tryz.zeroValue125
 t51:=Tryz.underlying154
 a51:=Tryz.isAgg154
 z51:=Tryz.sizeOf154
 v51:=Tryz.zeroValue154
 t59:=Tryz.underlying204
 a59:=Tryz.isAgg204
 z59:=Tryz.sizeOf204
 v59:=Tryz.zeroValue204
 t146:=Tryz.underlying155
 a146:=Tryz.isAgg155
 z146:=Tryz.sizeOf155
 v146:=Tryz.zeroValue155
 g1:=by kernel_rfl
 i3:=by kernel_rfl
 i4:=by kernel_rfl
 i5:=by kernel_rfl
 i9:=by kernel_rfl
 i46:=by kernel_rfl
 i51:=by kernel_rfl
 i59:=by kernel_rfl
 i146:=by kernel_rfl
 m1:=by kernel_rfl
 s1_3:=fun w h=>Go.Proofs.cell_of_shapedOpen_int (zero:=#[.int .i64 0]) (t:=3) h (of_decide_eq_true (by kernel_rfl)) (by kernel_rfl) rfl (by kernel_rfl) (by kernel_rfl) Tryz.underlying3 }
def laysSplit_ren:Go.Shelf.Ren:=⟨fun | 146=>8 | 221=>22 | 268=>44 | 138=>12 | 143=>27 | 195=>25 | 197=>72 | 218=>26 | 219=>45 | 260=>112 | 217=>73 | 225=>74 | 224=>75 | 267=>76 | 266=>113 | 314=>114 | n=>n,fun | 9=>9 | 31=>24 | 3=>3 | 4=>4 | 0=>0 | 105=>122 | 21=>21 | 5=>5 | 46=>125 | 119=>191 | 139=>194 | 138=>193 | 146=>155 | 51=>154 | n=>n,fun | 1=>0 | 3=>1 | 4=>2 | n=>n⟩
theorem laysSplit:Go.Proofs.Lays.n146 Tryz.prog laysSplit_ren:={
 mixed:=by kernel_rfl
 f138:=Tryz.func12.trans (congrArg some (by kernel_rfl))
 f143:=Tryz.func27.trans (congrArg some (by kernel_rfl))
 f146:=Tryz.func8.trans (congrArg some (by kernel_rfl))
 f195:=Tryz.func25.trans (congrArg some (by kernel_rfl))
 f197:=Tryz.func72.trans (congrArg some (by kernel_rfl))
 f217:=Tryz.func73.trans (congrArg some (by kernel_rfl))
 f218:=Tryz.func26.trans (congrArg some (by kernel_rfl))
 f219:=Tryz.func45.trans (congrArg some (by kernel_rfl))
 f221:=Tryz.func22.trans (congrArg some (by kernel_rfl))
 f224:=Tryz.func75.trans (congrArg some (by kernel_rfl))
 f225:=Tryz.func74.trans (congrArg some (by kernel_rfl))
 f260:=Tryz.func112.trans (congrArg some (by kernel_rfl))
 f266:=Tryz.func113.trans (congrArg some (by kernel_rfl))
 f267:=Tryz.func76.trans (congrArg some (by kernel_rfl))
 f268:=Tryz.func44.trans (congrArg some (by kernel_rfl))
 f314:=Tryz.func114.trans (congrArg some (by kernel_rfl))
 t0:=Tryz.underlying0
 a0:=Tryz.isAgg0
 z0:=Tryz.sizeOf0
 v0:=Tryz.zeroValue0
 t3:=Tryz.underlying3
 a3:=Tryz.isAgg3
 z3:=Tryz.sizeOf3
 v3:=Tryz.zeroValue3
 t4:=Tryz.underlying4
 a4:=Tryz.isAgg4
 z4:=Tryz.sizeOf4
 v4:=Tryz.zeroValue4
 t5:=Tryz.underlying5
 a5:=Tryz.isAgg5
 z5:=Tryz.sizeOf5
 v5:=Tryz.zeroValue5
 t9:=Tryz.underlying9
 a9:=Tryz.isAgg9
 z9:=Tryz.sizeOf9
 v9:=Tryz.zeroValue9
 t21:=Tryz.underlying21
 a21:=Tryz.isAgg21
 z21:=Tryz.sizeOf21
 v21:=Tryz.zeroValue21
 t31:=Tryz.underlying24
 a31:=Tryz.isAgg24
 z31:=Tryz.sizeOf24
 v31:=Tryz.zeroValue24
 t46:=Tryz.underlying125
 a46:=Tryz.isAgg125
 z46:=Tryz.sizeOf125
 v46:=Tryz.zeroValue125
 t51:=Tryz.underlying154
 a51:=Tryz.isAgg154
 z51:=Tryz.sizeOf154
 v51:=Tryz.zeroValue154
 t105:=Tryz.underlying122
 a105:=Tryz.isAgg122
 z105:=Tryz.sizeOf122
 v105:=Tryz.zeroValue122
 t119:=Tryz.underlying191
 a119:=Tryz.isAgg191
 z119:=Tryz.sizeOf191
 t138:=Tryz.underlying193
 a138:=Tryz.isAgg193
 z138:=Tryz.sizeOf193
 v138:=Tryz.zeroValue193
 t139:=Tryz.underlying194
 a139:=Tryz.isAgg194
 z139:=Tryz.sizeOf194
 v139:=Tryz.zeroValue194
 t146:=Tryz.underlying155
 a146:=Tryz.isAgg155
 z146:=Tryz.sizeOf155
 v146:=Tryz.zeroValue155
 g1:=by kernel_rfl
 g3:=by kernel_rfl
 g4:=by kernel_rfl }
def ZbI:Go.Shelf.Ren:=⟨fun | 156=>121 | 165=>171 | 166=>19 | 169=>20 | 240=>37 | 241=>211 | 276=>61 | 277=>229 | n=>n,fun | 31=>24 | 9=>9 | 3=>3 | 4=>4 | 0=>0 | 20=>20 | 72=>38 | 76=>44 | 70=>35 | 37=>36 | 75=>43 | 127=>74 | 164=>108 | 5=>5 | 80=>46 | n=>n,fun | n=>n⟩
theorem laysJoin:Go.Proofs.Lays.n156 Tryz.prog ZbI:={
 mixed:=by kernel_rfl
 f156:=Tryz.func121.trans (congrArg some (by kernel_rfl))
 f165:=Tryz.func171.trans (congrArg some (by kernel_rfl))
 f166:=Tryz.func19.trans (congrArg some (by kernel_rfl))
 f169:=Tryz.func20.trans (congrArg some (by kernel_rfl))
 f240:=Tryz.func37.trans (congrArg some (by kernel_rfl))
 f241:=Tryz.func211.trans (congrArg some (by kernel_rfl))
 f276:=Tryz.func61.trans (congrArg some (by kernel_rfl))
 f277:=Tryz.func229.trans (congrArg some (by kernel_rfl))
 t0:=Tryz.underlying0
 a0:=Tryz.isAgg0
 z0:=Tryz.sizeOf0
 v0:=Tryz.zeroValue0
 t3:=Tryz.underlying3
 a3:=Tryz.isAgg3
 z3:=Tryz.sizeOf3
 v3:=Tryz.zeroValue3
 t4:=Tryz.underlying4
 a4:=Tryz.isAgg4
 z4:=Tryz.sizeOf4
 v4:=Tryz.zeroValue4
 t9:=Tryz.underlying9
 a9:=Tryz.isAgg9
 z9:=Tryz.sizeOf9
 v9:=Tryz.zeroValue9
 t20:=Tryz.underlying20
 a20:=Tryz.isAgg20
 z20:=Tryz.sizeOf20
 v20:=Tryz.zeroValue20
 t31:=Tryz.underlying24
 a31:=Tryz.isAgg24
 z31:=Tryz.sizeOf24
 v31:=Tryz.zeroValue24
 t37:=Tryz.underlying36
 a37:=Tryz.isAgg36
 z37:=Tryz.sizeOf36
 v37:=Tryz.zeroValue36
 t70:=Tryz.underlying35
 a70:=Tryz.isAgg35
 z70:=Tryz.sizeOf35
 v70:=Tryz.zeroValue35
 t72:=Tryz.underlying38
 a72:=Tryz.isAgg38
 z72:=Tryz.sizeOf38
 v72:=Tryz.zeroValue38
 t75:=Tryz.underlying43
 a75:=Tryz.isAgg43
 z75:=Tryz.sizeOf43
 v75:=Tryz.zeroValue43
 t76:=Tryz.underlying44
 a76:=Tryz.isAgg44
 z76:=Tryz.sizeOf44
 v76:=Tryz.zeroValue44
 t127:=Tryz.underlying74
 a127:=Tryz.isAgg74
 z127:=Tryz.sizeOf74
 v127:=Tryz.zeroValue74
 t164:=Tryz.underlying108
 a164:=Tryz.isAgg108
 z164:=Tryz.sizeOf108
 v164:=Tryz.zeroValue108 }
def laysItoa_ren:Go.Shelf.Ren:=⟨fun | 171=>28 | 243=>46 | 246=>77 | 283=>115 | 284=>116 | 285=>117 | 286=>118 | 129=>161 | 317=>160 | 318=>162 | 319=>163 | 320=>164 | 337=>207 | 338=>208 | n=>n,fun | 3=>3 | 9=>9 | 2=>2 | 4=>4 | 171=>157 | 0=>0 | 53=>48 | 37=>36 | 5=>5 | 173=>160 | 212=>196 | 51=>154 | 20=>20 | 213=>197 | 46=>125 | 232=>249 | 233=>250 | n=>n,fun | 17=>3 | 18=>6 | 19=>7 | n=>n⟩
theorem laysItoa:Go.Proofs.LaysM.n171 Tryz.prog laysItoa_ren:={
 mixed:=by kernel_rfl
 f129:=Tryz.func161.trans (congrArg some (by kernel_rfl))
 f171:=Tryz.func28.trans (congrArg some (by kernel_rfl))
 f243:=Tryz.func46.trans (congrArg some (by kernel_rfl))
 f246:=Tryz.func77.trans (congrArg some (by kernel_rfl))
 f283:=Tryz.func115.trans (congrArg some (by kernel_rfl))
 f284:=Tryz.func116.trans (congrArg some (by kernel_rfl))
 f285:=Tryz.func117.trans (congrArg some (by kernel_rfl))
 f286:=Tryz.func118.trans (congrArg some (by kernel_rfl))
 f317:=Tryz.func160.trans (congrArg some (by kernel_rfl))
 f318:=Tryz.func162.trans (congrArg some (by kernel_rfl))
 f319:=Tryz.func163.trans (congrArg some (by kernel_rfl))
 f320:=Tryz.func164.trans (congrArg some (by kernel_rfl))
 f337:=Tryz.func207.trans (congrArg some (by kernel_rfl))
 f338:=Tryz.func208.trans (congrArg some (by kernel_rfl))
 t0:=Tryz.underlying0
 a0:=Tryz.isAgg0
 z0:=Tryz.sizeOf0
 v0:=Tryz.zeroValue0
 t2:=Tryz.underlying2
 a2:=Tryz.isAgg2
 z2:=Tryz.sizeOf2
 v2:=Tryz.zeroValue2
 t3:=Tryz.underlying3
 a3:=Tryz.isAgg3
 z3:=Tryz.sizeOf3
 v3:=Tryz.zeroValue3
 t4:=Tryz.underlying4
 a4:=Tryz.isAgg4
 z4:=Tryz.sizeOf4
 v4:=Tryz.zeroValue4
 t5:=Tryz.underlying5
 a5:=Tryz.isAgg5
 z5:=Tryz.sizeOf5
 v5:=Tryz.zeroValue5
 t9:=Tryz.underlying9
 a9:=Tryz.isAgg9
 z9:=Tryz.sizeOf9
 v9:=Tryz.zeroValue9
 t20:=Tryz.underlying20
 a20:=Tryz.isAgg20
 z20:=Tryz.sizeOf20
 v20:=Tryz.zeroValue20
 t37:=Tryz.underlying36
 a37:=Tryz.isAgg36
 z37:=Tryz.sizeOf36
 v37:=Tryz.zeroValue36
 t46:=Tryz.underlying125
 a46:=Tryz.isAgg125
 z46:=Tryz.sizeOf125
 v46:=Tryz.zeroValue125
 t51:=Tryz.underlying154
 a51:=Tryz.isAgg154
 z51:=Tryz.sizeOf154
 v51:=Tryz.zeroValue154
 t53:=Tryz.underlying48
 a53:=Tryz.isAgg48
 z53:=Tryz.sizeOf48
 v53:=Tryz.zeroValue48
 t171:=Tryz.underlying157
 a171:=Tryz.isAgg157
 z171:=Tryz.sizeOf157
 v171:=Tryz.zeroValue157
 t173:=Tryz.underlying160
 a173:=Tryz.isAgg160
 z173:=Tryz.sizeOf160
 v173:=Tryz.zeroValue160
 t212:=Tryz.underlying196
 a212:=Tryz.isAgg196
 z212:=Tryz.sizeOf196
 v212:=Tryz.zeroValue196
 t213:=Tryz.underlying197
 a213:=Tryz.isAgg197
 z213:=Tryz.sizeOf197
 t232:=Tryz.underlying249
 a232:=Tryz.isAgg249
 z232:=Tryz.sizeOf249
 v232:=Tryz.zeroValue249
 t233:=Tryz.underlying250
 a233:=Tryz.isAgg250
 z233:=Tryz.sizeOf250
 v233:=Tryz.zeroValue250
 g17:=by kernel_rfl
 g18:=by kernel_rfl
 g19:=by kernel_rfl
 i0:=by kernel_rfl
 i2:=by kernel_rfl
 i3:=by kernel_rfl
 i4:=by kernel_rfl
 i5:=by kernel_rfl
 i9:=by kernel_rfl
 i20:=by kernel_rfl
 i37:=by kernel_rfl
 i46:=by kernel_rfl
 i51:=by kernel_rfl
 i53:=by kernel_rfl
 i171:=by kernel_rfl
 i173:=by kernel_rfl
 i212:=by kernel_rfl
 i232:=by kernel_rfl
 i233:=by kernel_rfl
 m17:=by kernel_rfl
 m18:=by kernel_rfl
 m19:=by kernel_rfl }
def laysNum_ren:Go.Shelf.Ren:=⟨fun | 284=>116 | 129=>161 | 317=>160 | 318=>162 | n=>n,fun | 53=>48 | 3=>3 | 212=>196 | 0=>0 | 4=>4 | 46=>125 | 5=>5 | 9=>9 | n=>n,fun | 17=>3 | n=>n⟩
theorem laysNum:Go.Proofs.LaysM.n284 Tryz.prog laysNum_ren:={
 mixed:=by kernel_rfl
 f129:=Tryz.func161.trans (congrArg some (by kernel_rfl))
 f284:=Tryz.func116.trans (congrArg some (by kernel_rfl))
 f317:=Tryz.func160.trans (congrArg some (by kernel_rfl))
 f318:=Tryz.func162.trans (congrArg some (by kernel_rfl))
 t0:=Tryz.underlying0
 a0:=Tryz.isAgg0
 z0:=Tryz.sizeOf0
 v0:=Tryz.zeroValue0
 t3:=Tryz.underlying3
 a3:=Tryz.isAgg3
 z3:=Tryz.sizeOf3
 v3:=Tryz.zeroValue3
 t4:=Tryz.underlying4
 a4:=Tryz.isAgg4
 z4:=Tryz.sizeOf4
 v4:=Tryz.zeroValue4
 t5:=Tryz.underlying5
 a5:=Tryz.isAgg5
 z5:=Tryz.sizeOf5
 v5:=Tryz.zeroValue5
 t9:=Tryz.underlying9
 a9:=Tryz.isAgg9
 z9:=Tryz.sizeOf9
 v9:=Tryz.zeroValue9
 t46:=Tryz.underlying125
 a46:=Tryz.isAgg125
 z46:=Tryz.sizeOf125
 v46:=Tryz.zeroValue125
 t53:=Tryz.underlying48
 a53:=Tryz.isAgg48
 z53:=Tryz.sizeOf48
 v53:=Tryz.zeroValue48
 t212:=Tryz.underlying196
 a212:=Tryz.isAgg196
 z212:=Tryz.sizeOf196
 v212:=Tryz.zeroValue196
 g17:=by kernel_rfl
 i0:=by kernel_rfl
 i3:=by kernel_rfl
 i4:=by kernel_rfl
 i5:=by kernel_rfl
 i9:=by kernel_rfl
 i46:=by kernel_rfl
 i53:=by kernel_rfl
 i212:=by kernel_rfl
 m17:=by kernel_rfl }
def laysBase_ren:Go.Shelf.Ren:=⟨fun | 285=>117 | n=>n,fun | 37=>36 | 53=>48 | 3=>3 | 4=>4 | 51=>154 | 9=>9 | 5=>5 | 0=>0 | n=>n,fun | n=>n⟩
theorem laysBase:Go.Proofs.Lays.n285 Tryz.prog laysBase_ren:={
 mixed:=by kernel_rfl
 f285:=Tryz.func117.trans (congrArg some (by kernel_rfl))
 t0:=Tryz.underlying0
 a0:=Tryz.isAgg0
 z0:=Tryz.sizeOf0
 v0:=Tryz.zeroValue0
 t3:=Tryz.underlying3
 a3:=Tryz.isAgg3
 z3:=Tryz.sizeOf3
 v3:=Tryz.zeroValue3
 t4:=Tryz.underlying4
 a4:=Tryz.isAgg4
 z4:=Tryz.sizeOf4
 v4:=Tryz.zeroValue4
 t5:=Tryz.underlying5
 a5:=Tryz.isAgg5
 z5:=Tryz.sizeOf5
 v5:=Tryz.zeroValue5
 t9:=Tryz.underlying9
 a9:=Tryz.isAgg9
 z9:=Tryz.sizeOf9
 v9:=Tryz.zeroValue9
 t37:=Tryz.underlying36
 a37:=Tryz.isAgg36
 z37:=Tryz.sizeOf36
 v37:=Tryz.zeroValue36
 t51:=Tryz.underlying154
 a51:=Tryz.isAgg154
 z51:=Tryz.sizeOf154
 v51:=Tryz.zeroValue154
 t53:=Tryz.underlying48
 a53:=Tryz.isAgg48
 z53:=Tryz.sizeOf48
 v53:=Tryz.zeroValue48 }
def laysSmall_ren:Go.Shelf.Ren:=⟨fun | 283=>115 | n=>n,fun | 3=>3 | 9=>9 | 4=>4 | n=>n,fun | n=>n⟩
theorem laysSmall:Go.Proofs.Lays.n283 Tryz.prog laysSmall_ren:={
 mixed:=by kernel_rfl
 f283:=Tryz.func115.trans (congrArg some (by kernel_rfl))
 t3:=Tryz.underlying3
 a3:=Tryz.isAgg3
 z3:=Tryz.sizeOf3
 v3:=Tryz.zeroValue3
 t4:=Tryz.underlying4
 a4:=Tryz.isAgg4
 z4:=Tryz.sizeOf4
 v4:=Tryz.zeroValue4
 t9:=Tryz.underlying9
 a9:=Tryz.isAgg9
 z9:=Tryz.sizeOf9
 v9:=Tryz.zeroValue9 }
def laysUint_ren:Go.Shelf.Ren:=⟨fun | 14=>213 | 16=>214 | 17=>129 | 19=>230 | 20=>231 | 21=>176 | 22=>177 | 23=>178 | 24=>179 | 25=>126 | 27=>28 | 26=>215 | 28=>46 | 29=>77 | 30=>115 | 31=>116 | 32=>117 | 33=>118 | 35=>161 | 34=>160 | 36=>162 | 37=>163 | 38=>164 | 39=>207 | 40=>208 | n=>n,fun | 9=>9 | 3=>3 | 22=>48 | 24=>43 | 25=>237 | 4=>4 | 34=>208 | 5=>5 | 36=>125 | 37=>36 | 0=>0 | 39=>211 | 21=>21 | 44=>240 | 47=>74 | 50=>256 | 48=>254 | 2=>2 | 52=>157 | 55=>160 | 59=>196 | 60=>154 | 20=>20 | 61=>197 | 65=>249 | 66=>250 | 67=>46 | n=>n,fun | 0=>4 | 1=>5 | 2=>3 | 3=>6 | 4=>7 | n=>n⟩
theorem laysUint:Go.Proofs.LaysPu.n14 Tryz.prog laysUint_ren:={
 mixed:=by kernel_rfl
 f14:=Tryz.func213.trans (congrArg some (by kernel_rfl))
 f16:=Tryz.func214.trans (congrArg some (by kernel_rfl))
 f17:=Tryz.func129.trans (congrArg some (by kernel_rfl))
 f19:=Tryz.func230.trans (congrArg some (by kernel_rfl))
 f20:=Tryz.func231.trans (congrArg some (by kernel_rfl))
 f21:=Tryz.func176.trans (congrArg some (by kernel_rfl))
 f22:=Tryz.func177.trans (congrArg some (by kernel_rfl))
 f23:=Tryz.func178.trans (congrArg some (by kernel_rfl))
 f24:=Tryz.func179.trans (congrArg some (by kernel_rfl))
 f25:=Tryz.func126.trans (congrArg some (by kernel_rfl))
 f26:=Tryz.func215.trans (congrArg some (by kernel_rfl))
 f27:=Tryz.func28.trans (congrArg some (by kernel_rfl))
 f28:=Tryz.func46.trans (congrArg some (by kernel_rfl))
 f29:=Tryz.func77.trans (congrArg some (by kernel_rfl))
 f30:=Tryz.func115.trans (congrArg some (by kernel_rfl))
 f31:=Tryz.func116.trans (congrArg some (by kernel_rfl))
 f32:=Tryz.func117.trans (congrArg some (by kernel_rfl))
 f33:=Tryz.func118.trans (congrArg some (by kernel_rfl))
 f34:=Tryz.func160.trans (congrArg some (by kernel_rfl))
 f35:=Tryz.func161.trans (congrArg some (by kernel_rfl))
 f36:=Tryz.func162.trans (congrArg some (by kernel_rfl))
 f37:=Tryz.func163.trans (congrArg some (by kernel_rfl))
 f38:=Tryz.func164.trans (congrArg some (by kernel_rfl))
 f39:=Tryz.func207.trans (congrArg some (by kernel_rfl))
 f40:=Tryz.func208.trans (congrArg some (by kernel_rfl))
 t0:=Tryz.underlying0
 a0:=Tryz.isAgg0
 z0:=Tryz.sizeOf0
 v0:=Tryz.zeroValue0
 i0:=by kernel_rfl
 t2:=Tryz.underlying2
 a2:=Tryz.isAgg2
 z2:=Tryz.sizeOf2
 v2:=Tryz.zeroValue2
 i2:=by kernel_rfl
 t3:=Tryz.underlying3
 a3:=Tryz.isAgg3
 z3:=Tryz.sizeOf3
 v3:=Tryz.zeroValue3
 i3:=by kernel_rfl
 t4:=Tryz.underlying4
 a4:=Tryz.isAgg4
 z4:=Tryz.sizeOf4
 v4:=Tryz.zeroValue4
 i4:=by kernel_rfl
 t5:=Tryz.underlying5
 a5:=Tryz.isAgg5
 z5:=Tryz.sizeOf5
 v5:=Tryz.zeroValue5
 i5:=by kernel_rfl
 t9:=Tryz.underlying9
 a9:=Tryz.isAgg9
 z9:=Tryz.sizeOf9
 v9:=Tryz.zeroValue9
 i9:=by kernel_rfl
 t20:=Tryz.underlying20
 a20:=Tryz.isAgg20
 z20:=Tryz.sizeOf20
 v20:=Tryz.zeroValue20
 i20:=by kernel_rfl
 t21:=Tryz.underlying21
 a21:=Tryz.isAgg21
 z21:=Tryz.sizeOf21
 v21:=Tryz.zeroValue21
 i21:=by kernel_rfl
 t22:=Tryz.underlying48
 a22:=Tryz.isAgg48
 z22:=Tryz.sizeOf48
 v22:=Tryz.zeroValue48
 i22:=by kernel_rfl
 t24:=Tryz.underlying43
 a24:=Tryz.isAgg43
 z24:=Tryz.sizeOf43
 v24:=Tryz.zeroValue43
 i24:=by kernel_rfl
 t25:=Tryz.underlying237
 a25:=Tryz.isAgg237
 z25:=Tryz.sizeOf237
 v25:=Tryz.zeroValue237
 i25:=by kernel_rfl
 t34:=Tryz.underlying208
 a34:=Tryz.isAgg208
 z34:=Tryz.sizeOf208
 v34:=Tryz.zeroValue208
 i34:=by kernel_rfl
 c34:=by kernel_rfl
 t36:=Tryz.underlying125
 a36:=Tryz.isAgg125
 z36:=Tryz.sizeOf125
 v36:=Tryz.zeroValue125
 i36:=by kernel_rfl
 t37:=Tryz.underlying36
 a37:=Tryz.isAgg36
 z37:=Tryz.sizeOf36
 v37:=Tryz.zeroValue36
 i37:=by kernel_rfl
 t39:=Tryz.underlying211
 a39:=Tryz.isAgg211
 z39:=Tryz.sizeOf211
 v39:=Tryz.zeroValue211
 i39:=by kernel_rfl
 t44:=Tryz.underlying240
 a44:=Tryz.isAgg240
 z44:=Tryz.sizeOf240
 v44:=Tryz.zeroValue240
 i44:=by kernel_rfl
 t47:=Tryz.underlying74
 a47:=Tryz.isAgg74
 z47:=Tryz.sizeOf74
 v47:=Tryz.zeroValue74
 i47:=by kernel_rfl
 t48:=Tryz.underlying254
 a48:=Tryz.isAgg254
 z48:=Tryz.sizeOf254
 v48:=Tryz.zeroValue254
 i48:=by kernel_rfl
 t50:=Tryz.underlying256
 a50:=Tryz.isAgg256
 z50:=Tryz.sizeOf256
 v50:=Tryz.zeroValue256
 i50:=by kernel_rfl
 t52:=Tryz.underlying157
 a52:=Tryz.isAgg157
 z52:=Tryz.sizeOf157
 v52:=Tryz.zeroValue157
 i52:=by kernel_rfl
 t55:=Tryz.underlying160
 a55:=Tryz.isAgg160
 z55:=Tryz.sizeOf160
 v55:=Tryz.zeroValue160
 i55:=by kernel_rfl
 t59:=Tryz.underlying196
 a59:=Tryz.isAgg196
 z59:=Tryz.sizeOf196
 v59:=Tryz.zeroValue196
 i59:=by kernel_rfl
 t60:=Tryz.underlying154
 a60:=Tryz.isAgg154
 z60:=Tryz.sizeOf154
 v60:=Tryz.zeroValue154
 i60:=by kernel_rfl
 t61:=Tryz.underlying197
 a61:=Tryz.isAgg197
 z61:=Tryz.sizeOf197
 t65:=Tryz.underlying249
 a65:=Tryz.isAgg249
 z65:=Tryz.sizeOf249
 v65:=Tryz.zeroValue249
 i65:=by kernel_rfl
 t66:=Tryz.underlying250
 a66:=Tryz.isAgg250
 z66:=Tryz.sizeOf250
 v66:=Tryz.zeroValue250
 i66:=by kernel_rfl
 t67:=Tryz.underlying46
 a67:=Tryz.isAgg46
 z67:=Tryz.sizeOf46
 v67:=Tryz.zeroValue46
 i67:=by kernel_rfl
 g0:=by kernel_rfl
 m0:=by kernel_rfl
 g1:=by kernel_rfl
 m1:=by kernel_rfl
 g2:=by kernel_rfl
 m2:=by kernel_rfl
 g3:=by kernel_rfl
 m3:=by kernel_rfl
 g4:=by kernel_rfl
 m4:=by kernel_rfl }
end
def dg (z:Int):List UInt8:=Lib.decDigits z.toNat
theorem Zbj {u:Nat} (h:u < 10):(UInt8.ofNat (48+u)).toNat=48+u:=by
 rw [UInt8.toNat_ofNat']; exact Nat.mod_eq_of_lt (by omega)
theorem Zcu (u:Nat):∀ c ∈ Lib.decDigits u,48<=c.toNat/\c.toNat<=57:=by
 induction u using Nat.strongRecOn with
 | _ u ih =>
   intro c hc
   rw [Lib.decDigits] at hc
   split at hc
   ·rename_i h
    rw [List.mem_singleton] at hc
    rw [hc,Zbj h]; omega
   ·rcases List.mem_append.1 hc with h | h
    ·exact ih (u / 10) (by omega) c h
    ·rw [List.mem_singleton] at h
     rw [h,Zbj (by omega)]; omega
theorem dec_ne (u:Nat):Lib.decDigits u ≠ []:=by
 intro h
 have:=congrArg List.length h
 rw [Lib.decDigits_length] at this
 have:=Lib.nDigits_pos u
 simp at *
 omega
theorem dec_parse (u:Nat) (r:List UInt8) (h:u < 18446744073709551616):Lib.parseUint10 0 (Lib.decDigits u ++ r)=Lib.parseUint10 u r:=by
 induction u using Nat.strongRecOn generalizing r with
 | _ u ih =>
   rw [Lib.decDigits]
   split
   ·rename_i h1
    rw [List.singleton_append,Lib.parseUint10,Zbj h1,if_pos (by omega),if_neg (by omega),if_neg (by omega)]
    congr 1; omega
   ·rw [List.append_assoc,ih (u / 10) (by omega) _ (by omega),List.singleton_append,Lib.parseUint10,Zbj (by omega),if_pos (by omega),if_neg (by omega),if_neg (by omega)]
    congr 1; omega
theorem ZcL (u:Nat) (h:u < 18446744073709551616):Lib.parseUintB 64 (Lib.decDigits u)=.ok u:=by
 rw [Lib.parseUintB_64,Lib.parseMag,if_neg (dec_ne u)]
 have:=dec_parse u [] h
 rw [List.append_nil] at this
 rw [this]; rfl
theorem dec_inj {u v:Nat} (hu:u < 18446744073709551616) (hv:v < 18446744073709551616) (h:Lib.decDigits u=Lib.decDigits v):u=v:=by
 have a:=ZcL u hu
 rw [h,ZcL v hv] at a
 injection a with a
 exact a.symm
theorem dec_short {u k:Nat} (hk:1<=k) (h:u < 10 ^ k):(Lib.decDigits u).length<=k:=by
 rw [Lib.decDigits_length]
 induction k generalizing u with
 | zero=>omega
 | succ k ih =>
   by_cases h1:u < 10
   ·rw [Lib.nDigits_small h1]; omega
   ·rw [Lib.nDigits_big h1]
    by_cases hk0:k=0
    ·subst hk0; simp at h; omega
    ·have:=@ih (u / 10) (by omega) (by rw [Nat.pow_succ] at h; omega)
     omega
theorem itoa_dg {z:Int} (h:0<=z):Lib.itoa z=dg z:=by rw [Lib.itoa,if_neg (by omega)]; rfl
def glue (b:UInt8) (ws:List (List UInt8)) (p:List UInt8):List UInt8:=(ws.map (· ++ [b])).flatten ++ p
def psStep (b:UInt8) (x:List (List UInt8) × List UInt8) (c:UInt8):List (List UInt8) × List UInt8:=if c=b then (x.1 ++ [x.2],[]) else (x.1,x.2 ++ [c])
def ps (b:UInt8) (l:List UInt8):List (List UInt8) × List UInt8:=l.foldl (psStep b) ([],[])
theorem ps_snoc (b:UInt8) (l:List UInt8) (c:UInt8):ps b (l ++ [c])=psStep b (ps b l) c:=by simp [ps]
theorem glue_snoc (b:UInt8) (ws:List (List UInt8)) (p:List UInt8):glue b (ws ++ [p]) []=glue b ws p ++ [b]:=by simp [glue]
theorem ps_glue (b:UInt8) (l:List UInt8):glue b (ps b l).1 (ps b l).2=l:=by
 suffices h:∀ k,k<=l.length->glue b (ps b (l.take k)).1 (ps b (l.take k)).2=l.take k by
  have:=h l.length nr; rwa [List.take_length] at this
 intro k
 induction k with
 | zero=>intro _; simp [ps,glue]
 | succ k ih =>
   intro hk
   rw [List.take_add_one,List.getElem?_eq_getElem (by omega),Option.toList_some,ps_snoc,psStep]
   split
   ·rename_i h
    rw [glue_snoc,ih (by omega),h]
   ·rw [show glue b (ps b (List.take k l)).1 ((ps b (List.take k l)).2 ++ [l[k]])=glue b (ps b (List.take k l)).1 (ps b (List.take k l)).2 ++ [l[k]] by simp [glue],ih (by omega)]
theorem fold_in (b:UInt8):∀ (p:List UInt8) (x:List (List UInt8) × List UInt8),b ∉ p->p.foldl (psStep b) x=(x.1,x.2 ++ p)
 | [],x,_=>by simp
 | c :: p, x, h => by
   have hc:¬ c=b:=fun e=>h (by simp [e])
   rw [List.foldl_cons,psStep,if_neg hc,fold_in b p _ (fun e=>h (List.mem_cons_of_mem _ e))]
   simp
theorem fold_glue (b:UInt8):∀ (ws:List (List UInt8)) (p:List UInt8) (xs:List (List UInt8)),(∀ w ∈ ws,b ∉ w)->b ∉ p->(glue b ws p).foldl (psStep b) (xs,[])=(xs ++ ws,p)
 | [],p,xs,_,hp=>by simp [glue,fold_in b p _ hp]
 | w :: ws, p, xs, hw, hp => by
   have e:glue b (w :: ws) p=w ++ (b :: glue b ws p):=by simp [glue]
   rw [e,List.foldl_append,fold_in b w _ (hw w (by simp)),List.foldl_cons,psStep,if_pos rfl]
   simp only [List.nil_append]
   rw [fold_glue b ws p _ (fun x hx=>hw x (List.mem_cons_of_mem _ hx)) hp]
   simp
theorem ps_of_glue (b:UInt8) (ws:List (List UInt8)) (p:List UInt8) (hw:∀ w ∈ ws,b ∉ w) (hp:b ∉ p):ps b (glue b ws p)=(ws,p):=by
 rw [ps,fold_glue b ws p [] hw hp]; simp
theorem ps_in (b:UInt8) (l:List UInt8):(∀ w ∈ (ps b l).1,b ∉ w)/\b ∉ (ps b l).2:=by
 suffices h:∀ k,k<=l.length->(∀ w ∈ (ps b (l.take k)).1,b ∉ w)/\b ∉ (ps b (l.take k)).2 by
  have:=h l.length nr; rwa [List.take_length] at this
 intro k
 induction k with
 | zero=>intro _; simp [ps]
 | succ k ih =>
   intro hk
   obtain ⟨h1,h2⟩:=ih (by omega)
   rw [List.take_add_one,List.getElem?_eq_getElem (by omega),Option.toList_some,ps_snoc,psStep]
   split
   ·refine ⟨fun w hw=>?_,by simp⟩
    rcases List.mem_append.1 hw with h | h
    ·exact h1 w h
    ·rw [List.mem_singleton] at h; rw [h]; exact h2
   ·rename_i hne
    refine ⟨h1,fun hm=>?_⟩
    rcases List.mem_append.1 hm with h | h
    ·exact h2 h
    ·rw [List.mem_singleton] at h; exact hne h.symm
def wordsOf (b:UInt8) (l:List UInt8):List (List UInt8):=(ps b l).1 ++ [(ps b l).2]
theorem Zcv (b:UInt8):∀ (ws:List (List UInt8)) (p:List UInt8),Lib.join (ws ++ [p]) [b]=glue b ws p
 | [],p=>by simp [Lib.join_one,glue]
 | [w],p=>by simp [Lib.join,List.intercalate,List.intersperse,glue]
 | w :: x :: ws, p => by
   have h:=Zcv b (x :: ws) p
   rw [Lib.join,List.intercalate] at *
   simp only [List.cons_append,List.intersperse_cons_cons,List.flatten_cons] at *
   rw [h]; simp [glue]
theorem join_wordsOf (b:UInt8) (l:List UInt8):Lib.join (wordsOf b l) [b]=l:=by rw [wordsOf,Zcv,ps_glue]
theorem wordsOf_join (b:UInt8) (ws:List (List UInt8)) (hne:ws ≠ []) (hw:∀ w ∈ ws,b ∉ w):wordsOf b (Lib.join ws [b])=ws:=by
 have e:=List.dropLast_concat_getLast hne
 rw [← e,Zcv,wordsOf,ps_of_glue b _ _ (fun w h=>hw w (List.dropLast_subset _ h)) (hw _ (List.getLast_mem hne))]
theorem index_at (b:UInt8):∀ (w r:List UInt8),b ∉ w->Lib.index (w ++ b :: r) [b]=w.length
 | [],r,_=>by simp [Lib.index,List.isPrefixOf]
 | c :: w, r, h => by
   have hc:¬ b=c:=fun e=>h (by simp [e])
   have ih:=index_at b w r (fun e=>h (List.mem_cons_of_mem _ e))
   rw [List.cons_append,Lib.index,ih]
   simp [List.isPrefixOf,hc]
theorem index_not (b:UInt8):∀ (w:List UInt8),b ∉ w->Lib.index w [b]=-1
 | [],_=>by simp [Lib.index]
 | c :: w, h => by
   have hc:¬ b=c:=fun e=>h (by simp [e])
   rw [Lib.index,index_not b w (fun e=>h (List.mem_cons_of_mem _ e))]
   simp [List.isPrefixOf,hc]
theorem cut_at (b:UInt8) (w r:List UInt8) (h:b ∉ w):Lib.cut (w ++ b :: r) [b]=(w,r,true):=by
 rw [Lib.cut,index_at b w r h,if_pos (by omega)]
 simp
theorem cut_not (b:UInt8) (w:List UInt8) (h:b ∉ w):Lib.cut w [b]=(w,[],false):=by
 rw [Lib.cut,index_not b w h,if_neg (by omega)]
theorem first_at {b:UInt8} {s:List UInt8} (h:b ∈ s):∃ w r,s=w ++ b :: r/\b ∉ w:=by
 induction s with
 | nil=>simp at h
 | cons c s ih =>
   by_cases hc:c=b
   ·exact ⟨[],s,by simp [hc],by simp⟩
   ·obtain ⟨w,r,e,hw⟩:=ih ((List.mem_cons.1 h).resolve_left fun e=>hc e.symm)
    refine ⟨c :: w,r,by simp [e],fun hm=>?_⟩
    rcases List.mem_cons.1 hm with h | h
    ·exact hc h.symm
    ·exact hw h
theorem split_glue (b:UInt8):∀ (ws:List (List UInt8)) (p:List UInt8),(∀ w ∈ ws,b ∉ w)->b ∉ p->Lib.splitK [b] 0 (Lib.count (glue b ws p) [b]) (glue b ws p)=ws ++ [p]
 | [], p, _, hp => by
   rw [Lib.count_one,show glue b [] p=p by simp [glue],List.count_eq_zero_of_not_mem hp]
   rfl
 | w :: ws, p, hw, hp => by
   have e:glue b (w :: ws) p=w ++ (b :: glue b ws p):=by simp [glue]
   have ih:=split_glue b ws p (fun x hx=>hw x (List.mem_cons_of_mem _ hx)) hp
   rw [Lib.count_one] at *
   have hc:List.count b (glue b (w :: ws) p)=List.count b (glue b ws p)+1:=by
    rw [e,List.count_append,List.count_eq_zero_of_not_mem (hw w (by simp))]; simp
   rw [hc,Lib.splitK,e,index_at b w _ (hw w (by simp)),if_neg (by simp)]
   simp only [Int.toNat_natCast,Nat.add_zero,List.length_singleton,List.take_left',List.cons_append]
   rw [show List.drop (w.length+1) (w ++ b :: glue b ws p)=glue b ws p by simp [List.drop_append],ih]
theorem split_words (b:UInt8) (l:List UInt8):Lib.splitK [b] 0 (Lib.count l [b]) l=wordsOf b l:=by
 have h:=split_glue b (ps b l).1 (ps b l).2 (ps_in b l).1 (ps_in b l).2
 rw [ps_glue] at h
 exact h
structure Ln where
 s:Int
 r:Int
 root:Int
 chain:Int
 b:List Int
structure Ln.ok (l:Ln):Prop where
 s:0<=l.s/\l.s<=99
 r:0<=l.r/\l.r<=2147483647
 root:0<=l.root/\l.root < 2305843009213693951
 chain:0<=l.chain/\l.chain < 2305843009213693951
 n:l.b.length<=8
 b:∀ z ∈ l.b,0<=z/\z<=99
def Ln.nums (l:Ln):List Int:=[l.s,l.r,l.root,l.chain] ++ l.b
def Ln.words (l:Ln):List (List UInt8):=l.nums.map dg
def Ln.line (l:Ln):List UInt8:=Lib.join l.words [32]
def Ln.text (l:Ln):List UInt8:=l.line ++ [10]
theorem dg_in (z:Int):(32:UInt8) ∉ dg z/\(10:UInt8) ∉ dg z:=by
 constructor <;> intro h <;> have:=Zcu _ _ h <;> revert this <;> decide
theorem Ln.words_ne (l:Ln):l.words ≠ []:=by simp [Ln.words,Ln.nums]
theorem Ln.words_len (l:Ln):l.words.length=l.b.length+4:=by simp [Ln.words,Ln.nums]
theorem Ln.wordsOf (l:Ln):Fx.wordsOf 32 l.line=l.words :=
 wordsOf_join 32 _ l.words_ne (fun w h=>by
  obtain ⟨z,_,rfl⟩:=List.mem_map.1 h
  exact (dg_in z).1)
theorem join_not (b c:UInt8) (hbc:c ≠ b) (ws:List (List UInt8)) (h:∀ w ∈ ws,c ∉ w):c ∉ Lib.join ws [b]:=by
 intro hm
 rw [Lib.join,List.intercalate] at hm
 obtain ⟨x,hx,hc⟩:=List.mem_flatten.1 hm
 induction ws with
 | nil=>simp at hx
 | cons w ws ih =>
   cases ws with
   | nil=>simp at hx; subst hx; exact h _ (by simp) hc
   | cons y ys =>
     rw [List.intersperse_cons_cons] at hx
     rcases List.mem_cons.1 hx with e | hx
     ·subst e; exact h _ (by simp) hc
     ·rcases List.mem_cons.1 hx with e | hx
      ·subst e; rw [List.mem_singleton] at hc; exact hbc hc
      ·refine ih (fun w hw=>h w (List.mem_cons_of_mem _ hw)) ?_ hx
       exact List.mem_flatten.2 ⟨x,hx,hc⟩
theorem Ln.line_not (l:Ln):(10:UInt8) ∉ l.line :=
 join_not 32 10 (by decide) _ (fun w h=>by
  obtain ⟨z,_,rfl⟩:=List.mem_map.1 h
  exact (dg_in z).2)
theorem Ln.ok.nums {l:Ln} (h:l.ok):∀ z ∈ l.nums,0<=z/\z < 2305843009213693951:=by
 intro z hz
 simp only [Ln.nums,List.cons_append,List.nil_append,List.mem_cons] at hz
 have:=h.s; have:=h.r; have:=h.root; have:=h.chain
 rcases hz with rfl | rfl | rfl | rfl | hz
 ·omega
 ·omega
 ·omega
 ·omega
 ·have:=h.b z hz; omega
theorem dg_inj {y z:Int} (hy:0<=y/\y < 2305843009213693951) (hz:0<=z/\z < 2305843009213693951) (h:dg y=dg z):y=z:=by
 have:=dec_inj (by omega) (by omega) h
 omega
theorem map_dg_inj:∀ {xs ys:List Int},(∀ z ∈ xs,0<=z/\z < 2305843009213693951)->(∀ z ∈ ys,0<=z/\z < 2305843009213693951)->xs.map dg=ys.map dg->xs=ys
 | [],[],_,_,_=>rfl
 | [],_ :: _,_,_,h=>by simp at h
 | _ :: _,[],_,_,h=>by simp at h
 | x :: xs, y :: ys, hx, hy, h => by
   simp only [List.map_cons,List.cons.injEq] at h
   rw [dg_inj (hx x (by simp)) (hy y (by simp)) h.1,map_dg_inj (fun z hz=>hx z (List.mem_cons_of_mem _ hz)) (fun z hz=>hy z (List.mem_cons_of_mem _ hz)) h.2]
theorem Ln.nums_inj {l m:Ln} (h:l.nums=m.nums):l=m:=by
 cases l; cases m
 simp only [Ln.nums,List.cons_append,List.nil_append,List.cons.injEq] at h
 obtain ⟨rfl,rfl,rfl,rfl,rfl⟩:=h
 rfl
def IsLine (s:List UInt8) (l:Ln):Prop:=l.ok/\l.text <+: s
theorem first_eq {b:UInt8} {s w v:List UInt8} (hw:b ∉ w) (hv:b ∉ v) (h1:w ++ [b] <+: s) (h2:v ++ [b] <+: s):w=v:=by
 obtain ⟨r,rfl⟩:=h1
 obtain ⟨t,e⟩:=h2
 have a:=index_at b w r hw
 have c:=index_at b v t hv
 rw [List.append_assoc,List.singleton_append] at e
 rw [List.append_assoc,List.singleton_append] at e
 rw [e,a] at c
 have hl:w.length=v.length:=by omega
 exact ((List.append_inj e hl.symm).1).symm
theorem line_unique {s w:List UInt8} {l:Ln} (h:IsLine s l) (hw:(10:UInt8) ∉ w) (h1:w ++ [10] <+: s):l.line=w:=first_eq l.line_not hw h.2 h1
theorem IsLine.unique {s:List UInt8} {l m:Ln} (h:IsLine s l) (k:IsLine s m):l=m:=by
 have e:l.line=m.line:=first_eq l.line_not m.line_not h.2 k.2
 have e2:l.words=m.words:=by rw [← l.wordsOf,← m.wordsOf,e]
 exact Ln.nums_inj (map_dg_inj h.1.nums k.1.nums e2)
theorem Zbf {z:Int} {k:Nat} (hk:1<=k) (h0:0<=z) (h:z < (10 ^ k:Nat)):(dg z).length<=k:=dec_short hk (by omega)
theorem lens_small:∀ (b:List Int),(∀ z ∈ b,0<=z/\z<=99)->Lib.lens (b.map dg)<=2 * b.length
 | [],_=>by simp [Lib.lens]
 | z :: b, h => by
   have:=lens_small b (fun x hx=>h x (List.mem_cons_of_mem _ hx))
   have h2:=Zbf (z:=z) (k:=2) (by omega) (h z (by simp)).1 (by have:=(h z (by simp)).2; omega)
   simp only [List.map_cons,List.length_cons]
   rw [show Lib.lens (dg z :: b.map dg)=(dg z).length+Lib.lens (b.map dg) by simp [Lib.lens]]
   omega
theorem Ln.ok.short {l:Ln} (h:l.ok):l.text.length<=78:=by
 have h1:=Zbf (z:=l.s) (k:=2) (by omega) h.s.1 (by have:=h.s.2; omega)
 have h2:=Zbf (z:=l.r) (k:=10) (by omega) h.r.1 (by have:=h.r.2; omega)
 have h3:=Zbf (z:=l.root) (k:=19) (by omega) h.root.1 (by have:=h.root.2; omega)
 have h4:=Zbf (z:=l.chain) (k:=19) (by omega) h.chain.1 (by have:=h.chain.2; omega)
 have h5:=lens_small l.b h.b
 have:=h.n
 have e:l.line.length=1 * (l.b.length+3)+((dg l.s).length+((dg l.r).length+((dg l.root).length+((dg l.chain).length+Lib.lens (l.b.map dg))))):=by
  rw [Ln.line,Ln.words,Ln.nums]
  simp only [List.cons_append,List.nil_append,List.map_cons]
  rw [Lib.join_length]
  simp [Lib.lens]
 rw [Ln.text,List.length_append,e]
 simp
 omega
theorem IsLine.take {s:List UInt8} {l:Ln} (h:IsLine s l) {k:Nat} (hk:78<=k):l.text <+: s.take k :=
 List.prefix_take_iff.2 ⟨h.2,Nat.le_trans h.1.short hk⟩
theorem text_ne (l:Ln):1<=l.text.length:=by simp [Ln.text]
structure LD (w:World):Prop where
 pow : Lib.TabIs Tryz.prog w "internal/strconv.uint64pow10" .u64 Lib.pow10Tab
 syn : ∃ tp p, w.var? Tryz.prog "strconv.ErrSyntax" = some #[.iface tp p]
 rng : ∃ tp p, w.var? Tryz.prog "strconv.ErrRange" = some #[.iface tp p]
 mx:∃ m,w.cell? ⟨0,0,none⟩=some (.int .i64 m)
theorem gPow : Tryz.prog.globalNamed "internal/strconv.uint64pow10" = some 3 := by kernel_rfl
theorem gSyn : Tryz.prog.globalNamed "strconv.ErrSyntax" = some 4 := by kernel_rfl
theorem gRng : Tryz.prog.globalNamed "strconv.ErrRange" = some 5 := by kernel_rfl
theorem LD.below {w w':World} {B:Nat} (h:LD w) (hb:Below B w w') (hB:w.heap.size<=B):LD w':=by
 obtain ⟨h1,⟨t1,p1,h2⟩,⟨t2,p2,h3⟩,m,h4⟩:=h
 exact ⟨Joins.var_stays gPow h1 hb hB,⟨t1,p1,Joins.var_stays gSyn h2 hb hB⟩,⟨t2,p2,Joins.var_stays gRng h3 hb hB⟩,m,(hb.cell (p:=⟨0,0,none⟩) (Nat.lt_of_lt_of_le (Zas h4) hB)).trans h4⟩
def LstS (w:World) (a:Option Addr) (len cap:Nat) (ws:List (List UInt8)):Prop :=
 ws.length=len/\len<=cap/\(len=0\/∃ b off,a=some ⟨b,off,none⟩/\b < w.heap.size/\∀ i,i < len->w.cell? ⟨b,off+i,none⟩=some (.string ⟨(ws.getD i []).toArray⟩))
theorem LstS.len {w:World} {a:Option Addr} {n c:Nat} {ws:List (List UInt8)} (h:LstS w a n c ws):ws.length=n:=h.1
theorem LstS.cap {w:World} {a:Option Addr} {n c:Nat} {ws:List (List UInt8)} (h:LstS w a n c ws):n<=c:=h.2.1
theorem LstS.at {w:World} {a:Option Addr} {n c:Nat} {ws:List (List UInt8)} (h:LstS w a n c ws) (hn:0 < n) :
  ∃ b off,a=some ⟨b,off,none⟩/\b < w.heap.size/\∀ i,i < n->w.cell? ⟨b,off+i,none⟩=some (.string ⟨(ws.getD i []).toArray⟩):=by
 rcases h.2.2 with h0 | h0
 ·omega
 ·exact h0
theorem LstS.below {w w':World} {a:Option Addr} {n c:Nat} {ws:List (List UInt8)} {B:Nat} (h:LstS w a n c ws) (hb:Below B w w') (hB:w.heap.size<=B):LstS w' a n c ws:=by
 refine ⟨h.1,h.2.1,?_⟩
 rcases h.2.2 with h0 | ⟨b,off,e,hs,hc⟩
 ·exact .inl h0
 ·exact .inr ⟨b,off,e,Nat.lt_of_lt_of_le hs hb.size,fun i hi=>(hb.cell (p:=⟨b,off+i,none⟩) (Nat.lt_of_lt_of_le hs hB)).trans (hc i hi)⟩
theorem LstS.at1b {w wr:World} {a:Option Addr} {n c:Nat} {ws:List (List UInt8)} {B:Nat} (h:LstS w a n c ws) (hb:Below B w wr) (hB:w.heap.size<=B) {k:Nat} (hk:k < n) :
  ∃ b off,a=some ⟨b,off,none⟩/\b < w.heap.size/\wr.cell? ⟨b,off+k,none⟩=some (.string ⟨(ws.getD k []).toArray⟩):=by
 obtain ⟨b,off,e,hs,hc⟩:=h.at (by omega)
 exact ⟨b,off,e,hs,(hb.cell (p:=⟨b,off+k,none⟩) (Nat.lt_of_lt_of_le hs hB)).trans (hc k hk)⟩
theorem Zbz (z:Int) (h0:0<=z) (h1:z<=9223372036854775807) (w:World) (hL:LD w) :
  Calls Tryz.prog 28 #[.int .i64 z] w fun e w'=>e=.returned (.string ⟨(dg z).toArray⟩)/\Below w.heap.size w w':=by
 have h:=Any.strconv_Itoa laysItoa z (by omega) h1 w hL.pow
 rw [itoa_dg h0] at h
 refine Calls.mono (show Calls Tryz.prog 28 _ _ _ from h) ?_
 rintro e w' ⟨rfl,k,os,rfl⟩
 exact ⟨rfl,Lib.below_grow _ _ nr _ _⟩
theorem small_calls1 (i:Nat) (h:i < 100) (w:World):Calls Tryz.prog 115 #[.int .i64 i] w fun e w'=>e=.returned (.string ⟨(Lib.decDigits i).toArray⟩)/\w'=w :=
 show Calls Tryz.prog 115 _ _ _ from Any.internal_strconv_small laysSmall i h w
theorem numDigits_calls (u : Nat) (h1 : 1 <= u) (h2 : u < 18446744073709551616) (w : World) (htab : Lib.TabIs Tryz.prog w "internal/strconv.uint64pow10" .u64 Lib.pow10Tab) : Calls Tryz.prog 116 #[.int .u64 u] w fun e w' => e = .returned (.int .i64 (Lib.nDigits u)) /\ w' = w :=
 show Calls Tryz.prog 116 _ _ _ from Any.internal_strconv_numDigits laysNum u h1 h2 w htab
theorem holds_zero0 (w:World) (T:TypeId) (nd:Nat) (hs:nd<=24):Sort.Holds (fun (b:UInt8)=>Value.int .u8 (b.toNat:Int)) (w.alloc (.cells Lib.zeros24 T)) w.heap.size 0 (Array.replicate nd (0:UInt8)):=fun j hj=>by
 have hj':j < nd:=by simpa using hj
 refine ⟨?_,World.frozen?_alloc_new _ _ _ _⟩
 rw [World.cell?_alloc_new,Lib.zeros24_at _ (by omega),getElem!_pos _ j hj]
 simp
theorem fin_pos0 (w:World) (o:Obj) (dk:Array UInt8) (k:Nat):∃ os,(Sort.putRow (fun (b:UInt8)=>Value.int .u8 (b.toNat:Int)) (w.alloc o) w.heap.size 0 dk).drewN k=Sort.grow (w.drewN k) os:=by
 rw [Sort.alloc_eq_grow]
 obtain ⟨os',_,e⟩:=Sort.putRow_grow_new (fun (b:UInt8)=>Value.int .u8 (b.toNat:Int)) w #[o] w.heap.size 0 dk nr
 exact ⟨os',by rw [e]; rfl⟩
theorem ifmtu_calls (u:Nat) (hu64:u < 18446744073709551616) (w:World) (hL:LD w) :
  Calls Tryz.prog 144 #[.int .u64 u,.int .i64 10] w fun e w'=>e=.returned (.string ⟨(Lib.decDigits u).toArray⟩)/\Below w.heap.size w w':=by
 by_cases hs:u < 100
 ·go_enter Tryz.func144,Tryz.ntmps144
  go_wp2_with (go_at_call 115; refine (small_calls1 u hs _).mono ?_; rintro e w' ⟨rfl,hw'⟩; replace hw':=hw'.symm; subst hw')
  go_ret
  exact ⟨rfl,br⟩
 ·have hu1:1<=u:=by omega
  have hnd20:Lib.nDigits u<=20:=Lib.nDigits_le20 u hu64
  have hal:Tryz.prog.arrayLen 157=24:=by simp [Program.arrayLen,Tryz.underlying157]
  have hsl1:∀ W,(Instr.sliceAt 157 (.pointer (some ⟨w.heap.size,0,none⟩)) none (some (.int .i64 (Lib.nDigits u:Int))) none).run Tryz.prog W=.ok (.slice (some ⟨w.heap.size,0,none⟩) (Lib.nDigits u) 24) W:=fun W=>by
   rw [run_sliceAt_array_h W 157 ⟨w.heap.size,0,none⟩ (by simp [Program.arrayLen,Program.elem,Tryz.underlying157]) .i64 (Lib.nDigits u:Int) (by omega) (by rw [hal]; omega)]
   go_simp
   try omega
  have hH0:=holds_zero0 w 157 (Lib.nDigits u) (by omega)
  have hfmt:Calls Tryz.prog 117 _ _ _:=Any.internal_strconv_formatBase10 laysBase w.heap.size 0 24 u (Array.replicate (Lib.nDigits u) 0) (w.alloc (.cells Lib.zeros24 157)) hH0 (by rw [Array.size_replicate]; exact Lib.lt_pow_nDigits u) hu64 (by rw [Array.size_replicate]; omega)
  rw [Array.size_replicate] at hfmt
  have HH0:=Lib.hid hH0
  have htab:=hL.pow
  clear hH0 hal hL
  go_enter Tryz.func144,Tryz.ntmps144
  go_wp2_with (first
   | (go_at_call 116; refine (numDigits_calls u hu1 hu64 _ (Lib.tabIs_alloc htab _)).mono ?_; rintro e w' ⟨rfl,hw'⟩; replace hw':=hw'.symm; subst hw'))
  go_at_call 117
  refine hfmt.mono ?_
  rintro e w' ⟨rfl,k,v',dk,rfl,hF⟩
  have hcv:(convert 36 9 (.slice (some ⟨w.heap.size,0,none⟩) (Lib.nDigits u) 24)).run Tryz.prog ((Sort.putRow (fun (b:UInt8)=>Value.int .u8 (b.toNat:Int)) (w.alloc (.cells Lib.zeros24 157)) w.heap.size 0 dk).drewN k)=.ok (.string ⟨(Lib.decDigits u).toArray⟩) ((Sort.putRow (fun (b:UInt8)=>Value.int .u8 (b.toNat:Int)) (w.alloc (.cells Lib.zeros24 157)) w.heap.size 0 dk).drewN k):=by
   have h:=run_convert_bytes_back (P:=Tryz.prog) ((Sort.putRow (fun (b:UInt8)=>Value.int .u8 (b.toNat:Int)) (w.alloc (.cells Lib.zeros24 157)) w.heap.size 0 dk).drewN k) 36 9 5 ⟨w.heap.size,0,none⟩ 24 (Lib.decDigits u) Tryz.underlying36 Tryz.underlying5 Tryz.underlying9 (fun j hj=>by
    rw [Lib.row_is_numeral hF j hj,Lib.add_plain,World.cell?_drewN]
    exact Sort.cell?_putRow (fun (b:UInt8)=>Value.int .u8 (b.toNat:Int)) _ w.heap.size 0 _ dk HH0.out (by rw [hF.size,Array.size_replicate]) j (by rw [hF.size]; rw [Lib.decDigits_length] at hj; exact hj))
   rw [Lib.decDigits_length] at h
   exact h
  go_wp2
  go_ret
  obtain ⟨os,eo⟩:=fin_pos0 w (.cells Lib.zeros24 157) dk k
  refine ⟨rfl,?_⟩
  show Below w.heap.size w ((Sort.putRow (fun (b:UInt8)=>Value.int .u8 (b.toNat:Int)) (w.alloc (.cells Lib.zeros24 157)) w.heap.size 0 dk).drewN k)
  rw [eo]
  exact Lib.below_grow _ _ nr _ _
theorem ZbS (z:Int) (h0:0<=z) (h1:z < 18446744073709551616) (w:World) (hL:LD w) :
  Calls Tryz.prog 102 #[.int .u64 z,.int .i64 10] w fun e w'=>e=.returned (.string ⟨(dg z).toArray⟩)/\Below w.heap.size w w':=by
 obtain ⟨u,rfl⟩:∃ u:Nat,z=u:=⟨z.toNat,by omega⟩
 go_enter Tryz.func102,Tryz.ntmps102
 go_wp2_with (go_at_call 144; refine (ifmtu_calls u (by omega) _ hL).mono ?_; rintro e w' ⟨rfl,hw⟩)
 go_ret
 exact ⟨rfl,hw⟩
def UintR (l:List UInt8) (e:Ending):Prop :=
 (∃ u:Nat,Lib.parseUintB 64 l=.ok u/\u < 18446744073709551616/\e=.returned (.tuple #[.int .u64 u,.nilIface]))\/((∀ u,Lib.parseUintB 64 l ≠ .ok u)/\∃ v t p,e=.returned (.tuple #[.int .u64 v,.iface t p]))
theorem uint_calls (l:List UInt8) (hl:l.length<=281474976710656) (w:World) (hL:LD w) :
  Calls Tryz.prog 213 #[.string ⟨l.toArray⟩,.int .i64 10,.int .i64 64] w fun e w'=>UintR l e/\Below w.heap.size w w':=by
 have hsz:(⟨l.toArray⟩:ByteArray).size<=281474976710656:=hl
 cases h:Lib.parseUintB 64 l with
 | ok u =>
   have hlt:=Lib.parseUintB_le h
   refine Calls.mono (show Calls Tryz.prog 213 _ _ _ from Any.strconv_ParseUint_10_at64_ok laysUint ⟨l.toArray⟩ (by omega) u h w) ?_
   rintro e w' ⟨rfl,hw⟩
   refine ⟨.inl ⟨u,h,by omega,rfl⟩,?_⟩
   rcases hw with rfl | rfl
   ·exact br
   ·exact Lib.bytesWorld_below _ _ _
 | «syntax» =>
   obtain ⟨tp,p,hv⟩:=hL.syn
   refine Calls.mono (show Calls Tryz.prog 213 _ _ _ from Any.strconv_ParseUint_10_at64_syntax_var laysUint ⟨l.toArray⟩ hsz h tp p w hv) ?_
   rintro e w' ⟨N,rfl,_,_,hb⟩
   exact ⟨.inr ⟨fun u e=>(by rw [h] at e; cases e),_,_,_,rfl⟩,hb⟩
 | range =>
   obtain ⟨tp,p,hv⟩:=hL.rng
   refine Calls.mono (show Calls Tryz.prog 213 _ _ _ from Any.strconv_ParseUint_10_at64_range_var laysUint ⟨l.toArray⟩ hsz h tp p w hv) ?_
   rintro e w' ⟨N,rfl,_,_,hb⟩
   exact ⟨.inr ⟨fun u e=>(by rw [h] at e; cases e),_,_,_,rfl⟩,hb⟩
theorem cut_calls (s:List UInt8) (b:UInt8) (hs:s.length < 4294967281) (w:World) (hL:LD w) :
  Calls Tryz.prog 173 #[.string ⟨s.toArray⟩,.string ⟨#[b]⟩] w fun e w'=>e=.returned (.tuple #[.string ⟨(Lib.cut s [b]).1.toArray⟩,.string ⟨(Lib.cut s [b]).2.1.toArray⟩,.bool (Lib.cut s [b]).2.2])/\Below w.heap.size w w':=by
 obtain ⟨m,hm⟩:=hL.mx
 refine Calls.mono (show Calls Tryz.prog 173 _ _ _ from Any.strings_Cut laysCut ⟨s.toArray⟩ ⟨#[b]⟩ m w hs hm) ?_
 rintro e w' ⟨rfl,n,rfl⟩
 exact ⟨rfl,Joins.below_draws _ _ _⟩
theorem hiStr:(Tryz.prog.info? 9).map (fun i=>(i.zero,i.size,i.bytes))=some (some (.string ByteArray.empty),1,16):=by kernel_rfl
theorem Zcw (s:List UInt8) (b:UInt8) (hs:s.length < 4294967281) (w:World) (hL:LD w) :
  Calls Tryz.prog 8 #[.string ⟨s.toArray⟩,.string ⟨#[b]⟩] w fun e w'=>∃ n a,e=.returned (.slice a n n)/\LstS w' a n n (wordsOf b s)/\Below w.heap.size w w':=by
 obtain ⟨m,hm⟩:=hL.mx
 refine Calls.mono (show Calls Tryz.prog 8 _ _ _ from Any.strings_Split laysSplit hiStr ⟨s.toArray⟩ ⟨#[b]⟩ m w hs hm (Nat.le_refl 1)) ?_
 have hd:=Lib.splitB_data ⟨#[b]⟩ 0 (Lib.countB ⟨s.toArray⟩ ⟨#[b]⟩) ⟨s.toArray⟩
 have hw:(Lib.splitB ⟨#[b]⟩ 0 (Lib.countB ⟨s.toArray⟩ ⟨#[b]⟩) ⟨s.toArray⟩).map (·.data.toList)=wordsOf b s:=hd.trans (split_words b s)
 have hlen:=Lib.splitB_all ⟨#[b]⟩ (Nat.le_refl 1) 0 _ ⟨s.toArray⟩ (show Lib.countB ⟨s.toArray⟩ ⟨#[b]⟩=_ from rfl)
 generalize Lib.splitB ⟨#[b]⟩ 0 (Lib.countB ⟨s.toArray⟩ ⟨#[b]⟩) ⟨s.toArray⟩=xs at *
 generalize Lib.countB ⟨s.toArray⟩ ⟨#[b]⟩=n at *
 rintro e w' ⟨rfl,rfl⟩
 refine ⟨n+1,_,rfl,⟨by rw [← hw]; simp [hlen],nr,.inr ⟨w.heap.size,0,rfl,by simp,fun i hi=>?_⟩⟩,Joins.below_alloc1 _ _⟩
 rw [World.cell?_alloc_new,← hw]
 simp [List.getElem?_eq_getElem (show i < xs.length by omega)]
theorem extraB:Builder.Extra Tryz.prog ZbI :=
 { sizeBuilder:=by kernel_rfl,liesBuilder:=by kernel_rfl,t5:=Tryz.underlying5,a5:=Tryz.isAgg5,z5:=Tryz.sizeOf5,v5:=Tryz.zeroValue5,infoByte:=by kernel_rfl,cellsByte:=by kernel_rfl,sizeByte:=by kernel_rfl,neB5:=by decide }
theorem join_calls (g off n c:Nat) (ws:List (List UInt8)) (b:UInt8) (w:World) (h:LstS w (some ⟨g,off,none⟩) n c ws) (hn:0 < n) (hlen:(Lib.join ws [b]).length<=140737488355328) (hN:n<=140737488355328) :
  Calls Tryz.prog 121 #[.slice (some ⟨g,off,none⟩) n c,.string ⟨#[b]⟩] w fun e w'=>e=.returned (.string ⟨(Lib.join ws [b]).toArray⟩)/\Below w.heap.size w w':=by
 obtain ⟨g',off',e,hg,hc⟩:=h.at hn
 simp only [Option.some.injEq,Addr.mk.injEq,and_true] at e
 obtain ⟨rfl,rfl⟩:=e
 have hl:=h.len
 have hcap:=h.cap
 have em:(ws.map fun x=>(⟨x.toArray⟩:ByteArray)).map (·.data.toList)=ws:=by
  rw [List.map_map]
  exact (List.map_congr_left (fun x _=>rfl)).trans (List.map_id ws)
 have k:=Any.strings_Join laysJoin extraB g off c (ws.map fun x=>(⟨x.toArray⟩:ByteArray)) ⟨#[b]⟩ w (fun j x hj=>by
   have hj':j < ws.length:=by have:=(List.getElem?_eq_some_iff.1 hj).1; simpa using this
   rw [hc j (by omega)]
   rw [List.getElem?_map,List.getElem?_eq_getElem hj'] at hj
   simp only [Option.map_some,Option.some.injEq] at hj
   rw [← hj,List.getD_eq_getElem?_getD,List.getElem?_eq_getElem hj']
   rfl) hg (by simp; omega) (by simp; omega) (by rw [em]; exact hlen)
 rw [em,List.length_map,hl] at k
 exact show Calls Tryz.prog 121 _ _ _ from k
section
open Go.Shelf
def laysHasP_ren:Go.Shelf.Ren:=⟨fun | 99=>9 | 206=>23 | n=>n,fun | 9=>9 | 4=>4 | 3=>3 | n=>n,fun | n=>n⟩
theorem laysHasP:Go.Proofs.Lays.n99 Tryz.prog laysHasP_ren:={
 mixed:=by kernel_rfl
 f99:=Tryz.func9.trans (congrArg some (by kernel_rfl))
 f206:=Tryz.func23.trans (congrArg some (by kernel_rfl))
 t3:=Tryz.underlying3
 a3:=Tryz.isAgg3
 z3:=Tryz.sizeOf3
 v3:=Tryz.zeroValue3
 t4:=Tryz.underlying4
 a4:=Tryz.isAgg4
 z4:=Tryz.sizeOf4
 v4:=Tryz.zeroValue4
 t9:=Tryz.underlying9
 a9:=Tryz.isAgg9
 z9:=Tryz.sizeOf9
 v9:=Tryz.zeroValue9 }
def laysTrimP_ren:Go.Shelf.Ren:=⟨fun | 101=>86 | 208=>127 | 206=>23 | n=>n,fun | 9=>9 | 4=>4 | 3=>3 | n=>n,fun | n=>n⟩
theorem laysTrimP:Go.Proofs.Lays.n101 Tryz.prog laysTrimP_ren:={
 mixed:=by kernel_rfl
 f101:=Tryz.func86.trans (congrArg some (by kernel_rfl))
 f206:=Tryz.func23.trans (congrArg some (by kernel_rfl))
 f208:=Tryz.func127.trans (congrArg some (by kernel_rfl))
 t3:=Tryz.underlying3
 a3:=Tryz.isAgg3
 z3:=Tryz.sizeOf3
 v3:=Tryz.zeroValue3
 t4:=Tryz.underlying4
 a4:=Tryz.isAgg4
 z4:=Tryz.sizeOf4
 v4:=Tryz.zeroValue4
 t9:=Tryz.underlying9
 a9:=Tryz.isAgg9
 z9:=Tryz.sizeOf9
 v9:=Tryz.zeroValue9 }
def laysTrimS_ren:Go.Shelf.Ren:=⟨fun | 102=>81 | 209=>122 | 207=>172 | n=>n,fun | 9=>9 | 4=>4 | 3=>3 | n=>n,fun | n=>n⟩
theorem laysTrimS:Go.Proofs.Lays.n102 Tryz.prog laysTrimS_ren:={
 mixed:=by kernel_rfl
 f102:=Tryz.func81.trans (congrArg some (by kernel_rfl))
 f207:=Tryz.func172.trans (congrArg some (by kernel_rfl))
 f209:=Tryz.func122.trans (congrArg some (by kernel_rfl))
 t3:=Tryz.underlying3
 a3:=Tryz.isAgg3
 z3:=Tryz.sizeOf3
 v3:=Tryz.zeroValue3
 t4:=Tryz.underlying4
 a4:=Tryz.isAgg4
 z4:=Tryz.sizeOf4
 v4:=Tryz.zeroValue4
 t9:=Tryz.underlying9
 a9:=Tryz.isAgg9
 z9:=Tryz.sizeOf9
 v9:=Tryz.zeroValue9 }
def laysIdxS_ren:Go.Shelf.Ren:=⟨fun | 109=>38 | n=>n,fun | 31=>24 | 9=>9 | 3=>3 | 0=>0 | 4=>4 | n=>n,fun | n=>n⟩
theorem laysIdxS:Go.Proofs.Lays.n109 Tryz.prog laysIdxS_ren:={
 mixed:=by kernel_rfl
 f109:=Tryz.func38.trans (congrArg some (by kernel_rfl))
 t0:=Tryz.underlying0
 a0:=Tryz.isAgg0
 z0:=Tryz.sizeOf0
 v0:=Tryz.zeroValue0
 t3:=Tryz.underlying3
 a3:=Tryz.isAgg3
 z3:=Tryz.sizeOf3
 v3:=Tryz.zeroValue3
 t4:=Tryz.underlying4
 a4:=Tryz.isAgg4
 z4:=Tryz.sizeOf4
 v4:=Tryz.zeroValue4
 t9:=Tryz.underlying9
 a9:=Tryz.isAgg9
 z9:=Tryz.sizeOf9
 v9:=Tryz.zeroValue9
 t31:=Tryz.underlying24
 a31:=Tryz.isAgg24
 z31:=Tryz.sizeOf24
 v31:=Tryz.zeroValue24 }
def laysAtoi_ren:Go.Shelf.Ren:=⟨fun | 172=>87 | 244=>128 | 245=>129 | 247=>175 | 279=>176 | 280=>177 | 281=>178 | 282=>179 | 287=>214 | 316=>126 | 171=>28 | 205=>215 | 321=>230 | 322=>231 | 243=>46 | 246=>77 | 283=>115 | 284=>116 | 285=>117 | 286=>118 | 129=>161 | 317=>160 | 318=>162 | 319=>163 | 320=>164 | 337=>207 | 338=>208 | n=>n,fun | 9=>9 | 3=>3 | 75=>43 | 76=>44 | 4=>4 | 5=>5 | 167=>208 | 37=>36 | 0=>0 | 85=>209 | 2=>2 | 168=>211 | 53=>48 | 175=>237 | 46=>125 | 210=>240 | 127=>74 | 145=>256 | 143=>254 | 21=>21 | 171=>157 | 173=>160 | 212=>196 | 51=>154 | 20=>20 | 213=>197 | 232=>249 | 233=>250 | 80=>46 | n=>n,fun | 15=>4 | 16=>5 | 17=>3 | 18=>6 | 19=>7 | n=>n⟩
theorem laysAtoi:Go.Proofs.LaysC.n172 Tryz.prog laysAtoi_ren:={
 mixed:=by kernel_rfl
 f129:=Tryz.func161.trans (congrArg some (by kernel_rfl))
 f171:=Tryz.func28.trans (congrArg some (by kernel_rfl))
 f172:=Tryz.func87.trans (congrArg some (by kernel_rfl))
 f205:=Tryz.func215.trans (congrArg some (by kernel_rfl))
 f243:=Tryz.func46.trans (congrArg some (by kernel_rfl))
 f244:=Tryz.func128.trans (congrArg some (by kernel_rfl))
 f245:=Tryz.func129.trans (congrArg some (by kernel_rfl))
 f246:=Tryz.func77.trans (congrArg some (by kernel_rfl))
 f247:=Tryz.func175.trans (congrArg some (by kernel_rfl))
 f279:=Tryz.func176.trans (congrArg some (by kernel_rfl))
 f280:=Tryz.func177.trans (congrArg some (by kernel_rfl))
 f281:=Tryz.func178.trans (congrArg some (by kernel_rfl))
 f282:=Tryz.func179.trans (congrArg some (by kernel_rfl))
 f283:=Tryz.func115.trans (congrArg some (by kernel_rfl))
 f284:=Tryz.func116.trans (congrArg some (by kernel_rfl))
 f285:=Tryz.func117.trans (congrArg some (by kernel_rfl))
 f286:=Tryz.func118.trans (congrArg some (by kernel_rfl))
 f287:=Tryz.func214.trans (congrArg some (by kernel_rfl))
 f316:=Tryz.func126.trans (congrArg some (by kernel_rfl))
 f317:=Tryz.func160.trans (congrArg some (by kernel_rfl))
 f318:=Tryz.func162.trans (congrArg some (by kernel_rfl))
 f319:=Tryz.func163.trans (congrArg some (by kernel_rfl))
 f320:=Tryz.func164.trans (congrArg some (by kernel_rfl))
 f321:=Tryz.func230.trans (congrArg some (by kernel_rfl))
 f322:=Tryz.func231.trans (congrArg some (by kernel_rfl))
 f337:=Tryz.func207.trans (congrArg some (by kernel_rfl))
 f338:=Tryz.func208.trans (congrArg some (by kernel_rfl))
 t0:=Tryz.underlying0
 a0:=Tryz.isAgg0
 z0:=Tryz.sizeOf0
 v0:=Tryz.zeroValue0
 t2:=Tryz.underlying2
 a2:=Tryz.isAgg2
 z2:=Tryz.sizeOf2
 v2:=Tryz.zeroValue2
 t3:=Tryz.underlying3
 a3:=Tryz.isAgg3
 z3:=Tryz.sizeOf3
 v3:=Tryz.zeroValue3
 t4:=Tryz.underlying4
 a4:=Tryz.isAgg4
 z4:=Tryz.sizeOf4
 v4:=Tryz.zeroValue4
 t5:=Tryz.underlying5
 a5:=Tryz.isAgg5
 z5:=Tryz.sizeOf5
 v5:=Tryz.zeroValue5
 t9:=Tryz.underlying9
 a9:=Tryz.isAgg9
 z9:=Tryz.sizeOf9
 v9:=Tryz.zeroValue9
 t20:=Tryz.underlying20
 a20:=Tryz.isAgg20
 z20:=Tryz.sizeOf20
 v20:=Tryz.zeroValue20
 t21:=Tryz.underlying21
 a21:=Tryz.isAgg21
 z21:=Tryz.sizeOf21
 v21:=Tryz.zeroValue21
 t37:=Tryz.underlying36
 a37:=Tryz.isAgg36
 z37:=Tryz.sizeOf36
 v37:=Tryz.zeroValue36
 t46:=Tryz.underlying125
 a46:=Tryz.isAgg125
 z46:=Tryz.sizeOf125
 v46:=Tryz.zeroValue125
 t51:=Tryz.underlying154
 a51:=Tryz.isAgg154
 z51:=Tryz.sizeOf154
 v51:=Tryz.zeroValue154
 t53:=Tryz.underlying48
 a53:=Tryz.isAgg48
 z53:=Tryz.sizeOf48
 v53:=Tryz.zeroValue48
 t75:=Tryz.underlying43
 a75:=Tryz.isAgg43
 z75:=Tryz.sizeOf43
 v75:=Tryz.zeroValue43
 t76:=Tryz.underlying44
 a76:=Tryz.isAgg44
 z76:=Tryz.sizeOf44
 v76:=Tryz.zeroValue44
 t85:=Tryz.underlying209
 a85:=Tryz.isAgg209
 z85:=Tryz.sizeOf209
 v85:=Tryz.zeroValue209
 t127:=Tryz.underlying74
 a127:=Tryz.isAgg74
 z127:=Tryz.sizeOf74
 v127:=Tryz.zeroValue74
 t143:=Tryz.underlying254
 a143:=Tryz.isAgg254
 z143:=Tryz.sizeOf254
 v143:=Tryz.zeroValue254
 t145:=Tryz.underlying256
 a145:=Tryz.isAgg256
 z145:=Tryz.sizeOf256
 v145:=Tryz.zeroValue256
 t167:=Tryz.underlying208
 a167:=Tryz.isAgg208
 z167:=Tryz.sizeOf208
 v167:=Tryz.zeroValue208
 t168:=Tryz.underlying211
 a168:=Tryz.isAgg211
 z168:=Tryz.sizeOf211
 v168:=Tryz.zeroValue211
 t171:=Tryz.underlying157
 a171:=Tryz.isAgg157
 z171:=Tryz.sizeOf157
 v171:=Tryz.zeroValue157
 t173:=Tryz.underlying160
 a173:=Tryz.isAgg160
 z173:=Tryz.sizeOf160
 v173:=Tryz.zeroValue160
 t175:=Tryz.underlying237
 a175:=Tryz.isAgg237
 z175:=Tryz.sizeOf237
 v175:=Tryz.zeroValue237
 t210:=Tryz.underlying240
 a210:=Tryz.isAgg240
 z210:=Tryz.sizeOf240
 v210:=Tryz.zeroValue240
 t212:=Tryz.underlying196
 a212:=Tryz.isAgg196
 z212:=Tryz.sizeOf196
 v212:=Tryz.zeroValue196
 t213:=Tryz.underlying197
 a213:=Tryz.isAgg197
 z213:=Tryz.sizeOf197
 t232:=Tryz.underlying249
 a232:=Tryz.isAgg249
 z232:=Tryz.sizeOf249
 v232:=Tryz.zeroValue249
 t233:=Tryz.underlying250
 a233:=Tryz.isAgg250
 z233:=Tryz.sizeOf250
 v233:=Tryz.zeroValue250
 g15:=by kernel_rfl
 g16:=by kernel_rfl
 g17:=by kernel_rfl
 g18:=by kernel_rfl
 g19:=by kernel_rfl
 t80:=Tryz.underlying46
 a80:=Tryz.isAgg46
 z80:=Tryz.sizeOf46
 v80:=Tryz.zeroValue46
 i0:=by kernel_rfl
 i2:=by kernel_rfl
 i3:=by kernel_rfl
 i4:=by kernel_rfl
 i5:=by kernel_rfl
 i9:=by kernel_rfl
 i20:=by kernel_rfl
 i21:=by kernel_rfl
 i37:=by kernel_rfl
 i46:=by kernel_rfl
 i51:=by kernel_rfl
 i53:=by kernel_rfl
 i75:=by kernel_rfl
 i76:=by kernel_rfl
 i80:=by kernel_rfl
 i85:=by kernel_rfl
 i127:=by kernel_rfl
 i143:=by kernel_rfl
 i145:=by kernel_rfl
 i167:=by kernel_rfl
 i168:=by kernel_rfl
 i171:=by kernel_rfl
 i173:=by kernel_rfl
 i175:=by kernel_rfl
 i210:=by kernel_rfl
 i212:=by kernel_rfl
 i232:=by kernel_rfl
 i233:=by kernel_rfl
 m15:=by kernel_rfl
 m16:=by kernel_rfl
 m17:=by kernel_rfl
 m18:=by kernel_rfl
 m19:=by kernel_rfl
 c0:=by kernel_rfl
 c2:=by kernel_rfl
 c3:=by kernel_rfl
 c4:=by kernel_rfl
 c5:=by kernel_rfl
 c9:=by kernel_rfl
 c20:=by kernel_rfl
 c21:=by kernel_rfl
 c37:=by kernel_rfl
 c46:=by kernel_rfl
 c51:=by kernel_rfl
 c53:=by kernel_rfl
 c75:=by kernel_rfl
 c76:=by kernel_rfl
 c80:=by kernel_rfl
 c85:=by kernel_rfl
 c127:=by kernel_rfl
 c143:=by kernel_rfl
 c145:=by kernel_rfl
 c167:=by kernel_rfl
 c168:=by kernel_rfl
 c171:=by kernel_rfl
 c173:=by kernel_rfl
 c175:=by kernel_rfl
 c210:=by kernel_rfl
 c212:=by kernel_rfl
 c213:=by kernel_rfl
 c232:=by kernel_rfl
 c233:=by kernel_rfl }
end

section
open Go.Shelf
def laysClone_ren:Go.Shelf.Ren:=⟨fun | 25=>126 | n=>n,fun | 9=>9 | 3=>3 | 4=>4 | 37=>36 | 0=>0 | 47=>74 | 5=>5 | n=>n,fun | n=>n⟩
theorem laysClone:Go.Proofs.LaysPu.n25 Tryz.prog laysClone_ren:={
 mixed:=by kernel_rfl
 f25:=Tryz.func126.trans (congrArg some (by kernel_rfl))
 t0:=Tryz.underlying0
 a0:=Tryz.isAgg0
 z0:=Tryz.sizeOf0
 v0:=Tryz.zeroValue0
 i0:=by kernel_rfl
 t3:=Tryz.underlying3
 a3:=Tryz.isAgg3
 z3:=Tryz.sizeOf3
 v3:=Tryz.zeroValue3
 i3:=by kernel_rfl
 t4:=Tryz.underlying4
 a4:=Tryz.isAgg4
 z4:=Tryz.sizeOf4
 v4:=Tryz.zeroValue4
 i4:=by kernel_rfl
 t5:=Tryz.underlying5
 a5:=Tryz.isAgg5
 z5:=Tryz.sizeOf5
 v5:=Tryz.zeroValue5
 i5:=by kernel_rfl
 t9:=Tryz.underlying9
 a9:=Tryz.isAgg9
 z9:=Tryz.sizeOf9
 v9:=Tryz.zeroValue9
 i9:=by kernel_rfl
 t37:=Tryz.underlying36
 a37:=Tryz.isAgg36
 z37:=Tryz.sizeOf36
 v37:=Tryz.zeroValue36
 i37:=by kernel_rfl
 t47:=Tryz.underlying74
 a47:=Tryz.isAgg74
 z47:=Tryz.sizeOf74
 v47:=Tryz.zeroValue74
 i47:=by kernel_rfl }
end
end Go.Proofs.YthmiojmlaclgaaaGreatDoor.Fx
