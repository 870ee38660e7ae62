/-
  DERIVED: THE SHELF's CONTRACTS AT THIS DUMP, IN PLAIN WORDS (tools/lay-plain.mjs out of 'TryzShelf.lean', which tools/lay-shelf.mjs wrote): THE SAME DECLARATIONS UNDER THE SAME NAMES: 'import', 'namespace', 'open', 'def', 'theorem' AND NOTHING ELSE: no command of the shelf's: FOR A HAND-IN. Each laying: the table of numbers ('.._ren') and one theorem, a field a fact of the dump's own or the kernel's comparison; each contract: ONE APPLICATION.
-/
import Derived.Test.YtnjgnbofcbhngaaGreatDoorGs01
import Derived.BigQuiet
import Derived.Deep.AppendLies
import Derived.Deep.DeepMust
import Derived.Deep.QuietTactic
import Derived.Lib.Hide
import Derived.Lib.OthersKept
import Derived.Outline
import Derived.OwnWalk
import Derived.Shelf.Bits.Mul64
import Derived.Shelf.LaysC
import Derived.Shelf.LaysM
import Derived.Shelf.Small.Utf8
import Derived.Shelf.Strconv.Atoi
import Derived.Shelf.Strconv.AtoiAll
import Derived.Shelf.Strconv.AtoiErr
import Derived.Shelf.Strconv.AtoiErrFast
import Derived.Shelf.Strconv.AtoiFail
import Derived.Shelf.Strconv.AtoiInnerAll
import Derived.Shelf.Strconv.AtoiLong
import Derived.Shelf.Strconv.Clone
import Derived.Shelf.Strconv.ErrVarAll
import Derived.Shelf.Strconv.Itoa0
import Derived.Shelf.Strconv.Itoa1
import Derived.Shelf.Strconv.Itoa2
import Derived.Shelf.Strconv.Itoa3
import Derived.Shelf.Strconv.Lower
import Derived.Shelf.Strconv.ParseInt10
import Derived.Shelf.Strconv.ParseIntEmpty
import Derived.Shelf.Strconv.ParseUint10
import Derived.Shelf.Strconv.ParseUint10Any
import Derived.Shelf.Strconv.ParseUint10Empty
import Derived.Shelf.Strconv.RangeError
import Derived.Shelf.Strconv.SyntaxError
import Derived.Shelf.Strconv.ToError
import Derived.Shelf.Strconv.ToErrorRange
import Derived.Shelf.Strings.Builder1
import Derived.Shelf.Strings.Builder2
import Derived.Shelf.Strings.Builder2Cap
import Derived.Shelf.Strings.BuilderCap
import Derived.Shelf.Strings.BuilderF
import Derived.Shelf.Strings.BuilderK
import Derived.Shelf.Strings.Count
import Derived.Shelf.Strings.Cut
import Derived.Shelf.Strings.OnBuilder
import Derived.Shelf.Strings.Prefix
import Derived.Shelf.Strings.Repeat
import Derived.Shelf.Strings.Replace
import Derived.Shelf.Strings.Search1
import Derived.Shelf.Strings.Search2
import Derived.Shelf.Strings.Search3
import Derived.Shelf.Strings.Shaped
import Derived.Shelf.Strings.Split
import Derived.Shelf.Strings.SplitShaped
import Derived.Shelf.Unicode.DecodeAny
import Derived.Shelf.Unicode.DecodeSlow
import Derived.Shelf.Utf8.RuneCount
import Derived.Test.YtnjgnbofcbhngaaGreatDoorProg
import Derived.Test.YtnjgnbofcbhngaaGreatDoorRows
import Derived.WalkKit
import Derived.WalkLawsBesides
import Derived.WalkSmall
import Derived.WalkSpells
set_option maxHeartbeats 40000000
set_option maxRecDepth 100000
namespace Go.Proofs
open Go.Shelf
def Tryz.lays119_ren:Go.Shelf.Ren:=⟨fun | 119=>132 | n=>n,fun | 21=>21 | 4=>4 | n=>n,fun | n=>n⟩
theorem Tryz.lays119:Go.Proofs.Lays.n119 Tryz.prog Tryz.lays119_ren:={
 mixed:=by kernel_rfl
 f119:=Tryz.func132.trans (congrArg some (by kernel_rfl))
 t4:=Tryz.underlying4
 a4:=Tryz.isAgg4
 z4:=Tryz.sizeOf4
 v4:=Tryz.zeroValue4
 t21:=Tryz.underlying21
 a21:=Tryz.isAgg21
 z21:=Tryz.sizeOf21
 v21:=Tryz.zeroValue21}
theorem Tryz.utf8_ValidRune (r:Int) (w:World) :
  Calls Tryz.prog 132 #[.int .i32 r] w fun e w'=>e = .returned (.bool (Lib.validRune r))∧w'=w:=Any.utf8_ValidRune Tryz.lays119 r w
def Tryz.laysM171_ren:Go.Shelf.Ren:=⟨fun | 171=>175 | 243=>197 | 246=>223 | 283=>243 | 284=>244 | 285=>245 | 286=>246 | 129=>257 | 317=>256 | 318=>258 | 319=>259 | 320=>260 | 337=>264 | 338=>265 | n=>n,fun | 3=>3 | 9=>9 | 2=>2 | 4=>4 | 171=>233 | 0=>0 | 53=>132 | 37=>76 | 5=>5 | 173=>236 | 212=>242 | 51=>129 | 20=>20 | 213=>243 | 46=>88 | 232=>250 | 233=>251 | n=>n,fun | 17=>7 | 18=>9 | 19=>10 | n=>n⟩
theorem Tryz.laysM171:Go.Proofs.LaysM.n171 Tryz.prog Tryz.laysM171_ren:={
 mixed:=by kernel_rfl
 f129:=Tryz.func257.trans (congrArg some (by kernel_rfl))
 f171:=Tryz.func175.trans (congrArg some (by kernel_rfl))
 f243:=Tryz.func197.trans (congrArg some (by kernel_rfl))
 f246:=Tryz.func223.trans (congrArg some (by kernel_rfl))
 f283:=Tryz.func243.trans (congrArg some (by kernel_rfl))
 f284:=Tryz.func244.trans (congrArg some (by kernel_rfl))
 f285:=Tryz.func245.trans (congrArg some (by kernel_rfl))
 f286:=Tryz.func246.trans (congrArg some (by kernel_rfl))
 f317:=Tryz.func256.trans (congrArg some (by kernel_rfl))
 f318:=Tryz.func258.trans (congrArg some (by kernel_rfl))
 f319:=Tryz.func259.trans (congrArg some (by kernel_rfl))
 f320:=Tryz.func260.trans (congrArg some (by kernel_rfl))
 f337:=Tryz.func264.trans (congrArg some (by kernel_rfl))
 f338:=Tryz.func265.trans (congrArg some (by kernel_rfl))
 t0:=Tryz.underlying0
 a0:=Tryz.isAgg0
 z0:=Tryz.sizeOf0
 v0:=Tryz.zeroValue0
 t2:=Tryz.underlying2
 a2:=Tryz.isAgg2
 z2:=Tryz.sizeOf2
 v2:=Tryz.zeroValue2
 t3:=Tryz.underlying3
 a3:=Tryz.isAgg3
 z3:=Tryz.sizeOf3
 v3:=Tryz.zeroValue3
 t4:=Tryz.underlying4
 a4:=Tryz.isAgg4
 z4:=Tryz.sizeOf4
 v4:=Tryz.zeroValue4
 t5:=Tryz.underlying5
 a5:=Tryz.isAgg5
 z5:=Tryz.sizeOf5
 v5:=Tryz.zeroValue5
 t9:=Tryz.underlying9
 a9:=Tryz.isAgg9
 z9:=Tryz.sizeOf9
 v9:=Tryz.zeroValue9
 t20:=Tryz.underlying20
 a20:=Tryz.isAgg20
 z20:=Tryz.sizeOf20
 v20:=Tryz.zeroValue20
 t37:=Tryz.underlying76
 a37:=Tryz.isAgg76
 z37:=Tryz.sizeOf76
 v37:=Tryz.zeroValue76
 t46:=Tryz.underlying88
 a46:=Tryz.isAgg88
 z46:=Tryz.sizeOf88
 v46:=Tryz.zeroValue88
 t51:=Tryz.underlying129
 a51:=Tryz.isAgg129
 z51:=Tryz.sizeOf129
 v51:=Tryz.zeroValue129
 t53:=Tryz.underlying132
 a53:=Tryz.isAgg132
 z53:=Tryz.sizeOf132
 v53:=Tryz.zeroValue132
 t171:=Tryz.underlying233
 a171:=Tryz.isAgg233
 z171:=Tryz.sizeOf233
 v171:=Tryz.zeroValue233
 t173:=Tryz.underlying236
 a173:=Tryz.isAgg236
 z173:=Tryz.sizeOf236
 v173:=Tryz.zeroValue236
 t212:=Tryz.underlying242
 a212:=Tryz.isAgg242
 z212:=Tryz.sizeOf242
 v212:=Tryz.zeroValue242
 t213:=Tryz.underlying243
 a213:=Tryz.isAgg243
 z213:=Tryz.sizeOf243
 t232:=Tryz.underlying250
 a232:=Tryz.isAgg250
 z232:=Tryz.sizeOf250
 v232:=Tryz.zeroValue250
 t233:=Tryz.underlying251
 a233:=Tryz.isAgg251
 z233:=Tryz.sizeOf251
 v233:=Tryz.zeroValue251
 g17:=by kernel_rfl
 g18:=by kernel_rfl
 g19:=by kernel_rfl
 i0:=by kernel_rfl
 i2:=by kernel_rfl
 i3:=by kernel_rfl
 i4:=by kernel_rfl
 i5:=by kernel_rfl
 i9:=by kernel_rfl
 i20:=by kernel_rfl
 i37:=by kernel_rfl
 i46:=by kernel_rfl
 i51:=by kernel_rfl
 i53:=by kernel_rfl
 i171:=by kernel_rfl
 i173:=by kernel_rfl
 i212:=by kernel_rfl
 i232:=by kernel_rfl
 i233:=by kernel_rfl
 m17:=by kernel_rfl
 m18:=by kernel_rfl
 m19:=by kernel_rfl}
open Go.RowKit Go.Sort Go.Lib in
theorem Tryz.strconv_Itoa (n:Int) (h0 : -9223372036854775808≤n) (h1:n≤9223372036854775807) (w:World) (htab:Lib.TabIs Tryz.prog w "internal/strconv.uint64pow10" .u64 Lib.pow10Tab) :
  Calls Tryz.prog 175 #[.int .i64 n] w fun e w'=>e = .returned (.string ⟨(Lib.itoa n).toArray⟩)∧∃k os,w'=grow (w.drewN k) os:=Any.strconv_Itoa Tryz.laysM171 n h0 h1 w htab
def Tryz.laysC172_ren:Go.Shelf.Ren:=⟨fun | 172=>139 | 244=>172 | 245=>173 | 247=>191 | 279=>192 | 280=>193 | 281=>194 | 282=>195 | 287=>218 | 316=>219 | 171=>175 | 205=>220 | 321=>241 | 322=>242 | 243=>197 | 246=>223 | 283=>243 | 284=>244 | 285=>245 | 286=>246 | 129=>257 | 317=>256 | 318=>258 | 319=>259 | 320=>260 | 337=>264 | 338=>265 | n=>n,fun | 9=>9 | 3=>3 | 75=>81 | 76=>82 | 4=>4 | 5=>5 | 167=>194 | 37=>76 | 0=>0 | 85=>195 | 2=>2 | 168=>197 | 53=>132 | 175=>213 | 46=>88 | 210=>217 | 127=>123 | 145=>232 | 143=>230 | 21=>21 | 171=>233 | 173=>236 | 212=>242 | 51=>129 | 20=>20 | 213=>243 | 232=>250 | 233=>251 | 80=>84 | n=>n,fun | 15=>4 | 16=>5 | 17=>7 | 18=>9 | 19=>10 | n=>n⟩
theorem Tryz.laysC172:Go.Proofs.LaysC.n172 Tryz.prog Tryz.laysC172_ren:={
 mixed:=by kernel_rfl
 f129:=Tryz.func257.trans (congrArg some (by kernel_rfl))
 f171:=Tryz.func175.trans (congrArg some (by kernel_rfl))
 f172:=Tryz.func139.trans (congrArg some (by kernel_rfl))
 f205:=Tryz.func220.trans (congrArg some (by kernel_rfl))
 f243:=Tryz.func197.trans (congrArg some (by kernel_rfl))
 f244:=Tryz.func172.trans (congrArg some (by kernel_rfl))
 f245:=Tryz.func173.trans (congrArg some (by kernel_rfl))
 f246:=Tryz.func223.trans (congrArg some (by kernel_rfl))
 f247:=Tryz.func191.trans (congrArg some (by kernel_rfl))
 f279:=Tryz.func192.trans (congrArg some (by kernel_rfl))
 f280:=Tryz.func193.trans (congrArg some (by kernel_rfl))
 f281:=Tryz.func194.trans (congrArg some (by kernel_rfl))
 f282:=Tryz.func195.trans (congrArg some (by kernel_rfl))
 f283:=Tryz.func243.trans (congrArg some (by kernel_rfl))
 f284:=Tryz.func244.trans (congrArg some (by kernel_rfl))
 f285:=Tryz.func245.trans (congrArg some (by kernel_rfl))
 f286:=Tryz.func246.trans (congrArg some (by kernel_rfl))
 f287:=Tryz.func218.trans (congrArg some (by kernel_rfl))
 f316:=Tryz.func219.trans (congrArg some (by kernel_rfl))
 f317:=Tryz.func256.trans (congrArg some (by kernel_rfl))
 f318:=Tryz.func258.trans (congrArg some (by kernel_rfl))
 f319:=Tryz.func259.trans (congrArg some (by kernel_rfl))
 f320:=Tryz.func260.trans (congrArg some (by kernel_rfl))
 f321:=Tryz.func241.trans (congrArg some (by kernel_rfl))
 f322:=Tryz.func242.trans (congrArg some (by kernel_rfl))
 f337:=Tryz.func264.trans (congrArg some (by kernel_rfl))
 f338:=Tryz.func265.trans (congrArg some (by kernel_rfl))
 t0:=Tryz.underlying0
 a0:=Tryz.isAgg0
 z0:=Tryz.sizeOf0
 v0:=Tryz.zeroValue0
 t2:=Tryz.underlying2
 a2:=Tryz.isAgg2
 z2:=Tryz.sizeOf2
 v2:=Tryz.zeroValue2
 t3:=Tryz.underlying3
 a3:=Tryz.isAgg3
 z3:=Tryz.sizeOf3
 v3:=Tryz.zeroValue3
 t4:=Tryz.underlying4
 a4:=Tryz.isAgg4
 z4:=Tryz.sizeOf4
 v4:=Tryz.zeroValue4
 t5:=Tryz.underlying5
 a5:=Tryz.isAgg5
 z5:=Tryz.sizeOf5
 v5:=Tryz.zeroValue5
 t9:=Tryz.underlying9
 a9:=Tryz.isAgg9
 z9:=Tryz.sizeOf9
 v9:=Tryz.zeroValue9
 t20:=Tryz.underlying20
 a20:=Tryz.isAgg20
 z20:=Tryz.sizeOf20
 v20:=Tryz.zeroValue20
 t21:=Tryz.underlying21
 a21:=Tryz.isAgg21
 z21:=Tryz.sizeOf21
 v21:=Tryz.zeroValue21
 t37:=Tryz.underlying76
 a37:=Tryz.isAgg76
 z37:=Tryz.sizeOf76
 v37:=Tryz.zeroValue76
 t46:=Tryz.underlying88
 a46:=Tryz.isAgg88
 z46:=Tryz.sizeOf88
 v46:=Tryz.zeroValue88
 t51:=Tryz.underlying129
 a51:=Tryz.isAgg129
 z51:=Tryz.sizeOf129
 v51:=Tryz.zeroValue129
 t53:=Tryz.underlying132
 a53:=Tryz.isAgg132
 z53:=Tryz.sizeOf132
 v53:=Tryz.zeroValue132
 t75:=Tryz.underlying81
 a75:=Tryz.isAgg81
 z75:=Tryz.sizeOf81
 v75:=Tryz.zeroValue81
 t76:=Tryz.underlying82
 a76:=Tryz.isAgg82
 z76:=Tryz.sizeOf82
 v76:=Tryz.zeroValue82
 t85:=Tryz.underlying195
 a85:=Tryz.isAgg195
 z85:=Tryz.sizeOf195
 v85:=Tryz.zeroValue195
 t127:=Tryz.underlying123
 a127:=Tryz.isAgg123
 z127:=Tryz.sizeOf123
 v127:=Tryz.zeroValue123
 t143:=Tryz.underlying230
 a143:=Tryz.isAgg230
 z143:=Tryz.sizeOf230
 v143:=Tryz.zeroValue230
 t145:=Tryz.underlying232
 a145:=Tryz.isAgg232
 z145:=Tryz.sizeOf232
 v145:=Tryz.zeroValue232
 t167:=Tryz.underlying194
 a167:=Tryz.isAgg194
 z167:=Tryz.sizeOf194
 v167:=Tryz.zeroValue194
 t168:=Tryz.underlying197
 a168:=Tryz.isAgg197
 z168:=Tryz.sizeOf197
 v168:=Tryz.zeroValue197
 t171:=Tryz.underlying233
 a171:=Tryz.isAgg233
 z171:=Tryz.sizeOf233
 v171:=Tryz.zeroValue233
 t173:=Tryz.underlying236
 a173:=Tryz.isAgg236
 z173:=Tryz.sizeOf236
 v173:=Tryz.zeroValue236
 t175:=Tryz.underlying213
 a175:=Tryz.isAgg213
 z175:=Tryz.sizeOf213
 v175:=Tryz.zeroValue213
 t210:=Tryz.underlying217
 a210:=Tryz.isAgg217
 z210:=Tryz.sizeOf217
 v210:=Tryz.zeroValue217
 t212:=Tryz.underlying242
 a212:=Tryz.isAgg242
 z212:=Tryz.sizeOf242
 v212:=Tryz.zeroValue242
 t213:=Tryz.underlying243
 a213:=Tryz.isAgg243
 z213:=Tryz.sizeOf243
 t232:=Tryz.underlying250
 a232:=Tryz.isAgg250
 z232:=Tryz.sizeOf250
 v232:=Tryz.zeroValue250
 t233:=Tryz.underlying251
 a233:=Tryz.isAgg251
 z233:=Tryz.sizeOf251
 v233:=Tryz.zeroValue251
 g15:=by kernel_rfl
 g16:=by kernel_rfl
 g17:=by kernel_rfl
 g18:=by kernel_rfl
 g19:=by kernel_rfl
 t80:=Tryz.underlying84
 a80:=Tryz.isAgg84
 z80:=Tryz.sizeOf84
 v80:=Tryz.zeroValue84
 i0:=by kernel_rfl
 i2:=by kernel_rfl
 i3:=by kernel_rfl
 i4:=by kernel_rfl
 i5:=by kernel_rfl
 i9:=by kernel_rfl
 i20:=by kernel_rfl
 i21:=by kernel_rfl
 i37:=by kernel_rfl
 i46:=by kernel_rfl
 i51:=by kernel_rfl
 i53:=by kernel_rfl
 i75:=by kernel_rfl
 i76:=by kernel_rfl
 i80:=by kernel_rfl
 i85:=by kernel_rfl
 i127:=by kernel_rfl
 i143:=by kernel_rfl
 i145:=by kernel_rfl
 i167:=by kernel_rfl
 i168:=by kernel_rfl
 i171:=by kernel_rfl
 i173:=by kernel_rfl
 i175:=by kernel_rfl
 i210:=by kernel_rfl
 i212:=by kernel_rfl
 i232:=by kernel_rfl
 i233:=by kernel_rfl
 m15:=by kernel_rfl
 m16:=by kernel_rfl
 m17:=by kernel_rfl
 m18:=by kernel_rfl
 m19:=by kernel_rfl
 c0:=by kernel_rfl
 c2:=by kernel_rfl
 c3:=by kernel_rfl
 c4:=by kernel_rfl
 c5:=by kernel_rfl
 c9:=by kernel_rfl
 c20:=by kernel_rfl
 c21:=by kernel_rfl
 c37:=by kernel_rfl
 c46:=by kernel_rfl
 c51:=by kernel_rfl
 c53:=by kernel_rfl
 c75:=by kernel_rfl
 c76:=by kernel_rfl
 c80:=by kernel_rfl
 c85:=by kernel_rfl
 c127:=by kernel_rfl
 c143:=by kernel_rfl
 c145:=by kernel_rfl
 c167:=by kernel_rfl
 c168:=by kernel_rfl
 c171:=by kernel_rfl
 c173:=by kernel_rfl
 c175:=by kernel_rfl
 c210:=by kernel_rfl
 c212:=by kernel_rfl
 c213:=by kernel_rfl
 c232:=by kernel_rfl
 c233:=by kernel_rfl}
open Go.RowKit in
theorem Tryz.strconv_Atoi_err (s:ByteArray) (hl:s.size≤18) (h:Lib.atoi s.data.toList=none) (ev:Value) (w:World) (hv:w.cell? ⟨4,0,none⟩=some ev) (hev:ev = .nilIface∨∃te pe,ev = .iface te pe) :
  Calls Tryz.prog 139 #[.string s] w fun e w'=>∃N,e = .returned (.tuple #[.int .i64 0,.iface 197 (.pointer (some ⟨N,0,none⟩))])∧w.heap.size≤N∧w'.heap[N]? = some (.cells #[.string ⟨#[65,116,111,105]⟩,.string s,ev] 217 (0,0))∧Below w.heap.size w w':=Any.strconv_Atoi_err Tryz.laysC172 s hl h ev w hv hev
open Go.RowKit in
theorem Tryz.strconv_Atoi_ok (s:ByteArray) (hmax:s.size≤9223372036854775806) (v:Int) (h:Lib.atoiAll s.data.toList = .ok v) (w:World) :
  Calls Tryz.prog 139 #[.string s] w fun e w'=>e = .returned (.tuple #[.int .i64 v,.nilIface])∧(w'=w∨∃t,w'=Lib.bytesWorld w 5 t):=Any.strconv_Atoi_ok Tryz.laysC172 s hmax v h w
open Go.RowKit in
theorem Tryz.strconv_Atoi_range (s:ByteArray) (hlim:s.size≤281474976710656) (h:Lib.atoiAll s.data.toList = .range) (ev:Value) (w:World) (hv:w.cell? ⟨5,0,none⟩=some ev) (hev:ev = .nilIface∨∃te pe,ev = .iface te pe) :
  Calls Tryz.prog 139 #[.string s] w fun e w'=>∃N,e = .returned (.tuple #[.int .i64 (Lib.atoiSat s.data.toList),.iface 197 (.pointer (some ⟨N,0,none⟩))])∧w.heap.size≤N∧w'.heap[N]? = some (.cells #[.string ⟨#[65,116,111,105]⟩,.string s,ev] 217 (0,0))∧Below w.heap.size w w':=Any.strconv_Atoi_range Tryz.laysC172 s hlim h ev w hv hev
def Tryz.lays144_ren:Go.Shelf.Ren:=⟨fun | 144=>150 | 143=>179 | 219=>201 | 217=>225 | 225=>226 | 224=>227 | 267=>228 | 266=>247 | 314=>248 | n=>n,fun | 9=>9 | 4=>4 | 3=>3 | 5=>5 | 46=>88 | 146=>130 | 51=>129 | n=>n,fun | 1=>3 | n=>n⟩
theorem Tryz.lays144:Go.Proofs.Lays.n144 Tryz.prog Tryz.lays144_ren:={
 mixed:=by kernel_rfl
 f143:=Tryz.func179.trans (congrArg some (by kernel_rfl))
 f144:=Tryz.func150.trans (congrArg some (by kernel_rfl))
 f217:=Tryz.func225.trans (congrArg some (by kernel_rfl))
 f219:=Tryz.func201.trans (congrArg some (by kernel_rfl))
 f224:=Tryz.func227.trans (congrArg some (by kernel_rfl))
 f225:=Tryz.func226.trans (congrArg some (by kernel_rfl))
 f266:=Tryz.func247.trans (congrArg some (by kernel_rfl))
 f267:=Tryz.func228.trans (congrArg some (by kernel_rfl))
 f314:=Tryz.func248.trans (congrArg some (by kernel_rfl))
 t3:=Tryz.underlying3
 a3:=Tryz.isAgg3
 z3:=Tryz.sizeOf3
 v3:=Tryz.zeroValue3
 t4:=Tryz.underlying4
 a4:=Tryz.isAgg4
 z4:=Tryz.sizeOf4
 v4:=Tryz.zeroValue4
 t5:=Tryz.underlying5
 a5:=Tryz.isAgg5
 z5:=Tryz.sizeOf5
 v5:=Tryz.zeroValue5
 t9:=Tryz.underlying9
 a9:=Tryz.isAgg9
 z9:=Tryz.sizeOf9
 v9:=Tryz.zeroValue9
 t46:=Tryz.underlying88
 a46:=Tryz.isAgg88
 z46:=Tryz.sizeOf88
 v46:=Tryz.zeroValue88
 t51:=Tryz.underlying129
 a51:=Tryz.isAgg129
 z51:=Tryz.sizeOf129
 v51:=Tryz.zeroValue129
 t146:=Tryz.underlying130
 a146:=Tryz.isAgg130
 z146:=Tryz.sizeOf130
 v146:=Tryz.zeroValue130
 g1:=by kernel_rfl}
open Go.RowKit Go.Lib in
theorem Tryz.strings_Contains (s sub:ByteArray) (m:Int) (w:World) (hs:s.size<4294967281) (hm:w.cell? ⟨3,0,none⟩=some (.int .i64 m)) :
  Calls Tryz.prog 150 #[.string s,.string sub] w fun e w'=>e = .returned (.bool (Lib.contains s.data.toList sub.data.toList))∧w'=w:=Any.strings_Contains Tryz.lays144 s sub m w hs hm
def Tryz.lays145_ren:Go.Shelf.Ren:=⟨fun | 145=>180 | 220=>202 | 219=>201 | 217=>225 | 225=>226 | 224=>227 | 267=>228 | 266=>247 | 314=>248 | n=>n,fun | 9=>9 | 4=>4 | 59=>186 | 3=>3 | 5=>5 | 46=>88 | 146=>130 | 51=>129 | n=>n,fun | 1=>3 | n=>n⟩
theorem Tryz.lays145:Go.Proofs.Lays.n145 Tryz.prog Tryz.lays145_ren:={
 mixed:=by kernel_rfl
 f145:=Tryz.func180.trans (congrArg some (by kernel_rfl))
 f217:=Tryz.func225.trans (congrArg some (by kernel_rfl))
 f219:=Tryz.func201.trans (congrArg some (by kernel_rfl))
 f220:=Tryz.func202.trans (congrArg some (by kernel_rfl))
 f224:=Tryz.func227.trans (congrArg some (by kernel_rfl))
 f225:=Tryz.func226.trans (congrArg some (by kernel_rfl))
 f266:=Tryz.func247.trans (congrArg some (by kernel_rfl))
 f267:=Tryz.func228.trans (congrArg some (by kernel_rfl))
 f314:=Tryz.func248.trans (congrArg some (by kernel_rfl))
 t3:=Tryz.underlying3
 a3:=Tryz.isAgg3
 z3:=Tryz.sizeOf3
 v3:=Tryz.zeroValue3
 t4:=Tryz.underlying4
 a4:=Tryz.isAgg4
 z4:=Tryz.sizeOf4
 v4:=Tryz.zeroValue4
 t5:=Tryz.underlying5
 a5:=Tryz.isAgg5
 z5:=Tryz.sizeOf5
 v5:=Tryz.zeroValue5
 t9:=Tryz.underlying9
 a9:=Tryz.isAgg9
 z9:=Tryz.sizeOf9
 v9:=Tryz.zeroValue9
 t46:=Tryz.underlying88
 a46:=Tryz.isAgg88
 z46:=Tryz.sizeOf88
 v46:=Tryz.zeroValue88
 t51:=Tryz.underlying129
 a51:=Tryz.isAgg129
 z51:=Tryz.sizeOf129
 v51:=Tryz.zeroValue129
 t59:=Tryz.underlying186
 a59:=Tryz.isAgg186
 z59:=Tryz.sizeOf186
 v59:=Tryz.zeroValue186
 t146:=Tryz.underlying130
 a146:=Tryz.isAgg130
 z146:=Tryz.sizeOf130
 v146:=Tryz.zeroValue130
 g1:=by kernel_rfl}
open Go.RowKit Go.Lib in
theorem Tryz.strings_Cut (s sep:ByteArray) (m:Int) (w:World) (hs:s.size<4294967281) (hm:w.cell? ⟨3,0,none⟩=some (.int .i64 m)) :
  Calls Tryz.prog 180 #[.string s,.string sep] w fun e w'=>e = .returned (.tuple #[.string ⟨(Lib.cut s.data.toList sep.data.toList).1.toArray⟩,.string ⟨(Lib.cut s.data.toList sep.data.toList).2.1.toArray⟩,.bool (Lib.cut s.data.toList sep.data.toList).2.2])∧∃n,w'=w.drewN n:=Any.strings_Cut Tryz.lays145 s sep m w hs hm
def Tryz.laysM143_ren:Go.Shelf.Ren:=⟨fun | 143=>179 | 219=>201 | 217=>225 | 225=>226 | 224=>227 | 267=>228 | 266=>247 | 314=>248 | n=>n,fun | 9=>9 | 3=>3 | 4=>4 | 5=>5 | 46=>88 | 146=>130 | 51=>129 | n=>n,fun | 1=>3 | n=>n⟩
theorem Tryz.laysM143:Go.Proofs.LaysM.n143 Tryz.prog Tryz.laysM143_ren:={
 mixed:=by kernel_rfl
 f143:=Tryz.func179.trans (congrArg some (by kernel_rfl))
 f217:=Tryz.func225.trans (congrArg some (by kernel_rfl))
 f219:=Tryz.func201.trans (congrArg some (by kernel_rfl))
 f224:=Tryz.func227.trans (congrArg some (by kernel_rfl))
 f225:=Tryz.func226.trans (congrArg some (by kernel_rfl))
 f266:=Tryz.func247.trans (congrArg some (by kernel_rfl))
 f267:=Tryz.func228.trans (congrArg some (by kernel_rfl))
 f314:=Tryz.func248.trans (congrArg some (by kernel_rfl))
 t3:=Tryz.underlying3
 a3:=Tryz.isAgg3
 z3:=Tryz.sizeOf3
 v3:=Tryz.zeroValue3
 t4:=Tryz.underlying4
 a4:=Tryz.isAgg4
 z4:=Tryz.sizeOf4
 v4:=Tryz.zeroValue4
 t5:=Tryz.underlying5
 a5:=Tryz.isAgg5
 z5:=Tryz.sizeOf5
 v5:=Tryz.zeroValue5
 t9:=Tryz.underlying9
 a9:=Tryz.isAgg9
 z9:=Tryz.sizeOf9
 v9:=Tryz.zeroValue9
 t46:=Tryz.underlying88
 a46:=Tryz.isAgg88
 z46:=Tryz.sizeOf88
 v46:=Tryz.zeroValue88
 t51:=Tryz.underlying129
 a51:=Tryz.isAgg129
 z51:=Tryz.sizeOf129
 v51:=Tryz.zeroValue129
 t146:=Tryz.underlying130
 a146:=Tryz.isAgg130
 z146:=Tryz.sizeOf130
 v146:=Tryz.zeroValue130
 g1:=by kernel_rfl
 i3:=by kernel_rfl
 i4:=by kernel_rfl
 i5:=by kernel_rfl
 i9:=by kernel_rfl
 i46:=by kernel_rfl
 i51:=by kernel_rfl
 i146:=by kernel_rfl
 m1:=by kernel_rfl
 s1_3:=fun w h=>Go.Proofs.cell_of_shapedOpen_int (zero:=#[.int .i64 0]) (t:=3) h (of_decide_eq_true (by kernel_rfl)) (by kernel_rfl) rfl (by kernel_rfl) (by kernel_rfl) Tryz.underlying3}
def Tryz.lays99_ren:Go.Shelf.Ren:=⟨fun | 99=>50 | 206=>90 | n=>n,fun | 9=>9 | 4=>4 | 3=>3 | n=>n,fun | n=>n⟩
theorem Tryz.lays99:Go.Proofs.Lays.n99 Tryz.prog Tryz.lays99_ren:={
 mixed:=by kernel_rfl
 f99:=Tryz.func50.trans (congrArg some (by kernel_rfl))
 f206:=Tryz.func90.trans (congrArg some (by kernel_rfl))
 t3:=Tryz.underlying3
 a3:=Tryz.isAgg3
 z3:=Tryz.sizeOf3
 v3:=Tryz.zeroValue3
 t4:=Tryz.underlying4
 a4:=Tryz.isAgg4
 z4:=Tryz.sizeOf4
 v4:=Tryz.zeroValue4
 t9:=Tryz.underlying9
 a9:=Tryz.isAgg9
 z9:=Tryz.sizeOf9
 v9:=Tryz.zeroValue9}
open Go.RowKit Go.Lib in
theorem Tryz.strings_HasPrefix (s p:ByteArray) (w:World) :
  Calls Tryz.prog 50 #[.string s,.string p] w fun e w'=>e = .returned (.bool (Lib.hasPrefix s.data.toList p.data.toList))∧w'=w:=Any.strings_HasPrefix Tryz.lays99 s p w
def Tryz.lays101_ren:Go.Shelf.Ren:=⟨fun | 101=>137 | 208=>171 | 206=>90 | n=>n,fun | 9=>9 | 4=>4 | 3=>3 | n=>n,fun | n=>n⟩
theorem Tryz.lays101:Go.Proofs.Lays.n101 Tryz.prog Tryz.lays101_ren:={
 mixed:=by kernel_rfl
 f101:=Tryz.func137.trans (congrArg some (by kernel_rfl))
 f206:=Tryz.func90.trans (congrArg some (by kernel_rfl))
 f208:=Tryz.func171.trans (congrArg some (by kernel_rfl))
 t3:=Tryz.underlying3
 a3:=Tryz.isAgg3
 z3:=Tryz.sizeOf3
 v3:=Tryz.zeroValue3
 t4:=Tryz.underlying4
 a4:=Tryz.isAgg4
 z4:=Tryz.sizeOf4
 v4:=Tryz.zeroValue4
 t9:=Tryz.underlying9
 a9:=Tryz.isAgg9
 z9:=Tryz.sizeOf9
 v9:=Tryz.zeroValue9}
open Go.RowKit Go.Lib in
theorem Tryz.strings_TrimPrefix (s p:ByteArray) (w:World) :
  Calls Tryz.prog 137 #[.string s,.string p] w fun e w'=>e = .returned (.string ⟨(Lib.trimPrefix s.data.toList p.data.toList).toArray⟩)∧w'=w:=Any.strings_TrimPrefix Tryz.lays101 s p w
def Tryz.lays146_ren:Go.Shelf.Ren:=⟨fun | 146=>170 | 221=>190 | 268=>217 | 138=>196 | 143=>179 | 195=>221 | 197=>80 | 218=>222 | 219=>201 | 260=>133 | 217=>225 | 225=>226 | 224=>227 | 267=>228 | 266=>247 | 314=>248 | n=>n,fun | 9=>9 | 31=>45 | 3=>3 | 4=>4 | 0=>0 | 105=>121 | 21=>21 | 5=>5 | 46=>88 | 119=>178 | 139=>181 | 138=>180 | 146=>130 | 51=>129 | n=>n,fun | 1=>3 | 3=>1 | 4=>2 | n=>n⟩
theorem Tryz.lays146:Go.Proofs.Lays.n146 Tryz.prog Tryz.lays146_ren:={
 mixed:=by kernel_rfl
 f138:=Tryz.func196.trans (congrArg some (by kernel_rfl))
 f143:=Tryz.func179.trans (congrArg some (by kernel_rfl))
 f146:=Tryz.func170.trans (congrArg some (by kernel_rfl))
 f195:=Tryz.func221.trans (congrArg some (by kernel_rfl))
 f197:=Tryz.func80.trans (congrArg some (by kernel_rfl))
 f217:=Tryz.func225.trans (congrArg some (by kernel_rfl))
 f218:=Tryz.func222.trans (congrArg some (by kernel_rfl))
 f219:=Tryz.func201.trans (congrArg some (by kernel_rfl))
 f221:=Tryz.func190.trans (congrArg some (by kernel_rfl))
 f224:=Tryz.func227.trans (congrArg some (by kernel_rfl))
 f225:=Tryz.func226.trans (congrArg some (by kernel_rfl))
 f260:=Tryz.func133.trans (congrArg some (by kernel_rfl))
 f266:=Tryz.func247.trans (congrArg some (by kernel_rfl))
 f267:=Tryz.func228.trans (congrArg some (by kernel_rfl))
 f268:=Tryz.func217.trans (congrArg some (by kernel_rfl))
 f314:=Tryz.func248.trans (congrArg some (by kernel_rfl))
 t0:=Tryz.underlying0
 a0:=Tryz.isAgg0
 z0:=Tryz.sizeOf0
 v0:=Tryz.zeroValue0
 t3:=Tryz.underlying3
 a3:=Tryz.isAgg3
 z3:=Tryz.sizeOf3
 v3:=Tryz.zeroValue3
 t4:=Tryz.underlying4
 a4:=Tryz.isAgg4
 z4:=Tryz.sizeOf4
 v4:=Tryz.zeroValue4
 t5:=Tryz.underlying5
 a5:=Tryz.isAgg5
 z5:=Tryz.sizeOf5
 v5:=Tryz.zeroValue5
 t9:=Tryz.underlying9
 a9:=Tryz.isAgg9
 z9:=Tryz.sizeOf9
 v9:=Tryz.zeroValue9
 t21:=Tryz.underlying21
 a21:=Tryz.isAgg21
 z21:=Tryz.sizeOf21
 v21:=Tryz.zeroValue21
 t31:=Tryz.underlying45
 a31:=Tryz.isAgg45
 z31:=Tryz.sizeOf45
 v31:=Tryz.zeroValue45
 t46:=Tryz.underlying88
 a46:=Tryz.isAgg88
 z46:=Tryz.sizeOf88
 v46:=Tryz.zeroValue88
 t51:=Tryz.underlying129
 a51:=Tryz.isAgg129
 z51:=Tryz.sizeOf129
 v51:=Tryz.zeroValue129
 t105:=Tryz.underlying121
 a105:=Tryz.isAgg121
 z105:=Tryz.sizeOf121
 v105:=Tryz.zeroValue121
 t119:=Tryz.underlying178
 a119:=Tryz.isAgg178
 z119:=Tryz.sizeOf178
 t138:=Tryz.underlying180
 a138:=Tryz.isAgg180
 z138:=Tryz.sizeOf180
 v138:=Tryz.zeroValue180
 t139:=Tryz.underlying181
 a139:=Tryz.isAgg181
 z139:=Tryz.sizeOf181
 v139:=Tryz.zeroValue181
 t146:=Tryz.underlying130
 a146:=Tryz.isAgg130
 z146:=Tryz.sizeOf130
 v146:=Tryz.zeroValue130
 g1:=by kernel_rfl
 g3:=by kernel_rfl
 g4:=by kernel_rfl}
open Go.RowKit Go.Lib in
theorem Tryz.strings_Split (s sep:ByteArray) (m:Int) (w:World) (hs:s.size<4294967281) (hm:w.cell? ⟨3,0,none⟩=some (.int .i64 m)) (h1:1≤sep.size) :
  Calls Tryz.prog 170 #[.string s,.string sep] w fun e w'=>
   e = .returned (.slice (some ⟨w.heap.size,0,none⟩) (Lib.countB s sep+1) (Lib.countB s sep+1))∧w'=w.alloc (.cells ((Lib.splitB sep 0 (Lib.countB s sep) s).map Value.string).toArray 9):=Any.strings_Split Tryz.lays146 (by kernel_rfl) s sep m w hs hm h1
def Tryz.lays154_ren:Go.Shelf.Ren:=⟨fun | 154=>174 | 138=>196 | 165=>45 | 143=>179 | 166=>46 | 197=>80 | 169=>47 | 195=>221 | 218=>222 | 240=>84 | 241=>85 | 219=>201 | 260=>133 | 276=>141 | 277=>142 | 217=>225 | 225=>226 | 224=>227 | 267=>228 | 266=>247 | 314=>248 | n=>n,fun | 9=>9 | 3=>3 | 4=>4 | 72=>78 | 0=>0 | 76=>82 | 105=>121 | 21=>21 | 5=>5 | 70=>75 | 20=>20 | 37=>76 | 75=>81 | 127=>123 | 164=>163 | 46=>88 | 119=>178 | 139=>181 | 138=>180 | 146=>130 | 51=>129 | 80=>84 | n=>n,fun | 1=>3 | 3=>1 | 4=>2 | n=>n⟩
theorem Tryz.lays154:Go.Proofs.Lays.n154 Tryz.prog Tryz.lays154_ren:={
 mixed:=by kernel_rfl
 f138:=Tryz.func196.trans (congrArg some (by kernel_rfl))
 f143:=Tryz.func179.trans (congrArg some (by kernel_rfl))
 f154:=Tryz.func174.trans (congrArg some (by kernel_rfl))
 f165:=Tryz.func45.trans (congrArg some (by kernel_rfl))
 f166:=Tryz.func46.trans (congrArg some (by kernel_rfl))
 f169:=Tryz.func47.trans (congrArg some (by kernel_rfl))
 f195:=Tryz.func221.trans (congrArg some (by kernel_rfl))
 f197:=Tryz.func80.trans (congrArg some (by kernel_rfl))
 f217:=Tryz.func225.trans (congrArg some (by kernel_rfl))
 f218:=Tryz.func222.trans (congrArg some (by kernel_rfl))
 f219:=Tryz.func201.trans (congrArg some (by kernel_rfl))
 f224:=Tryz.func227.trans (congrArg some (by kernel_rfl))
 f225:=Tryz.func226.trans (congrArg some (by kernel_rfl))
 f240:=Tryz.func84.trans (congrArg some (by kernel_rfl))
 f241:=Tryz.func85.trans (congrArg some (by kernel_rfl))
 f260:=Tryz.func133.trans (congrArg some (by kernel_rfl))
 f266:=Tryz.func247.trans (congrArg some (by kernel_rfl))
 f267:=Tryz.func228.trans (congrArg some (by kernel_rfl))
 f276:=Tryz.func141.trans (congrArg some (by kernel_rfl))
 f277:=Tryz.func142.trans (congrArg some (by kernel_rfl))
 f314:=Tryz.func248.trans (congrArg some (by kernel_rfl))
 t0:=Tryz.underlying0
 a0:=Tryz.isAgg0
 z0:=Tryz.sizeOf0
 v0:=Tryz.zeroValue0
 t3:=Tryz.underlying3
 a3:=Tryz.isAgg3
 z3:=Tryz.sizeOf3
 v3:=Tryz.zeroValue3
 t4:=Tryz.underlying4
 a4:=Tryz.isAgg4
 z4:=Tryz.sizeOf4
 v4:=Tryz.zeroValue4
 t5:=Tryz.underlying5
 a5:=Tryz.isAgg5
 z5:=Tryz.sizeOf5
 v5:=Tryz.zeroValue5
 t9:=Tryz.underlying9
 a9:=Tryz.isAgg9
 z9:=Tryz.sizeOf9
 v9:=Tryz.zeroValue9
 t20:=Tryz.underlying20
 a20:=Tryz.isAgg20
 z20:=Tryz.sizeOf20
 v20:=Tryz.zeroValue20
 t21:=Tryz.underlying21
 a21:=Tryz.isAgg21
 z21:=Tryz.sizeOf21
 v21:=Tryz.zeroValue21
 t37:=Tryz.underlying76
 a37:=Tryz.isAgg76
 z37:=Tryz.sizeOf76
 v37:=Tryz.zeroValue76
 t46:=Tryz.underlying88
 a46:=Tryz.isAgg88
 z46:=Tryz.sizeOf88
 v46:=Tryz.zeroValue88
 t51:=Tryz.underlying129
 a51:=Tryz.isAgg129
 z51:=Tryz.sizeOf129
 v51:=Tryz.zeroValue129
 t70:=Tryz.underlying75
 a70:=Tryz.isAgg75
 z70:=Tryz.sizeOf75
 v70:=Tryz.zeroValue75
 t72:=Tryz.underlying78
 a72:=Tryz.isAgg78
 z72:=Tryz.sizeOf78
 v72:=Tryz.zeroValue78
 t75:=Tryz.underlying81
 a75:=Tryz.isAgg81
 z75:=Tryz.sizeOf81
 v75:=Tryz.zeroValue81
 t76:=Tryz.underlying82
 a76:=Tryz.isAgg82
 z76:=Tryz.sizeOf82
 v76:=Tryz.zeroValue82
 t105:=Tryz.underlying121
 a105:=Tryz.isAgg121
 z105:=Tryz.sizeOf121
 v105:=Tryz.zeroValue121
 t119:=Tryz.underlying178
 a119:=Tryz.isAgg178
 z119:=Tryz.sizeOf178
 t127:=Tryz.underlying123
 a127:=Tryz.isAgg123
 z127:=Tryz.sizeOf123
 v127:=Tryz.zeroValue123
 t138:=Tryz.underlying180
 a138:=Tryz.isAgg180
 z138:=Tryz.sizeOf180
 v138:=Tryz.zeroValue180
 t139:=Tryz.underlying181
 a139:=Tryz.isAgg181
 z139:=Tryz.sizeOf181
 v139:=Tryz.zeroValue181
 t146:=Tryz.underlying130
 a146:=Tryz.isAgg130
 z146:=Tryz.sizeOf130
 v146:=Tryz.zeroValue130
 t164:=Tryz.underlying163
 a164:=Tryz.isAgg163
 z164:=Tryz.sizeOf163
 v164:=Tryz.zeroValue163
 g1:=by kernel_rfl
 g3:=by kernel_rfl
 g4:=by kernel_rfl}
theorem Tryz.Builder_Extra_154:Builder.Extra Tryz.prog Tryz.lays154_ren:={
 sizeBuilder:=by kernel_rfl
 liesBuilder:=by kernel_rfl
 t5:=Tryz.underlying5
 a5:=Tryz.isAgg5
 z5:=Tryz.sizeOf5
 v5:=Tryz.zeroValue5
 infoByte:=by kernel_rfl
 cellsByte:=by kernel_rfl
 sizeByte:=by kernel_rfl
 neB5:=by decide}
open Go.RowKit Go.Lib in
theorem Tryz.strings_Replace (s old new:ByteArray) (n:Int) (m:Int) (w:World) (hs:s.size<4294967281) (hm:w.cell? ⟨3,0,none⟩=some (.int .i64 m)) (h1:1≤old.size) (hlen:s.size+Lib.countB s old*new.size≤140737488355328) :
  Calls Tryz.prog 174 #[.string s,.string old,.string new,.int .i64 n] w fun e w'=>
   e = .returned (.string ⟨(Lib.replace s.data.toList old.data.toList new.data.toList n).toArray⟩)∧Below w.heap.size w w':=Any.strings_Replace Tryz.lays154 Tryz.Builder_Extra_154 s old new n m w hs hm h1 hlen
def Tryz.lays260_ren:Go.Shelf.Ren:=⟨fun | 260=>133 | n=>n,fun | 9=>9 | 21=>21 | 3=>3 | 4=>4 | 5=>5 | 119=>178 | 0=>0 | 46=>88 | 139=>181 | 138=>180 | n=>n,fun | 3=>1 | 4=>2 | n=>n⟩
theorem Tryz.lays260:Go.Proofs.Lays.n260 Tryz.prog Tryz.lays260_ren:={
 mixed:=by kernel_rfl
 f260:=Tryz.func133.trans (congrArg some (by kernel_rfl))
 t0:=Tryz.underlying0
 a0:=Tryz.isAgg0
 z0:=Tryz.sizeOf0
 v0:=Tryz.zeroValue0
 t3:=Tryz.underlying3
 a3:=Tryz.isAgg3
 z3:=Tryz.sizeOf3
 v3:=Tryz.zeroValue3
 t4:=Tryz.underlying4
 a4:=Tryz.isAgg4
 z4:=Tryz.sizeOf4
 v4:=Tryz.zeroValue4
 t5:=Tryz.underlying5
 a5:=Tryz.isAgg5
 z5:=Tryz.sizeOf5
 v5:=Tryz.zeroValue5
 t9:=Tryz.underlying9
 a9:=Tryz.isAgg9
 z9:=Tryz.sizeOf9
 v9:=Tryz.zeroValue9
 t21:=Tryz.underlying21
 a21:=Tryz.isAgg21
 z21:=Tryz.sizeOf21
 v21:=Tryz.zeroValue21
 t46:=Tryz.underlying88
 a46:=Tryz.isAgg88
 z46:=Tryz.sizeOf88
 v46:=Tryz.zeroValue88
 t119:=Tryz.underlying178
 a119:=Tryz.isAgg178
 z119:=Tryz.sizeOf178
 t138:=Tryz.underlying180
 a138:=Tryz.isAgg180
 z138:=Tryz.sizeOf180
 v138:=Tryz.zeroValue180
 t139:=Tryz.underlying181
 a139:=Tryz.isAgg181
 z139:=Tryz.sizeOf181
 v139:=Tryz.zeroValue181
 g3:=by kernel_rfl
 g4:=by kernel_rfl}
def Tryz.lays197_ren:Go.Shelf.Ren:=⟨fun | 197=>80 | 260=>133 | n=>n,fun | 9=>9 | 21=>21 | 3=>3 | 4=>4 | 5=>5 | 105=>121 | 119=>178 | 0=>0 | 46=>88 | 139=>181 | 138=>180 | n=>n,fun | 3=>1 | 4=>2 | n=>n⟩
theorem Tryz.lays197:Go.Proofs.Lays.n197 Tryz.prog Tryz.lays197_ren:={
 mixed:=by kernel_rfl
 f197:=Tryz.func80.trans (congrArg some (by kernel_rfl))
 f260:=Tryz.func133.trans (congrArg some (by kernel_rfl))
 t0:=Tryz.underlying0
 a0:=Tryz.isAgg0
 z0:=Tryz.sizeOf0
 v0:=Tryz.zeroValue0
 t3:=Tryz.underlying3
 a3:=Tryz.isAgg3
 z3:=Tryz.sizeOf3
 v3:=Tryz.zeroValue3
 t4:=Tryz.underlying4
 a4:=Tryz.isAgg4
 z4:=Tryz.sizeOf4
 v4:=Tryz.zeroValue4
 t5:=Tryz.underlying5
 a5:=Tryz.isAgg5
 z5:=Tryz.sizeOf5
 v5:=Tryz.zeroValue5
 t9:=Tryz.underlying9
 a9:=Tryz.isAgg9
 z9:=Tryz.sizeOf9
 v9:=Tryz.zeroValue9
 t21:=Tryz.underlying21
 a21:=Tryz.isAgg21
 z21:=Tryz.sizeOf21
 v21:=Tryz.zeroValue21
 t46:=Tryz.underlying88
 a46:=Tryz.isAgg88
 z46:=Tryz.sizeOf88
 v46:=Tryz.zeroValue88
 t105:=Tryz.underlying121
 a105:=Tryz.isAgg121
 z105:=Tryz.sizeOf121
 v105:=Tryz.zeroValue121
 t119:=Tryz.underlying178
 a119:=Tryz.isAgg178
 z119:=Tryz.sizeOf178
 t138:=Tryz.underlying180
 a138:=Tryz.isAgg180
 z138:=Tryz.sizeOf180
 v138:=Tryz.zeroValue180
 t139:=Tryz.underlying181
 a139:=Tryz.isAgg181
 z139:=Tryz.sizeOf181
 v139:=Tryz.zeroValue181
 g3:=by kernel_rfl
 g4:=by kernel_rfl}
open Go.RowKit Go.Lib in
theorem Tryz.utf8_DecodeRuneInString (s:ByteArray) (w:World) (hT:Lib.Utf8Tabs 1 2 w) :
  Calls Tryz.prog 80 #[.string s] w fun e w'=>e = .returned (.tuple #[.int .i32 (Lib.decodeGo s).1,.int .i64 (Lib.decodeGo s).2])∧Below w.heap.size w w':=Any.utf8_DecodeRuneInString Tryz.lays197 s w hT
end Go.Proofs
namespace Go.Proofs.YtnjgnbofcbhngaaGreatDoor.B
open Go.RowKit
theorem chn {w w1 w2:World} (h:Below w.heap.size w w1) (h':Below w1.heap.size w1 w2):Below w.heap.size w w2:=h.trans (h'.mono h.size)
theorem jK {a b:Int} (h:a=b):Value.int .i64 a = .int .i64 b:=by rw[h]
theorem zYa {a b:Int} (h:a=b):Ending.returned (.int .i64 b) = .returned (.int .i64 a):=by rw[h]
theorem jL {a b:Bool} (h:a=b):Ending.returned (.bool b) = .returned (.bool a):=by rw[h]
theorem qD {B:Nat} {a w:World} (h:Below B a w) (n:Nat):Below B a (w.drewN n):=h.trans ⟨rfl,rfl,rfl,Nat.le_refl _,fun _ _=>rfl⟩
def gY (s:ByteArray) (w:World) (e:Ending) (w':World):Prop:=
 e = .returned (.tuple #[.int .i64 (if 16384<s.size then (0,3) else ck s 0).1,.int .i64 (if 16384<s.size then ((0:Int),(3:Int)) else ck s 0).2])∧Below w.heap.size w w'
theorem zPq {s:ByteArray} {w w':World} (h:16384<s.size) (hb:Below w.heap.size w w'):gY s w (.returned (.tuple #[.int .i64 0,.int .i64 3])) w':=by
 unfold gY;exact⟨by simp only[if_pos h],hb⟩
theorem zUq {s:ByteArray} {w w':World} {a b:Int} (h:¬16384<s.size) (hc:ck s 0=(a,b)) (hb:Below w.heap.size w w'):gY s w (.returned (.tuple #[.int .i64 a,.int .i64 b])) w':=by
 unfold gY;exact⟨by simp only[if_neg h,hc],hb⟩
def pV (b:Bool) (W:World) (e:Ending) (w':World):Prop:=e = .returned (.bool b)∧Below W.heap.size W w'
theorem zUr {r c:Int} {f:Bool} (hc:cls r=c) (h:c=1∨((c=2∨r=39)∧f=false)):mst r f=true:=by
 unfold mst;rw[hc]
 rcases h with h | ⟨h,hf⟩
 ·simp[h]
 ·simp[h,hf]
theorem zWh {r c:Int} {f:Bool} (hc:cls r=c) (h:c≠1∧(f=true∨(c≠2∧r≠39))):mst r f=false:=by
 unfold mst;rw[hc];obtain⟨h1,h2⟩:=h
 rcases h2 with hf | ⟨h2,h3⟩
 ·simp[h1,hf]
 ·simp[h1,h2,h3]
end Go.Proofs.YtnjgnbofcbhngaaGreatDoor.B
namespace Go.Proofs.YtnjgnbofcbhngaaGreatDoor.B
open Go.RowKit
theorem jE (r:Int) (w:World):Calls Tryz.prog 78 #[.int .i32 r] w fun e w'=>e = .returned (.int .i64 (cls r))∧w=w':=by
 obtain⟨c,hc⟩:∃c,cls r=c:=⟨_,rfl⟩;obtain⟨b,hb⟩:∃b,Lib.validRune r=b:=⟨_,rfl⟩;have hb':b=true↔((0≤r∧r<55296)∨(57343<r∧r≤1114111)):=by rw[←hb];simp[Lib.validRune]
 have cV:∀W,Calls Tryz.prog 132 #[.int .i32 r] W _:=fun W=>Tryz.utf8_ValidRune r W
 rw[hb] at cV;rw[hc];have HC:=Lib.hid hc;have HB:=Lib.hid hb';clear hc hb hb'
 cases b
 all_goals
  go_enter Tryz.func78,Tryz.ntmps78
  go_wp2_with (go_at_call 132;refine(cV _).mono ?_;rintro e w' ⟨rfl,rfl⟩)
  all_goals go_ret
  all_goals
   refine⟨zYa (HC.out.symm.trans (zMy r _ ?_)),rfl⟩;have hB:=HB.out;simp only[beq_iff_eq,beq_eq_false_iff_ne,ne_eq,and_true,Bool.false_eq_true,false_iff,true_iff] at *;omega
theorem dM (r:Int) (w:World):Calls Tryz.prog 75 #[.int .i32 r] w fun e w'=>e = .returned (.bool (rdb r))∧w=w':=by
 obtain⟨c,hc⟩:∃c,rdb r=c:=⟨_,rfl⟩;have cC:∀W,Calls Tryz.prog 78 #[.int .i32 r] W _:=fun W=>jE r W
 have h3:=zWf r;obtain⟨k,hk⟩:∃k,cls r=k:=⟨_,rfl⟩;rw[hk] at cC h3;rw[hc];have HC:=Lib.hid hc;have H3:=Lib.hid h3;clear hc hk h3
 go_enter Tryz.func75,Tryz.ntmps75
 go_wp2_with (go_at_call 78;refine(cC _).mono ?_;rintro e w' ⟨rfl,rfl⟩)
 all_goals go_ret
 all_goals
  refine⟨jL (HC.out.symm.trans (zMz r _ ?_)),rfl⟩;have h3:=H3.out;simp only[beq_iff_eq,beq_eq_false_iff_ne,ne_eq,Bool.false_eq_true,false_iff,true_iff] at *;omega
theorem zWi (s:ByteArray) (w:World) (hs:s.size≤1000000000) :
  Calls Tryz.prog 42 #[.string s] w (gY s w):=by
 by_cases hbig:16384<s.size
 ·have hz:(16384:Int)<(s.size:Int):=by omega
  go_enter Tryz.func42,Tryz.ntmps42
  go_wp2
  go_ret2
  exact zPq hbig (Below.refl _ _)
 ·have hz:¬(16384:Int)<(s.size:Int):=by omega
  go_enter Tryz.func42,Tryz.ntmps42
  go_wp2
  go_loopw [] (fun wr=>∃p:Nat,wr.heap[w.heap.size]? = some (.stringIter s p)∧Below w.heap.size w wr∧ck s p=ck s 0) (fun wr=>s.size-wr.iterPos w.heap.size)
  case atStart=>exact⟨0,World.iter_heap w s 0,(Below.refl _ _).alloc (Nat.le_refl _) _,rfl⟩
  case round=>
   obtain⟨p,hit,hbw,hc⟩:=hrel;have HC:=Lib.hid hc;clear hc;have hpos0:=iterPos_of hit
   by_cases hlt:p<s.size
   ·have hnx:∀ty,(Instr.next (.pointer (some ⟨w.heap.size,0,none⟩)) true ty).run Tryz.prog wr=_:=fun ty=>Lib.run_next_any_at wr w.heap.size s p ty hit hlt
    have hw1:=kA s p;have hit2:=Lib.iterAt_heap wr w.heap.size s p (p+(dc s p).2) hit;have hbw2:=Lib.below_iterAt hbw (k:=w.heap.size) (Nat.le_refl _) s (p+(dc s p).2);have HS:=Lib.hid (zY5 (s:=s) hlt);have HN:=Lib.hid (dH (s:=s) hlt);obtain⟨r,k,hrk⟩:∃r k,dc s p=(r,k):=⟨_,_,rfl⟩;rw[show Utf8.decode s p=(r,k) from hrk] at hnx;rw[hrk] at hw1 hit2 hbw2 HS HN
    dsimp only at hw1 hit2 hbw2 HS HN hnx
    clear hrk;obtain⟨W1,hW1⟩:∃W1,W1=wr.iterAt w.heap.size s (p+k):=⟨_,rfl⟩;rw[←hW1] at hnx hit2 hbw2;have hpos2:=iterPos_of hit2;have HP0:=Lib.hid hpos0;have HP2:=Lib.hid hpos2;clear hW1 hpos0 hpos2 hit hbw;have cR:∀W,Calls Tryz.prog 75 #[.int .i32 r] W _:=fun W=>dM r W
    obtain⟨b,hb⟩:∃b,rdb r=b:=⟨_,rfl⟩;rw[hb] at cR;have HB:=Lib.hid hb;clear hb
    cases b
    ·go_wp2_with (go_at_call 75;refine(cR _).mono ?_;rintro e w' ⟨rfl,rfl⟩)
     go_ret2
     exact zUq hbig (by rw[←HC.out];exact HS.out HB.out) hbw2
    ·go_wp2_with (go_at_call 75;refine(cR _).mono ?_;rintro e w' ⟨rfl,rfl⟩)
     go_roundw
     case rel=>exact⟨p+k,hit2,hbw2,by rw[←HN.out HB.out];exact HC.out⟩
     case measure=>rw[HP0.out,HP2.out];omega
   ·have hnx:∀ty,(Instr.next (.pointer (some ⟨w.heap.size,0,none⟩)) true ty).run Tryz.prog wr=_:=fun ty=>Lib.run_next_end_at wr w.heap.size s p ty hit hlt
    have HE:=Lib.hid (oT hlt);clear hpos0
    go_wp2
    go_ret2
    exact zUq hbig (by rw[←HC.out];exact HE.out) hbw
theorem dN (r:Int) (b:Bool) (w:World) :
  Calls Tryz.prog 189 #[.int .i32 r,.bool b] w fun e w'=>e = .returned (.bool (mst r b))∧w=w':=by
 have cC:∀W,Calls Tryz.prog 78 #[.int .i32 r] W _:=fun W=>jE r W
 obtain⟨k,hk⟩:∃k,cls r=k:=⟨_,rfl⟩;rw[hk] at cC;have HT:Hid (∀f,(k=1∨((k=2∨r=39)∧f=false))→mst r f=true):=Lib.hid fun f h=>zUr hk h
 have HF:Hid (∀f,(k≠1∧(f=true∨(k≠2∧r≠39)))→mst r f=false):=Lib.hid fun f h=>zWh hk h
 clear hk;obtain⟨c,hc⟩:∃c,mst r b=c:=⟨_,rfl⟩;rw[hc];have HC:=Lib.hid hc;clear hc
 cases b
 all_goals
  go_enter Tryz.func189,Tryz.ntmps189
  go_wp2_with (go_at_call 78;refine(cC _).mono ?_;rintro e w' ⟨rfl,rfl⟩)
  all_goals go_ret
  all_goals
   refine⟨jL (HC.out.symm.trans ?_),rfl⟩
   first
    | exact HT.out _ (by simp only[beq_iff_eq,beq_eq_false_iff_ne,ne_eq,and_true] at *;omega)
    | exact HF.out _ (by simp only[beq_iff_eq,beq_eq_false_iff_ne,ne_eq,true_or,and_true] at *;omega)
    | trace_state
theorem aZ (s:ByteArray) (w:World) (hs:s.size≤1000000000) :
  Calls Tryz.prog 169 #[.string s] w (pV (nm s) w):=by
 obtain⟨ANS,hans⟩:∃b,nm s=b:=⟨_,rfl⟩;rw[hans]
 by_cases hsz:1≤s.size∧s.size≤32
 ·have HA:=Lib.hid (hans.symm.trans (nm_of hsz))
  clear hans;obtain⟨h1,h2⟩:=hsz;have hz2:¬(32:Int)<(s.size:Int):=by omega
  have hne:¬s.toList=[]:=by
   intro e;have h3:=Lib.size_eq s;rw[←Lib.toList_data,e] at h3;have h4:([]:List UInt8).length=0:=rfl;omega
  have hne2:s.toList.isEmpty=false:=by cases h:s.toList with
   | nil=>exact absurd h hne
   | cons a t=>rfl
  go_enter Tryz.func169,Tryz.ntmps169
  go_wp2
  have hit0:(w.iter s 0).heap[w.heap.size]? = some (.stringIter s 0):=World.iter_heap w s 0;have hbi:Below w.heap.size w (w.iter s 0):=(Below.refl _ _).alloc (Nat.le_refl _) _
  generalize w.iter s 0=wq at hit0 hbi ⊢
  go_loopw [] (fun wr=>∃(p:Nat),wr.heap[w.heap.size]? = some (.stringIter s p)∧Below w.heap.size w wr∧p≤s.size∧nmF s p=nmF s 0) (fun wr=>s.size-wr.iterPos w.heap.size)
  case atStart=>exact⟨0,hit0,hbi,Nat.zero_le _,rfl⟩
  case round=>
   obtain⟨p,hit,hbw,hp,hct⟩:=hrel;have HC:=Lib.hid hct;clear hct hit0 hbi;have hpos0:=iterPos_of hit
   by_cases hlt:p<s.size
   ·have hnx:∀ty,(Instr.next (.pointer (some ⟨w.heap.size,0,none⟩)) true ty).run Tryz.prog wr=_:=fun ty=>Lib.run_next_any_at wr w.heap.size s p ty hit hlt
    have hw1:=kA s p;have hw2:=aX s p hlt;have hit2:=Lib.iterAt_heap wr w.heap.size s p (p+(dc s p).2) hit;have hbw2:=Lib.below_iterAt hbw (k:=w.heap.size) (Nat.le_refl _) s (p+(dc s p).2);have HS:=Lib.hid (fG (s:=s) hlt);have HN:=Lib.hid (nP (s:=s) hlt);obtain⟨r,k,hrk⟩:∃r k,dc s p=(r,k):=⟨_,_,rfl⟩;rw[show Utf8.decode s p=(r,k) from hrk] at hnx;rw[hrk] at hw1 hw2 hit2 hbw2 HS HN
    dsimp only at hw1 hw2 hit2 hbw2 HS HN hnx
    clear hrk;obtain⟨W1,hW1⟩:∃W1,W1=wr.iterAt w.heap.size s (p+k):=⟨_,rfl⟩;rw[←hW1] at hnx hit2 hbw2;have hpos2:=iterPos_of hit2;have HP0:=Lib.hid hpos0;have HP2:=Lib.hid hpos2;have HIT:=Lib.hid hit2;clear hW1 hpos0 hpos2 hit hbw hit2;obtain⟨f0,hf0⟩:∃f0,decide (p=0)=f0:=⟨_,rfl⟩;rw[hf0] at HS HN;have hf:((p:Int)==0)=f0:=by
     rw[←hf0,Bool.eq_iff_iff,beq_iff_eq,decide_eq_true_eq];omega
    clear hf0;have cR:∀W,Calls Tryz.prog 189 #[.int .i32 r,.bool f0] W _:=fun W=>dN r f0 W
    obtain⟨b,hb⟩:∃b,mst r f0=b:=⟨_,rfl⟩;rw[hb] at cR;have HB:=Lib.hid hb;clear hb
    cases b
    ·go_wp2_with (go_at_call 189;refine(cR _).mono ?_;rintro e w' ⟨rfl,rfl⟩)
     go_ret
     exact⟨jL (by rw[HA.out,←HC.out];exact HS.out HB.out),hbw2⟩
    ·go_wp2_with (go_at_call 189;refine(cR _).mono ?_;rintro e w' ⟨rfl,rfl⟩)
     go_roundw
     case rel=>exact⟨p+k,HIT.out,hbw2,hw2,by rw[←HN.out HB.out];exact HC.out⟩
     case measure=>rw[HP0.out,HP2.out];omega
   ·have hnx:∀ty,(Instr.next (.pointer (some ⟨w.heap.size,0,none⟩)) true ty).run Tryz.prog wr=_:=fun ty=>Lib.run_next_end_at wr w.heap.size s p ty hit hlt
    have HE:=Lib.hid (oU hlt);clear hpos0
    go_wp2
    go_ret
    exact⟨jL (by rw[HA.out,←HC.out];exact HE.out),hbw⟩
 ·have HA:=Lib.hid (hans.symm.trans (zPl hsz))
  clear hans
  rcases(show s.size=0∨(1≤s.size∧32<s.size) by omega) with h0 | ⟨h1,h2⟩
  ·have hne:s.toList=[]:=by
    rw[Lib.toList_data];exact List.eq_nil_of_length_eq_zero (by rw[←Lib.size_eq];exact h0)
   have hne2:s.toList.isEmpty=true:=by rw[hne];rfl
   clear h0 hsz
   go_enter Tryz.func169,Tryz.ntmps169
   go_wp2
   go_ret
   exact⟨jL HA.out,Below.refl _ _⟩
  ·have hne:¬s.toList=[]:=by
    intro e;have h3:=Lib.size_eq s;rw[←Lib.toList_data,e] at h3;have h4:([]:List UInt8).length=0:=rfl;omega
   have hne2:s.toList.isEmpty=false:=by cases h:s.toList with
    | nil=>exact absurd h hne
    | cons a t=>rfl
   have hz2:(32:Int)<(s.size:Int):=by omega
   clear hsz
   go_enter Tryz.func169,Tryz.ntmps169
   go_wp2
   go_ret
   exact⟨jL HA.out,Below.refl _ _⟩
end Go.Proofs.YtnjgnbofcbhngaaGreatDoor.B
namespace Go.Proofs.YtnjgnbofcbhngaaGreatDoor.B
open Go.Lib
def rn (f:Nat→Bool) (s:ByteArray) (p:Nat):Nat:=jI s (fun(_:Unit) p=>if f (dc s p).1 then none else some p) (fun u _=>u) (fun _=>s.size) () p
theorem dP {f:Nat→Bool} {s:ByteArray} {p:Nat} (h:¬p<s.size):rn f s p=s.size:=vU h
theorem nQ {f:Nat→Bool} {s:ByteArray} {p:Nat} (h:p<s.size) (e:f (dc s p).1=false):rn f s p=p:=xN h (by simp[e])
theorem nR {f:Nat→Bool} {s:ByteArray} {p:Nat} (h:p<s.size) (e:f (dc s p).1=true):rn f s p=rn f s (p+(dc s p).2):=xO h (by simp[e])
theorem zUs (a:List Nat) (r:Nat) (t:List Nat):a++r::t=(a++[r])++t∧sz a+wd r=sz (a++[r]):=by
 refine⟨by simp,?_⟩;rw[sz_app,zI,zZ,Nat.add_zero]
theorem zL3 (a:List Nat) (r:Nat) (t:List Nat):sz a<(T (a++r::t)).size:=by
 have:=pR r;rw[qK,sz_app,zI];omega
theorem rn_T (f:Nat→Bool):∀(b a:List Nat),okl b→rn f (T (a++b)) (sz a)=sz a+sz (b.take (cnt f b)):=by
 intro b
 induction b with
 | nil=>
  intro a _;rw[List.append_nil,dP (by rw[qK];omega),qK]
  simp[cnt,zZ]
 | cons r t ih=>
  intro a h;obtain⟨h1,h2⟩:=yK.1 h;obtain⟨e1,e2⟩:=zUs a r t;have hlt:=zL3 a r t;have k:=ih (a++[r]) h2;rw[←e1,←e2] at k
  cases hf:f r
  ·rw[nQ hlt (by rw[lH a h1 t];exact hf)]
   simp[cnt,hf,zZ]
  ·rw[nR hlt (by rw[lH a h1 t];exact hf),lH a h1 t]
   show rn f _ (sz a+wd r)=_
   rw[k];simp only[cnt,hf,if_true,List.take_succ_cons,zI];omega
theorem eA (f:Nat→Bool) {b:List Nat} (h:okl b):rn f (T b) 0=sz (b.take (cnt f b)):=by
 have:=rn_T f b [] h;rw[List.nil_append,zZ,Nat.zero_add] at this;exact this
def cstep (st:Int×Nat) (r:Nat):Int×Nat:=if st.2=40∧r=42 then (st.1+1,32) else if st.2=42∧r=41 then (st.1-1,32) else (st.1,r)
def chit (st:Int×Nat) (r:Nat):Bool:=decide (((st.2=40∧r=42)∨(st.2=42∧r=41))∧(cstep st r).1=0)
def cmp (s:ByteArray) (st:Int×Nat) (p:Nat):Nat:=jI s (fun(st:Int×Nat) p=>if chit st (dc s p).1 then some (p+1) else none) (fun st p=>cstep st (dc s p).1) (fun _=>0) st p
theorem zYb {s:ByteArray} {st:Int×Nat} {p:Nat} (h:¬p<s.size):cmp s st p=0:=vU h
theorem eB {s:ByteArray} {st:Int×Nat} {p:Nat} (h:p<s.size) (e:chit st (dc s p).1=true):cmp s st p=p+1:=xN h (by simp[e])
theorem eC {s:ByteArray} {st:Int×Nat} {p:Nat} (h:p<s.size) (e:chit st (dc s p).1=false):cmp s st p=cmp s (cstep st (dc s p).1) (p+(dc s p).2):=xO h (by simp[e])
theorem cm_T:∀(b a:List Nat) (d:Int) (last:Nat),okl b→cmp (T (a++b)) (d,last) (sz a)=(match cm d last b with | none=>0 | some k=>sz a+sz (b.take k)):=by
 intro b
 induction b with
 | nil=>
  intro a d last _;rw[List.append_nil,zYb (by rw[qK];omega)]
  rfl
 | cons r t ih=>
  intro a d last h;obtain⟨h1,h2⟩:=yK.1 h;obtain⟨e1,e2⟩:=zUs a r t;have hlt:=zL3 a r t;have key:∀d' last',chit (d,last) r=false→cstep (d,last) r=(d',last')→cmp (T (a++r::t)) (d,last) (sz a)=(match (cm d' last' t).map (· + 1) with | none=>0 | some k=>sz a+sz ((r::t).take k)):=by
   intro d' last' hc hs;rw[eC hlt (by rw[lH a h1 t];exact hc),lH a h1 t]
   show cmp _ (cstep (d,last) r) (sz a+wd r)=_
   rw[hs];have k:=ih (a++[r]) d' last' h2;rw[←e1,←e2] at k;rw[k]
   cases cm d' last' t with
   | none=>rfl
   | some j=>
    show _=sz a+sz ((r::t).take (j+1))
    rw[List.take_succ_cons,zI];simp only;omega
  have stop:chit (d,last) r=true→r<128→cmp (T (a++r::t)) (d,last) (sz a)=sz a+sz ((r::t).take 1):=by
   intro hc hr;rw[eB hlt (by rw[lH a h1 t];exact hc)];have:=(yL hr).1;rw[List.take_succ_cons,List.take_zero,zI,zZ,this]
  unfold cm
  by_cases c1:last=40∧r=42
  ·have hs:cstep (d,last) r=(d+1,32):=by unfold cstep;rw[if_pos c1]
   rw[if_pos c1]
   by_cases hd:d+1=0
   ·rw[if_pos hd]
    exact stop (by unfold chit;rw[hs];simp[c1,hd]) (by omega)
   ·rw[if_neg hd]
    exact key _ _ (by unfold chit;rw[hs];simp[hd]) hs
  ·rw[if_neg c1]
   by_cases c2:last=42∧r=41
   ·have hs:cstep (d,last) r=(d-1,32):=by unfold cstep;rw[if_neg c1,if_pos c2]
    rw[if_pos c2]
    by_cases hd:d-1=0
    ·rw[if_pos hd]
     exact stop (by unfold chit;rw[hs];simp[c2,hd]) (by omega)
    ·rw[if_neg hd]
     exact key _ _ (by unfold chit;rw[hs];simp[hd]) hs
   ·have hs:cstep (d,last) r=(d,r):=by unfold cstep;rw[if_neg c1,if_neg c2]
    rw[if_neg c2];refine key _ _ ?_ hs;unfold chit;rw[decide_eq_false_iff_not];rintro⟨h | h,_⟩
    ·exact c1 h
    ·exact c2 h
def cmb (s:ByteArray):Nat:=if hasPrefix s.data.toList [40,42] then cmp s (0,32) 0 else 0
theorem zYc {l:List Nat} (h:okl l):hasPrefix (enc l) [40,42]=opens l:=zY8 (p:=[40,42]) (by decide) h
theorem cmb_T {l:List Nat} (h:okl l):cmb (T l)=sz (l.take (cmt l)):=by
 unfold cmb cmt;rw[yF,zYc h]
 cases ho:opens l
 ·simp[zZ]
 ·have k:=cm_T l [] 0 32 h
  rw[List.nil_append,zZ] at k;simp only[if_true];rw[k]
  cases cm 0 32 l with
  | none=>simp[zZ]
  | some j=>simp
end Go.Proofs.YtnjgnbofcbhngaaGreatDoor.B
