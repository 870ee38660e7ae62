/-
  DERIVED: THE SHELF's CONTRACTS AT THIS DUMP, IN PLAIN WORDS (tools/lay-plain.mjs out of 'TryzShelf.lean', which tools/lay-shelf.mjs wrote): THE SAME DECLARATIONS UNDER THE SAME NAMES: 'import', 'namespace', 'open', 'def', 'theorem' AND NOTHING ELSE: no command of the shelf's: FOR A HAND-IN. Each laying: the table of numbers ('.._ren') and one theorem, a field a fact of the dump's own or the kernel's comparison; each contract: ONE APPLICATION.
-/
import Derived.Test.YtgeghilbikljcaaGreatDoorGj01
import Derived.BigQuiet
import Derived.Deep.AppendLies
import Derived.Deep.DeepMust
import Derived.Deep.QuietTactic
import Derived.Lib.Hide
import Derived.Lib.OthersKept
import Derived.Outline
import Derived.OwnWalk
import Derived.Shelf.Bits.Mul64
import Derived.Shelf.LaysC
import Derived.Shelf.LaysM
import Derived.Shelf.Small.Utf8
import Derived.Shelf.Strconv.Atoi
import Derived.Shelf.Strconv.AtoiAll
import Derived.Shelf.Strconv.AtoiErr
import Derived.Shelf.Strconv.AtoiErrFast
import Derived.Shelf.Strconv.AtoiFail
import Derived.Shelf.Strconv.AtoiInnerAll
import Derived.Shelf.Strconv.AtoiLong
import Derived.Shelf.Strconv.Clone
import Derived.Shelf.Strconv.ErrVarAll
import Derived.Shelf.Strconv.Itoa0
import Derived.Shelf.Strconv.Itoa1
import Derived.Shelf.Strconv.Itoa2
import Derived.Shelf.Strconv.Itoa3
import Derived.Shelf.Strconv.Lower
import Derived.Shelf.Strconv.ParseInt10
import Derived.Shelf.Strconv.ParseIntEmpty
import Derived.Shelf.Strconv.ParseUint10
import Derived.Shelf.Strconv.ParseUint10Any
import Derived.Shelf.Strconv.ParseUint10Empty
import Derived.Shelf.Strconv.RangeError
import Derived.Shelf.Strconv.SyntaxError
import Derived.Shelf.Strconv.ToError
import Derived.Shelf.Strconv.ToErrorRange
import Derived.Shelf.Strings.Builder1
import Derived.Shelf.Strings.Builder2
import Derived.Shelf.Strings.Builder2Cap
import Derived.Shelf.Strings.BuilderCap
import Derived.Shelf.Strings.BuilderF
import Derived.Shelf.Strings.BuilderK
import Derived.Shelf.Strings.Count
import Derived.Shelf.Strings.Cut
import Derived.Shelf.Strings.Prefix
import Derived.Shelf.Strings.Replace
import Derived.Shelf.Strings.Search1
import Derived.Shelf.Strings.Search2
import Derived.Shelf.Strings.Search3
import Derived.Shelf.Strings.Shaped
import Derived.Shelf.Strings.Split
import Derived.Shelf.Strings.SplitShaped
import Derived.Shelf.Unicode.DecodeAny
import Derived.Shelf.Unicode.DecodeSlow
import Derived.Shelf.Utf8.RuneCount
import Derived.Test.YtgeghilbikljcaaGreatDoorProg
import Derived.Test.YtgeghilbikljcaaGreatDoorRows
import Derived.WalkKit
import Derived.WalkLawsBesides
import Derived.WalkSmall
import Derived.WalkSpells
set_option maxHeartbeats 40000000
set_option maxRecDepth 100000
namespace Go.Proofs
open Go.Shelf
def Tryz.lays119_ren:Go.Shelf.Ren:=⟨fun | 119=>132 | n=>n,fun | 21=>21 | 4=>4 | n=>n,fun | n=>n⟩
theorem Tryz.lays119:Go.Proofs.Lays.n119 Tryz.prog Tryz.lays119_ren:={
 mixed:=by kernel_rfl
 f119:=Tryz.func132.trans (congrArg some (by kernel_rfl))
 t4:=Tryz.underlying4
 a4:=Tryz.isAgg4
 z4:=Tryz.sizeOf4
 v4:=Tryz.zeroValue4
 t21:=Tryz.underlying21
 a21:=Tryz.isAgg21
 z21:=Tryz.sizeOf21
 v21:=Tryz.zeroValue21}
theorem Tryz.utf8_ValidRune (r:Int) (w:World) :
  Calls Tryz.prog 132 #[.int .i32 r] w fun e w'=>e = .returned (.bool (Lib.validRune r))/\w'=w:=Any.utf8_ValidRune Tryz.lays119 r w
def Tryz.laysM171_ren:Go.Shelf.Ren:=⟨fun | 171=>170 | 243=>203 | 246=>229 | 283=>243 | 284=>244 | 285=>245 | 286=>246 | 129=>251 | 317=>250 | 318=>252 | 319=>253 | 320=>254 | 337=>258 | 338=>259 | n=>n,fun | 3=>3 | 9=>9 | 2=>2 | 4=>4 | 171=>224 | 0=>0 | 53=>168 | 37=>130 | 5=>5 | 173=>227 | 212=>233 | 51=>165 | 20=>20 | 213=>234 | 46=>145 | 232=>240 | 233=>241 | n=>n,fun | 17=>8 | 18=>9 | 19=>10 | n=>n⟩
theorem Tryz.laysM171:Go.Proofs.LaysM.n171 Tryz.prog Tryz.laysM171_ren:={
 mixed:=by kernel_rfl
 f129:=Tryz.func251.trans (congrArg some (by kernel_rfl))
 f171:=Tryz.func170.trans (congrArg some (by kernel_rfl))
 f243:=Tryz.func203.trans (congrArg some (by kernel_rfl))
 f246:=Tryz.func229.trans (congrArg some (by kernel_rfl))
 f283:=Tryz.func243.trans (congrArg some (by kernel_rfl))
 f284:=Tryz.func244.trans (congrArg some (by kernel_rfl))
 f285:=Tryz.func245.trans (congrArg some (by kernel_rfl))
 f286:=Tryz.func246.trans (congrArg some (by kernel_rfl))
 f317:=Tryz.func250.trans (congrArg some (by kernel_rfl))
 f318:=Tryz.func252.trans (congrArg some (by kernel_rfl))
 f319:=Tryz.func253.trans (congrArg some (by kernel_rfl))
 f320:=Tryz.func254.trans (congrArg some (by kernel_rfl))
 f337:=Tryz.func258.trans (congrArg some (by kernel_rfl))
 f338:=Tryz.func259.trans (congrArg some (by kernel_rfl))
 t0:=Tryz.underlying0
 a0:=Tryz.isAgg0
 z0:=Tryz.sizeOf0
 v0:=Tryz.zeroValue0
 t2:=Tryz.underlying2
 a2:=Tryz.isAgg2
 z2:=Tryz.sizeOf2
 v2:=Tryz.zeroValue2
 t3:=Tryz.underlying3
 a3:=Tryz.isAgg3
 z3:=Tryz.sizeOf3
 v3:=Tryz.zeroValue3
 t4:=Tryz.underlying4
 a4:=Tryz.isAgg4
 z4:=Tryz.sizeOf4
 v4:=Tryz.zeroValue4
 t5:=Tryz.underlying5
 a5:=Tryz.isAgg5
 z5:=Tryz.sizeOf5
 v5:=Tryz.zeroValue5
 t9:=Tryz.underlying9
 a9:=Tryz.isAgg9
 z9:=Tryz.sizeOf9
 v9:=Tryz.zeroValue9
 t20:=Tryz.underlying20
 a20:=Tryz.isAgg20
 z20:=Tryz.sizeOf20
 v20:=Tryz.zeroValue20
 t37:=Tryz.underlying130
 a37:=Tryz.isAgg130
 z37:=Tryz.sizeOf130
 v37:=Tryz.zeroValue130
 t46:=Tryz.underlying145
 a46:=Tryz.isAgg145
 z46:=Tryz.sizeOf145
 v46:=Tryz.zeroValue145
 t51:=Tryz.underlying165
 a51:=Tryz.isAgg165
 z51:=Tryz.sizeOf165
 v51:=Tryz.zeroValue165
 t53:=Tryz.underlying168
 a53:=Tryz.isAgg168
 z53:=Tryz.sizeOf168
 v53:=Tryz.zeroValue168
 t171:=Tryz.underlying224
 a171:=Tryz.isAgg224
 z171:=Tryz.sizeOf224
 v171:=Tryz.zeroValue224
 t173:=Tryz.underlying227
 a173:=Tryz.isAgg227
 z173:=Tryz.sizeOf227
 v173:=Tryz.zeroValue227
 t212:=Tryz.underlying233
 a212:=Tryz.isAgg233
 z212:=Tryz.sizeOf233
 v212:=Tryz.zeroValue233
 t213:=Tryz.underlying234
 a213:=Tryz.isAgg234
 z213:=Tryz.sizeOf234
 t232:=Tryz.underlying240
 a232:=Tryz.isAgg240
 z232:=Tryz.sizeOf240
 v232:=Tryz.zeroValue240
 t233:=Tryz.underlying241
 a233:=Tryz.isAgg241
 z233:=Tryz.sizeOf241
 v233:=Tryz.zeroValue241
 g17:=by kernel_rfl
 g18:=by kernel_rfl
 g19:=by kernel_rfl
 i0:=by kernel_rfl
 i2:=by kernel_rfl
 i3:=by kernel_rfl
 i4:=by kernel_rfl
 i5:=by kernel_rfl
 i9:=by kernel_rfl
 i20:=by kernel_rfl
 i37:=by kernel_rfl
 i46:=by kernel_rfl
 i51:=by kernel_rfl
 i53:=by kernel_rfl
 i171:=by kernel_rfl
 i173:=by kernel_rfl
 i212:=by kernel_rfl
 i232:=by kernel_rfl
 i233:=by kernel_rfl
 m17:=by kernel_rfl
 m18:=by kernel_rfl
 m19:=by kernel_rfl}
open Go.RowKit Go.Sort Go.Lib in
theorem Tryz.strconv_Itoa (n:Int) (h0 : -9223372036854775808<=n) (h1:n<=9223372036854775807) (w:World) (htab:Lib.TabIs Tryz.prog w "internal/strconv.uint64pow10" .u64 Lib.pow10Tab) :
  Calls Tryz.prog 170 #[.int .i64 n] w fun e w'=>e = .returned (.string ⟨(Lib.itoa n).toArray⟩)/\∃k os,w'=grow (w.drewN k) os:=Any.strconv_Itoa Tryz.laysM171 n h0 h1 w htab
def Tryz.laysC172_ren:Go.Shelf.Ren:=⟨fun | 172=>139 | 244=>167 | 245=>168 | 247=>194 | 279=>195 | 280=>196 | 281=>197 | 282=>198 | 287=>222 | 316=>223 | 171=>170 | 205=>224 | 321=>239 | 322=>240 | 243=>203 | 246=>229 | 283=>243 | 284=>244 | 285=>245 | 286=>246 | 129=>251 | 317=>250 | 318=>252 | 319=>253 | 320=>254 | 337=>258 | 338=>259 | n=>n,fun | 9=>9 | 3=>3 | 75=>135 | 76=>136 | 4=>4 | 5=>5 | 167=>185 | 37=>130 | 0=>0 | 85=>186 | 2=>2 | 168=>188 | 53=>168 | 175=>206 | 46=>145 | 210=>210 | 127=>212 | 145=>220 | 143=>218 | 21=>21 | 171=>224 | 173=>227 | 212=>233 | 51=>165 | 20=>20 | 213=>234 | 232=>240 | 233=>241 | 80=>195 | n=>n,fun | 15=>5 | 16=>6 | 17=>8 | 18=>9 | 19=>10 | n=>n⟩
theorem Tryz.laysC172:Go.Proofs.LaysC.n172 Tryz.prog Tryz.laysC172_ren:={
 mixed:=by kernel_rfl
 f129:=Tryz.func251.trans (congrArg some (by kernel_rfl))
 f171:=Tryz.func170.trans (congrArg some (by kernel_rfl))
 f172:=Tryz.func139.trans (congrArg some (by kernel_rfl))
 f205:=Tryz.func224.trans (congrArg some (by kernel_rfl))
 f243:=Tryz.func203.trans (congrArg some (by kernel_rfl))
 f244:=Tryz.func167.trans (congrArg some (by kernel_rfl))
 f245:=Tryz.func168.trans (congrArg some (by kernel_rfl))
 f246:=Tryz.func229.trans (congrArg some (by kernel_rfl))
 f247:=Tryz.func194.trans (congrArg some (by kernel_rfl))
 f279:=Tryz.func195.trans (congrArg some (by kernel_rfl))
 f280:=Tryz.func196.trans (congrArg some (by kernel_rfl))
 f281:=Tryz.func197.trans (congrArg some (by kernel_rfl))
 f282:=Tryz.func198.trans (congrArg some (by kernel_rfl))
 f283:=Tryz.func243.trans (congrArg some (by kernel_rfl))
 f284:=Tryz.func244.trans (congrArg some (by kernel_rfl))
 f285:=Tryz.func245.trans (congrArg some (by kernel_rfl))
 f286:=Tryz.func246.trans (congrArg some (by kernel_rfl))
 f287:=Tryz.func222.trans (congrArg some (by kernel_rfl))
 f316:=Tryz.func223.trans (congrArg some (by kernel_rfl))
 f317:=Tryz.func250.trans (congrArg some (by kernel_rfl))
 f318:=Tryz.func252.trans (congrArg some (by kernel_rfl))
 f319:=Tryz.func253.trans (congrArg some (by kernel_rfl))
 f320:=Tryz.func254.trans (congrArg some (by kernel_rfl))
 f321:=Tryz.func239.trans (congrArg some (by kernel_rfl))
 f322:=Tryz.func240.trans (congrArg some (by kernel_rfl))
 f337:=Tryz.func258.trans (congrArg some (by kernel_rfl))
 f338:=Tryz.func259.trans (congrArg some (by kernel_rfl))
 t0:=Tryz.underlying0
 a0:=Tryz.isAgg0
 z0:=Tryz.sizeOf0
 v0:=Tryz.zeroValue0
 t2:=Tryz.underlying2
 a2:=Tryz.isAgg2
 z2:=Tryz.sizeOf2
 v2:=Tryz.zeroValue2
 t3:=Tryz.underlying3
 a3:=Tryz.isAgg3
 z3:=Tryz.sizeOf3
 v3:=Tryz.zeroValue3
 t4:=Tryz.underlying4
 a4:=Tryz.isAgg4
 z4:=Tryz.sizeOf4
 v4:=Tryz.zeroValue4
 t5:=Tryz.underlying5
 a5:=Tryz.isAgg5
 z5:=Tryz.sizeOf5
 v5:=Tryz.zeroValue5
 t9:=Tryz.underlying9
 a9:=Tryz.isAgg9
 z9:=Tryz.sizeOf9
 v9:=Tryz.zeroValue9
 t20:=Tryz.underlying20
 a20:=Tryz.isAgg20
 z20:=Tryz.sizeOf20
 v20:=Tryz.zeroValue20
 t21:=Tryz.underlying21
 a21:=Tryz.isAgg21
 z21:=Tryz.sizeOf21
 v21:=Tryz.zeroValue21
 t37:=Tryz.underlying130
 a37:=Tryz.isAgg130
 z37:=Tryz.sizeOf130
 v37:=Tryz.zeroValue130
 t46:=Tryz.underlying145
 a46:=Tryz.isAgg145
 z46:=Tryz.sizeOf145
 v46:=Tryz.zeroValue145
 t51:=Tryz.underlying165
 a51:=Tryz.isAgg165
 z51:=Tryz.sizeOf165
 v51:=Tryz.zeroValue165
 t53:=Tryz.underlying168
 a53:=Tryz.isAgg168
 z53:=Tryz.sizeOf168
 v53:=Tryz.zeroValue168
 t75:=Tryz.underlying135
 a75:=Tryz.isAgg135
 z75:=Tryz.sizeOf135
 v75:=Tryz.zeroValue135
 t76:=Tryz.underlying136
 a76:=Tryz.isAgg136
 z76:=Tryz.sizeOf136
 v76:=Tryz.zeroValue136
 t85:=Tryz.underlying186
 a85:=Tryz.isAgg186
 z85:=Tryz.sizeOf186
 v85:=Tryz.zeroValue186
 t127:=Tryz.underlying212
 a127:=Tryz.isAgg212
 z127:=Tryz.sizeOf212
 v127:=Tryz.zeroValue212
 t143:=Tryz.underlying218
 a143:=Tryz.isAgg218
 z143:=Tryz.sizeOf218
 v143:=Tryz.zeroValue218
 t145:=Tryz.underlying220
 a145:=Tryz.isAgg220
 z145:=Tryz.sizeOf220
 v145:=Tryz.zeroValue220
 t167:=Tryz.underlying185
 a167:=Tryz.isAgg185
 z167:=Tryz.sizeOf185
 v167:=Tryz.zeroValue185
 t168:=Tryz.underlying188
 a168:=Tryz.isAgg188
 z168:=Tryz.sizeOf188
 v168:=Tryz.zeroValue188
 t171:=Tryz.underlying224
 a171:=Tryz.isAgg224
 z171:=Tryz.sizeOf224
 v171:=Tryz.zeroValue224
 t173:=Tryz.underlying227
 a173:=Tryz.isAgg227
 z173:=Tryz.sizeOf227
 v173:=Tryz.zeroValue227
 t175:=Tryz.underlying206
 a175:=Tryz.isAgg206
 z175:=Tryz.sizeOf206
 v175:=Tryz.zeroValue206
 t210:=Tryz.underlying210
 a210:=Tryz.isAgg210
 z210:=Tryz.sizeOf210
 v210:=Tryz.zeroValue210
 t212:=Tryz.underlying233
 a212:=Tryz.isAgg233
 z212:=Tryz.sizeOf233
 v212:=Tryz.zeroValue233
 t213:=Tryz.underlying234
 a213:=Tryz.isAgg234
 z213:=Tryz.sizeOf234
 t232:=Tryz.underlying240
 a232:=Tryz.isAgg240
 z232:=Tryz.sizeOf240
 v232:=Tryz.zeroValue240
 t233:=Tryz.underlying241
 a233:=Tryz.isAgg241
 z233:=Tryz.sizeOf241
 v233:=Tryz.zeroValue241
 g15:=by kernel_rfl
 g16:=by kernel_rfl
 g17:=by kernel_rfl
 g18:=by kernel_rfl
 g19:=by kernel_rfl
 t80:=Tryz.underlying195
 a80:=Tryz.isAgg195
 z80:=Tryz.sizeOf195
 v80:=Tryz.zeroValue195
 i0:=by kernel_rfl
 i2:=by kernel_rfl
 i3:=by kernel_rfl
 i4:=by kernel_rfl
 i5:=by kernel_rfl
 i9:=by kernel_rfl
 i20:=by kernel_rfl
 i21:=by kernel_rfl
 i37:=by kernel_rfl
 i46:=by kernel_rfl
 i51:=by kernel_rfl
 i53:=by kernel_rfl
 i75:=by kernel_rfl
 i76:=by kernel_rfl
 i80:=by kernel_rfl
 i85:=by kernel_rfl
 i127:=by kernel_rfl
 i143:=by kernel_rfl
 i145:=by kernel_rfl
 i167:=by kernel_rfl
 i168:=by kernel_rfl
 i171:=by kernel_rfl
 i173:=by kernel_rfl
 i175:=by kernel_rfl
 i210:=by kernel_rfl
 i212:=by kernel_rfl
 i232:=by kernel_rfl
 i233:=by kernel_rfl
 m15:=by kernel_rfl
 m16:=by kernel_rfl
 m17:=by kernel_rfl
 m18:=by kernel_rfl
 m19:=by kernel_rfl
 c0:=by kernel_rfl
 c2:=by kernel_rfl
 c3:=by kernel_rfl
 c4:=by kernel_rfl
 c5:=by kernel_rfl
 c9:=by kernel_rfl
 c20:=by kernel_rfl
 c21:=by kernel_rfl
 c37:=by kernel_rfl
 c46:=by kernel_rfl
 c51:=by kernel_rfl
 c53:=by kernel_rfl
 c75:=by kernel_rfl
 c76:=by kernel_rfl
 c80:=by kernel_rfl
 c85:=by kernel_rfl
 c127:=by kernel_rfl
 c143:=by kernel_rfl
 c145:=by kernel_rfl
 c167:=by kernel_rfl
 c168:=by kernel_rfl
 c171:=by kernel_rfl
 c173:=by kernel_rfl
 c175:=by kernel_rfl
 c210:=by kernel_rfl
 c212:=by kernel_rfl
 c213:=by kernel_rfl
 c232:=by kernel_rfl
 c233:=by kernel_rfl}
open Go.RowKit in
theorem Tryz.strconv_Atoi_err (s:ByteArray) (hl:s.size<=18) (h:Lib.atoi s.data.toList=none) (ev:Value) (w:World) (hv:w.cell? ⟨5,0,none⟩=some ev) (hev:ev = .nilIface\/∃te pe,ev = .iface te pe) :
  Calls Tryz.prog 139 #[.string s] w fun e w'=>∃N,e = .returned (.tuple #[.int .i64 0,.iface 188 (.pointer (some ⟨N,0,none⟩))])/\w.heap.size<=N/\w'.heap[N]? = some (.cells #[.string ⟨#[65,116,111,105]⟩,.string s,ev] 210 (0,0))/\Below w.heap.size w w':=Any.strconv_Atoi_err Tryz.laysC172 s hl h ev w hv hev
open Go.RowKit in
theorem Tryz.strconv_Atoi_ok (s:ByteArray) (hmax:s.size<=9223372036854775806) (v:Int) (h:Lib.atoiAll s.data.toList = .ok v) (w:World) :
  Calls Tryz.prog 139 #[.string s] w fun e w'=>e = .returned (.tuple #[.int .i64 v,.nilIface])/\(w'=w\/∃t,w'=Lib.bytesWorld w 5 t):=Any.strconv_Atoi_ok Tryz.laysC172 s hmax v h w
open Go.RowKit in
theorem Tryz.strconv_Atoi_range (s:ByteArray) (hlim:s.size<=281474976710656) (h:Lib.atoiAll s.data.toList = .range) (ev:Value) (w:World) (hv:w.cell? ⟨6,0,none⟩=some ev) (hev:ev = .nilIface\/∃te pe,ev = .iface te pe) :
  Calls Tryz.prog 139 #[.string s] w fun e w'=>∃N,e = .returned (.tuple #[.int .i64 (Lib.atoiSat s.data.toList),.iface 188 (.pointer (some ⟨N,0,none⟩))])/\w.heap.size<=N/\w'.heap[N]? = some (.cells #[.string ⟨#[65,116,111,105]⟩,.string s,ev] 210 (0,0))/\Below w.heap.size w w':=Any.strconv_Atoi_range Tryz.laysC172 s hlim h ev w hv hev
def Tryz.lays144_ren:Go.Shelf.Ren:=⟨fun | 144=>121 | 143=>155 | 219=>177 | 217=>205 | 225=>206 | 224=>207 | 267=>208 | 266=>230 | 314=>231 | n=>n,fun | 9=>9 | 4=>4 | 3=>3 | 5=>5 | 46=>145 | 146=>166 | 51=>165 | n=>n,fun | 1=>3 | n=>n⟩
theorem Tryz.lays144:Go.Proofs.Lays.n144 Tryz.prog Tryz.lays144_ren:={
 mixed:=by kernel_rfl
 f143:=Tryz.func155.trans (congrArg some (by kernel_rfl))
 f144:=Tryz.func121.trans (congrArg some (by kernel_rfl))
 f217:=Tryz.func205.trans (congrArg some (by kernel_rfl))
 f219:=Tryz.func177.trans (congrArg some (by kernel_rfl))
 f224:=Tryz.func207.trans (congrArg some (by kernel_rfl))
 f225:=Tryz.func206.trans (congrArg some (by kernel_rfl))
 f266:=Tryz.func230.trans (congrArg some (by kernel_rfl))
 f267:=Tryz.func208.trans (congrArg some (by kernel_rfl))
 f314:=Tryz.func231.trans (congrArg some (by kernel_rfl))
 t3:=Tryz.underlying3
 a3:=Tryz.isAgg3
 z3:=Tryz.sizeOf3
 v3:=Tryz.zeroValue3
 t4:=Tryz.underlying4
 a4:=Tryz.isAgg4
 z4:=Tryz.sizeOf4
 v4:=Tryz.zeroValue4
 t5:=Tryz.underlying5
 a5:=Tryz.isAgg5
 z5:=Tryz.sizeOf5
 v5:=Tryz.zeroValue5
 t9:=Tryz.underlying9
 a9:=Tryz.isAgg9
 z9:=Tryz.sizeOf9
 v9:=Tryz.zeroValue9
 t46:=Tryz.underlying145
 a46:=Tryz.isAgg145
 z46:=Tryz.sizeOf145
 v46:=Tryz.zeroValue145
 t51:=Tryz.underlying165
 a51:=Tryz.isAgg165
 z51:=Tryz.sizeOf165
 v51:=Tryz.zeroValue165
 t146:=Tryz.underlying166
 a146:=Tryz.isAgg166
 z146:=Tryz.sizeOf166
 v146:=Tryz.zeroValue166
 g1:=by kernel_rfl}
open Go.RowKit Go.Lib in
theorem Tryz.strings_Contains (s sub:ByteArray) (m:Int) (w:World) (hs:s.size<4294967281) (hm:w.cell? ⟨3,0,none⟩=some (.int .i64 m)) :
  Calls Tryz.prog 121 #[.string s,.string sub] w fun e w'=>e = .returned (.bool (Lib.contains s.data.toList sub.data.toList))/\w'=w:=Any.strings_Contains Tryz.lays144 s sub m w hs hm
def Tryz.lays145_ren:Go.Shelf.Ren:=⟨fun | 145=>156 | 220=>178 | 219=>177 | 217=>205 | 225=>206 | 224=>207 | 267=>208 | 266=>230 | 314=>231 | n=>n,fun | 9=>9 | 4=>4 | 59=>152 | 3=>3 | 5=>5 | 46=>145 | 146=>166 | 51=>165 | n=>n,fun | 1=>3 | n=>n⟩
theorem Tryz.lays145:Go.Proofs.Lays.n145 Tryz.prog Tryz.lays145_ren:={
 mixed:=by kernel_rfl
 f145:=Tryz.func156.trans (congrArg some (by kernel_rfl))
 f217:=Tryz.func205.trans (congrArg some (by kernel_rfl))
 f219:=Tryz.func177.trans (congrArg some (by kernel_rfl))
 f220:=Tryz.func178.trans (congrArg some (by kernel_rfl))
 f224:=Tryz.func207.trans (congrArg some (by kernel_rfl))
 f225:=Tryz.func206.trans (congrArg some (by kernel_rfl))
 f266:=Tryz.func230.trans (congrArg some (by kernel_rfl))
 f267:=Tryz.func208.trans (congrArg some (by kernel_rfl))
 f314:=Tryz.func231.trans (congrArg some (by kernel_rfl))
 t3:=Tryz.underlying3
 a3:=Tryz.isAgg3
 z3:=Tryz.sizeOf3
 v3:=Tryz.zeroValue3
 t4:=Tryz.underlying4
 a4:=Tryz.isAgg4
 z4:=Tryz.sizeOf4
 v4:=Tryz.zeroValue4
 t5:=Tryz.underlying5
 a5:=Tryz.isAgg5
 z5:=Tryz.sizeOf5
 v5:=Tryz.zeroValue5
 t9:=Tryz.underlying9
 a9:=Tryz.isAgg9
 z9:=Tryz.sizeOf9
 v9:=Tryz.zeroValue9
 t46:=Tryz.underlying145
 a46:=Tryz.isAgg145
 z46:=Tryz.sizeOf145
 v46:=Tryz.zeroValue145
 t51:=Tryz.underlying165
 a51:=Tryz.isAgg165
 z51:=Tryz.sizeOf165
 v51:=Tryz.zeroValue165
 t59:=Tryz.underlying152
 a59:=Tryz.isAgg152
 z59:=Tryz.sizeOf152
 v59:=Tryz.zeroValue152
 t146:=Tryz.underlying166
 a146:=Tryz.isAgg166
 z146:=Tryz.sizeOf166
 v146:=Tryz.zeroValue166
 g1:=by kernel_rfl}
open Go.RowKit Go.Lib in
theorem Tryz.strings_Cut (s sep:ByteArray) (m:Int) (w:World) (hs:s.size<4294967281) (hm:w.cell? ⟨3,0,none⟩=some (.int .i64 m)) :
  Calls Tryz.prog 156 #[.string s,.string sep] w fun e w'=>e = .returned (.tuple #[.string ⟨(Lib.cut s.data.toList sep.data.toList).1.toArray⟩,.string ⟨(Lib.cut s.data.toList sep.data.toList).2.1.toArray⟩,.bool (Lib.cut s.data.toList sep.data.toList).2.2])/\∃n,w'=w.drewN n:=Any.strings_Cut Tryz.lays145 s sep m w hs hm
def Tryz.laysM143_ren:Go.Shelf.Ren:=⟨fun | 143=>155 | 219=>177 | 217=>205 | 225=>206 | 224=>207 | 267=>208 | 266=>230 | 314=>231 | n=>n,fun | 9=>9 | 3=>3 | 4=>4 | 5=>5 | 46=>145 | 146=>166 | 51=>165 | n=>n,fun | 1=>3 | n=>n⟩
theorem Tryz.laysM143:Go.Proofs.LaysM.n143 Tryz.prog Tryz.laysM143_ren:={
 mixed:=by kernel_rfl
 f143:=Tryz.func155.trans (congrArg some (by kernel_rfl))
 f217:=Tryz.func205.trans (congrArg some (by kernel_rfl))
 f219:=Tryz.func177.trans (congrArg some (by kernel_rfl))
 f224:=Tryz.func207.trans (congrArg some (by kernel_rfl))
 f225:=Tryz.func206.trans (congrArg some (by kernel_rfl))
 f266:=Tryz.func230.trans (congrArg some (by kernel_rfl))
 f267:=Tryz.func208.trans (congrArg some (by kernel_rfl))
 f314:=Tryz.func231.trans (congrArg some (by kernel_rfl))
 t3:=Tryz.underlying3
 a3:=Tryz.isAgg3
 z3:=Tryz.sizeOf3
 v3:=Tryz.zeroValue3
 t4:=Tryz.underlying4
 a4:=Tryz.isAgg4
 z4:=Tryz.sizeOf4
 v4:=Tryz.zeroValue4
 t5:=Tryz.underlying5
 a5:=Tryz.isAgg5
 z5:=Tryz.sizeOf5
 v5:=Tryz.zeroValue5
 t9:=Tryz.underlying9
 a9:=Tryz.isAgg9
 z9:=Tryz.sizeOf9
 v9:=Tryz.zeroValue9
 t46:=Tryz.underlying145
 a46:=Tryz.isAgg145
 z46:=Tryz.sizeOf145
 v46:=Tryz.zeroValue145
 t51:=Tryz.underlying165
 a51:=Tryz.isAgg165
 z51:=Tryz.sizeOf165
 v51:=Tryz.zeroValue165
 t146:=Tryz.underlying166
 a146:=Tryz.isAgg166
 z146:=Tryz.sizeOf166
 v146:=Tryz.zeroValue166
 g1:=by kernel_rfl
 i3:=by kernel_rfl
 i4:=by kernel_rfl
 i5:=by kernel_rfl
 i9:=by kernel_rfl
 i46:=by kernel_rfl
 i51:=by kernel_rfl
 i146:=by kernel_rfl
 m1:=by kernel_rfl
 s1_3:=fun w h=>Go.Proofs.cell_of_shapedOpen_int (zero:=#[.int .i64 0]) (t:=3) h (of_decide_eq_true (by kernel_rfl)) (by kernel_rfl) rfl (by kernel_rfl) (by kernel_rfl) Tryz.underlying3}
def Tryz.lays99_ren:Go.Shelf.Ren:=⟨fun | 99=>97 | 206=>141 | n=>n,fun | 9=>9 | 4=>4 | 3=>3 | n=>n,fun | n=>n⟩
theorem Tryz.lays99:Go.Proofs.Lays.n99 Tryz.prog Tryz.lays99_ren:={
 mixed:=by kernel_rfl
 f99:=Tryz.func97.trans (congrArg some (by kernel_rfl))
 f206:=Tryz.func141.trans (congrArg some (by kernel_rfl))
 t3:=Tryz.underlying3
 a3:=Tryz.isAgg3
 z3:=Tryz.sizeOf3
 v3:=Tryz.zeroValue3
 t4:=Tryz.underlying4
 a4:=Tryz.isAgg4
 z4:=Tryz.sizeOf4
 v4:=Tryz.zeroValue4
 t9:=Tryz.underlying9
 a9:=Tryz.isAgg9
 z9:=Tryz.sizeOf9
 v9:=Tryz.zeroValue9}
open Go.RowKit Go.Lib in
theorem Tryz.strings_HasPrefix (s p:ByteArray) (w:World) :
  Calls Tryz.prog 97 #[.string s,.string p] w fun e w'=>e = .returned (.bool (Lib.hasPrefix s.data.toList p.data.toList))/\w'=w:=Any.strings_HasPrefix Tryz.lays99 s p w
def Tryz.lays101_ren:Go.Shelf.Ren:=⟨fun | 101=>137 | 208=>166 | 206=>141 | n=>n,fun | 9=>9 | 4=>4 | 3=>3 | n=>n,fun | n=>n⟩
theorem Tryz.lays101:Go.Proofs.Lays.n101 Tryz.prog Tryz.lays101_ren:={
 mixed:=by kernel_rfl
 f101:=Tryz.func137.trans (congrArg some (by kernel_rfl))
 f206:=Tryz.func141.trans (congrArg some (by kernel_rfl))
 f208:=Tryz.func166.trans (congrArg some (by kernel_rfl))
 t3:=Tryz.underlying3
 a3:=Tryz.isAgg3
 z3:=Tryz.sizeOf3
 v3:=Tryz.zeroValue3
 t4:=Tryz.underlying4
 a4:=Tryz.isAgg4
 z4:=Tryz.sizeOf4
 v4:=Tryz.zeroValue4
 t9:=Tryz.underlying9
 a9:=Tryz.isAgg9
 z9:=Tryz.sizeOf9
 v9:=Tryz.zeroValue9}
open Go.RowKit Go.Lib in
theorem Tryz.strings_TrimPrefix (s p:ByteArray) (w:World) :
  Calls Tryz.prog 137 #[.string s,.string p] w fun e w'=>e = .returned (.string ⟨(Lib.trimPrefix s.data.toList p.data.toList).toArray⟩)/\w'=w:=Any.strings_TrimPrefix Tryz.lays101 s p w
def Tryz.lays146_ren:Go.Shelf.Ren:=⟨fun | 146=>165 | 221=>193 | 268=>221 | 138=>199 | 143=>155 | 195=>225 | 197=>94 | 218=>226 | 219=>177 | 260=>133 | 217=>205 | 225=>206 | 224=>207 | 267=>208 | 266=>230 | 314=>231 | n=>n,fun | 9=>9 | 31=>80 | 3=>3 | 4=>4 | 0=>0 | 105=>114 | 21=>21 | 5=>5 | 46=>145 | 119=>158 | 139=>161 | 138=>160 | 146=>166 | 51=>165 | n=>n,fun | 1=>3 | 3=>1 | 4=>2 | n=>n⟩
theorem Tryz.lays146:Go.Proofs.Lays.n146 Tryz.prog Tryz.lays146_ren:={
 mixed:=by kernel_rfl
 f138:=Tryz.func199.trans (congrArg some (by kernel_rfl))
 f143:=Tryz.func155.trans (congrArg some (by kernel_rfl))
 f146:=Tryz.func165.trans (congrArg some (by kernel_rfl))
 f195:=Tryz.func225.trans (congrArg some (by kernel_rfl))
 f197:=Tryz.func94.trans (congrArg some (by kernel_rfl))
 f217:=Tryz.func205.trans (congrArg some (by kernel_rfl))
 f218:=Tryz.func226.trans (congrArg some (by kernel_rfl))
 f219:=Tryz.func177.trans (congrArg some (by kernel_rfl))
 f221:=Tryz.func193.trans (congrArg some (by kernel_rfl))
 f224:=Tryz.func207.trans (congrArg some (by kernel_rfl))
 f225:=Tryz.func206.trans (congrArg some (by kernel_rfl))
 f260:=Tryz.func133.trans (congrArg some (by kernel_rfl))
 f266:=Tryz.func230.trans (congrArg some (by kernel_rfl))
 f267:=Tryz.func208.trans (congrArg some (by kernel_rfl))
 f268:=Tryz.func221.trans (congrArg some (by kernel_rfl))
 f314:=Tryz.func231.trans (congrArg some (by kernel_rfl))
 t0:=Tryz.underlying0
 a0:=Tryz.isAgg0
 z0:=Tryz.sizeOf0
 v0:=Tryz.zeroValue0
 t3:=Tryz.underlying3
 a3:=Tryz.isAgg3
 z3:=Tryz.sizeOf3
 v3:=Tryz.zeroValue3
 t4:=Tryz.underlying4
 a4:=Tryz.isAgg4
 z4:=Tryz.sizeOf4
 v4:=Tryz.zeroValue4
 t5:=Tryz.underlying5
 a5:=Tryz.isAgg5
 z5:=Tryz.sizeOf5
 v5:=Tryz.zeroValue5
 t9:=Tryz.underlying9
 a9:=Tryz.isAgg9
 z9:=Tryz.sizeOf9
 v9:=Tryz.zeroValue9
 t21:=Tryz.underlying21
 a21:=Tryz.isAgg21
 z21:=Tryz.sizeOf21
 v21:=Tryz.zeroValue21
 t31:=Tryz.underlying80
 a31:=Tryz.isAgg80
 z31:=Tryz.sizeOf80
 v31:=Tryz.zeroValue80
 t46:=Tryz.underlying145
 a46:=Tryz.isAgg145
 z46:=Tryz.sizeOf145
 v46:=Tryz.zeroValue145
 t51:=Tryz.underlying165
 a51:=Tryz.isAgg165
 z51:=Tryz.sizeOf165
 v51:=Tryz.zeroValue165
 t105:=Tryz.underlying114
 a105:=Tryz.isAgg114
 z105:=Tryz.sizeOf114
 v105:=Tryz.zeroValue114
 t119:=Tryz.underlying158
 a119:=Tryz.isAgg158
 z119:=Tryz.sizeOf158
 t138:=Tryz.underlying160
 a138:=Tryz.isAgg160
 z138:=Tryz.sizeOf160
 v138:=Tryz.zeroValue160
 t139:=Tryz.underlying161
 a139:=Tryz.isAgg161
 z139:=Tryz.sizeOf161
 v139:=Tryz.zeroValue161
 t146:=Tryz.underlying166
 a146:=Tryz.isAgg166
 z146:=Tryz.sizeOf166
 v146:=Tryz.zeroValue166
 g1:=by kernel_rfl
 g3:=by kernel_rfl
 g4:=by kernel_rfl}
open Go.RowKit Go.Lib in
theorem Tryz.strings_Split (s sep:ByteArray) (m:Int) (w:World) (hs:s.size<4294967281) (hm:w.cell? ⟨3,0,none⟩=some (.int .i64 m)) (h1:1<=sep.size) :
  Calls Tryz.prog 165 #[.string s,.string sep] w fun e w'=>
   e = .returned (.slice (some ⟨w.heap.size,0,none⟩) (Lib.countB s sep+1) (Lib.countB s sep+1))/\w'=w.alloc (.cells ((Lib.splitB sep 0 (Lib.countB s sep) s).map Value.string).toArray 9):=Any.strings_Split Tryz.lays146 (by kernel_rfl) s sep m w hs hm h1
def Tryz.lays154_ren:Go.Shelf.Ren:=⟨fun | 154=>169 | 138=>199 | 165=>200 | 143=>155 | 166=>201 | 197=>94 | 169=>202 | 195=>225 | 218=>226 | 240=>227 | 241=>228 | 219=>177 | 260=>133 | 276=>241 | 277=>242 | 217=>205 | 225=>206 | 224=>207 | 267=>208 | 266=>230 | 314=>231 | n=>n,fun | 9=>9 | 3=>3 | 4=>4 | 72=>193 | 0=>0 | 76=>136 | 105=>114 | 21=>21 | 5=>5 | 70=>191 | 20=>20 | 37=>130 | 75=>135 | 127=>212 | 164=>221 | 46=>145 | 119=>158 | 139=>161 | 138=>160 | 146=>166 | 51=>165 | 80=>195 | n=>n,fun | 1=>3 | 3=>1 | 4=>2 | n=>n⟩
theorem Tryz.lays154:Go.Proofs.Lays.n154 Tryz.prog Tryz.lays154_ren:={
 mixed:=by kernel_rfl
 f138:=Tryz.func199.trans (congrArg some (by kernel_rfl))
 f143:=Tryz.func155.trans (congrArg some (by kernel_rfl))
 f154:=Tryz.func169.trans (congrArg some (by kernel_rfl))
 f165:=Tryz.func200.trans (congrArg some (by kernel_rfl))
 f166:=Tryz.func201.trans (congrArg some (by kernel_rfl))
 f169:=Tryz.func202.trans (congrArg some (by kernel_rfl))
 f195:=Tryz.func225.trans (congrArg some (by kernel_rfl))
 f197:=Tryz.func94.trans (congrArg some (by kernel_rfl))
 f217:=Tryz.func205.trans (congrArg some (by kernel_rfl))
 f218:=Tryz.func226.trans (congrArg some (by kernel_rfl))
 f219:=Tryz.func177.trans (congrArg some (by kernel_rfl))
 f224:=Tryz.func207.trans (congrArg some (by kernel_rfl))
 f225:=Tryz.func206.trans (congrArg some (by kernel_rfl))
 f240:=Tryz.func227.trans (congrArg some (by kernel_rfl))
 f241:=Tryz.func228.trans (congrArg some (by kernel_rfl))
 f260:=Tryz.func133.trans (congrArg some (by kernel_rfl))
 f266:=Tryz.func230.trans (congrArg some (by kernel_rfl))
 f267:=Tryz.func208.trans (congrArg some (by kernel_rfl))
 f276:=Tryz.func241.trans (congrArg some (by kernel_rfl))
 f277:=Tryz.func242.trans (congrArg some (by kernel_rfl))
 f314:=Tryz.func231.trans (congrArg some (by kernel_rfl))
 t0:=Tryz.underlying0
 a0:=Tryz.isAgg0
 z0:=Tryz.sizeOf0
 v0:=Tryz.zeroValue0
 t3:=Tryz.underlying3
 a3:=Tryz.isAgg3
 z3:=Tryz.sizeOf3
 v3:=Tryz.zeroValue3
 t4:=Tryz.underlying4
 a4:=Tryz.isAgg4
 z4:=Tryz.sizeOf4
 v4:=Tryz.zeroValue4
 t5:=Tryz.underlying5
 a5:=Tryz.isAgg5
 z5:=Tryz.sizeOf5
 v5:=Tryz.zeroValue5
 t9:=Tryz.underlying9
 a9:=Tryz.isAgg9
 z9:=Tryz.sizeOf9
 v9:=Tryz.zeroValue9
 t20:=Tryz.underlying20
 a20:=Tryz.isAgg20
 z20:=Tryz.sizeOf20
 v20:=Tryz.zeroValue20
 t21:=Tryz.underlying21
 a21:=Tryz.isAgg21
 z21:=Tryz.sizeOf21
 v21:=Tryz.zeroValue21
 t37:=Tryz.underlying130
 a37:=Tryz.isAgg130
 z37:=Tryz.sizeOf130
 v37:=Tryz.zeroValue130
 t46:=Tryz.underlying145
 a46:=Tryz.isAgg145
 z46:=Tryz.sizeOf145
 v46:=Tryz.zeroValue145
 t51:=Tryz.underlying165
 a51:=Tryz.isAgg165
 z51:=Tryz.sizeOf165
 v51:=Tryz.zeroValue165
 t70:=Tryz.underlying191
 a70:=Tryz.isAgg191
 z70:=Tryz.sizeOf191
 v70:=Tryz.zeroValue191
 t72:=Tryz.underlying193
 a72:=Tryz.isAgg193
 z72:=Tryz.sizeOf193
 v72:=Tryz.zeroValue193
 t75:=Tryz.underlying135
 a75:=Tryz.isAgg135
 z75:=Tryz.sizeOf135
 v75:=Tryz.zeroValue135
 t76:=Tryz.underlying136
 a76:=Tryz.isAgg136
 z76:=Tryz.sizeOf136
 v76:=Tryz.zeroValue136
 t105:=Tryz.underlying114
 a105:=Tryz.isAgg114
 z105:=Tryz.sizeOf114
 v105:=Tryz.zeroValue114
 t119:=Tryz.underlying158
 a119:=Tryz.isAgg158
 z119:=Tryz.sizeOf158
 t127:=Tryz.underlying212
 a127:=Tryz.isAgg212
 z127:=Tryz.sizeOf212
 v127:=Tryz.zeroValue212
 t138:=Tryz.underlying160
 a138:=Tryz.isAgg160
 z138:=Tryz.sizeOf160
 v138:=Tryz.zeroValue160
 t139:=Tryz.underlying161
 a139:=Tryz.isAgg161
 z139:=Tryz.sizeOf161
 v139:=Tryz.zeroValue161
 t146:=Tryz.underlying166
 a146:=Tryz.isAgg166
 z146:=Tryz.sizeOf166
 v146:=Tryz.zeroValue166
 t164:=Tryz.underlying221
 a164:=Tryz.isAgg221
 z164:=Tryz.sizeOf221
 v164:=Tryz.zeroValue221
 g1:=by kernel_rfl
 g3:=by kernel_rfl
 g4:=by kernel_rfl}
theorem Tryz.Builder_Extra_154:Builder.Extra Tryz.prog Tryz.lays154_ren:={
 sizeBuilder:=by kernel_rfl
 liesBuilder:=by kernel_rfl
 t5:=Tryz.underlying5
 a5:=Tryz.isAgg5
 z5:=Tryz.sizeOf5
 v5:=Tryz.zeroValue5
 infoByte:=by kernel_rfl
 cellsByte:=by kernel_rfl
 sizeByte:=by kernel_rfl
 neB5:=by decide}
open Go.RowKit Go.Lib in
theorem Tryz.strings_Replace (s old new:ByteArray) (n:Int) (m:Int) (w:World) (hs:s.size<4294967281) (hm:w.cell? ⟨3,0,none⟩=some (.int .i64 m)) (h1:1<=old.size) (hlen:s.size+Lib.countB s old*new.size<=140737488355328) :
  Calls Tryz.prog 169 #[.string s,.string old,.string new,.int .i64 n] w fun e w'=>
   e = .returned (.string ⟨(Lib.replace s.data.toList old.data.toList new.data.toList n).toArray⟩)/\Below w.heap.size w w':=Any.strings_Replace Tryz.lays154 Tryz.Builder_Extra_154 s old new n m w hs hm h1 hlen
def Tryz.lays260_ren:Go.Shelf.Ren:=⟨fun | 260=>133 | n=>n,fun | 9=>9 | 21=>21 | 3=>3 | 4=>4 | 5=>5 | 119=>158 | 0=>0 | 46=>145 | 139=>161 | 138=>160 | n=>n,fun | 3=>1 | 4=>2 | n=>n⟩
theorem Tryz.lays260:Go.Proofs.Lays.n260 Tryz.prog Tryz.lays260_ren:={
 mixed:=by kernel_rfl
 f260:=Tryz.func133.trans (congrArg some (by kernel_rfl))
 t0:=Tryz.underlying0
 a0:=Tryz.isAgg0
 z0:=Tryz.sizeOf0
 v0:=Tryz.zeroValue0
 t3:=Tryz.underlying3
 a3:=Tryz.isAgg3
 z3:=Tryz.sizeOf3
 v3:=Tryz.zeroValue3
 t4:=Tryz.underlying4
 a4:=Tryz.isAgg4
 z4:=Tryz.sizeOf4
 v4:=Tryz.zeroValue4
 t5:=Tryz.underlying5
 a5:=Tryz.isAgg5
 z5:=Tryz.sizeOf5
 v5:=Tryz.zeroValue5
 t9:=Tryz.underlying9
 a9:=Tryz.isAgg9
 z9:=Tryz.sizeOf9
 v9:=Tryz.zeroValue9
 t21:=Tryz.underlying21
 a21:=Tryz.isAgg21
 z21:=Tryz.sizeOf21
 v21:=Tryz.zeroValue21
 t46:=Tryz.underlying145
 a46:=Tryz.isAgg145
 z46:=Tryz.sizeOf145
 v46:=Tryz.zeroValue145
 t119:=Tryz.underlying158
 a119:=Tryz.isAgg158
 z119:=Tryz.sizeOf158
 t138:=Tryz.underlying160
 a138:=Tryz.isAgg160
 z138:=Tryz.sizeOf160
 v138:=Tryz.zeroValue160
 t139:=Tryz.underlying161
 a139:=Tryz.isAgg161
 z139:=Tryz.sizeOf161
 v139:=Tryz.zeroValue161
 g3:=by kernel_rfl
 g4:=by kernel_rfl}
def Tryz.lays197_ren:Go.Shelf.Ren:=⟨fun | 197=>94 | 260=>133 | n=>n,fun | 9=>9 | 21=>21 | 3=>3 | 4=>4 | 5=>5 | 105=>114 | 119=>158 | 0=>0 | 46=>145 | 139=>161 | 138=>160 | n=>n,fun | 3=>1 | 4=>2 | n=>n⟩
theorem Tryz.lays197:Go.Proofs.Lays.n197 Tryz.prog Tryz.lays197_ren:={
 mixed:=by kernel_rfl
 f197:=Tryz.func94.trans (congrArg some (by kernel_rfl))
 f260:=Tryz.func133.trans (congrArg some (by kernel_rfl))
 t0:=Tryz.underlying0
 a0:=Tryz.isAgg0
 z0:=Tryz.sizeOf0
 v0:=Tryz.zeroValue0
 t3:=Tryz.underlying3
 a3:=Tryz.isAgg3
 z3:=Tryz.sizeOf3
 v3:=Tryz.zeroValue3
 t4:=Tryz.underlying4
 a4:=Tryz.isAgg4
 z4:=Tryz.sizeOf4
 v4:=Tryz.zeroValue4
 t5:=Tryz.underlying5
 a5:=Tryz.isAgg5
 z5:=Tryz.sizeOf5
 v5:=Tryz.zeroValue5
 t9:=Tryz.underlying9
 a9:=Tryz.isAgg9
 z9:=Tryz.sizeOf9
 v9:=Tryz.zeroValue9
 t21:=Tryz.underlying21
 a21:=Tryz.isAgg21
 z21:=Tryz.sizeOf21
 v21:=Tryz.zeroValue21
 t46:=Tryz.underlying145
 a46:=Tryz.isAgg145
 z46:=Tryz.sizeOf145
 v46:=Tryz.zeroValue145
 t105:=Tryz.underlying114
 a105:=Tryz.isAgg114
 z105:=Tryz.sizeOf114
 v105:=Tryz.zeroValue114
 t119:=Tryz.underlying158
 a119:=Tryz.isAgg158
 z119:=Tryz.sizeOf158
 t138:=Tryz.underlying160
 a138:=Tryz.isAgg160
 z138:=Tryz.sizeOf160
 v138:=Tryz.zeroValue160
 t139:=Tryz.underlying161
 a139:=Tryz.isAgg161
 z139:=Tryz.sizeOf161
 v139:=Tryz.zeroValue161
 g3:=by kernel_rfl
 g4:=by kernel_rfl}
open Go.RowKit Go.Lib in
theorem Tryz.utf8_DecodeRuneInString (s:ByteArray) (w:World) (hT:Lib.Utf8Tabs 1 2 w) :
  Calls Tryz.prog 94 #[.string s] w fun e w'=>e = .returned (.tuple #[.int .i32 (Lib.decodeGo s).1,.int .i64 (Lib.decodeGo s).2])/\Below w.heap.size w w':=Any.utf8_DecodeRuneInString Tryz.lays197 s w hT
end Go.Proofs
namespace Go.Proofs.YtgeghilbikljcaaGreatDoor.B
open Go.RowKit
theorem chn {w w1 w2:World} (h:Below w.heap.size w w1) (h':Below w1.heap.size w1 w2):Below w.heap.size w w2:=h.trans (h'.mono h.size)
theorem jR {a b:Int} (h:a=b):Value.int .i64 a = .int .i64 b:=by rw[h]
theorem zXg {a b:Int} (h:a=b):Ending.returned (.int .i64 b) = .returned (.int .i64 a):=by rw[h]
theorem jS {a b:Bool} (h:a=b):Ending.returned (.bool b) = .returned (.bool a):=by rw[h]
theorem qE {B:Nat} {a w:World} (h:Below B a w) (n:Nat):Below B a (w.drewN n):=h.trans ⟨rfl,rfl,rfl,Nat.le_refl _,fun _ _=>rfl⟩
def mP (s:ByteArray) (w:World) (e:Ending) (w':World):Prop:=
 e = .returned (.tuple #[.int .i64 (if 16384<s.size then (0,3) else ck s 0).1,.int .i64 (if 16384<s.size then ((0:Int),(3:Int)) else ck s 0).2])/\Below w.heap.size w w'
theorem zPh {s:ByteArray} {w w':World} (h:16384<s.size) (hb:Below w.heap.size w w'):mP s w (.returned (.tuple #[.int .i64 0,.int .i64 3])) w':=by
 unfold mP;exact⟨by simp only[if_pos h],hb⟩
theorem zT6 {s:ByteArray} {w w':World} {a b:Int} (h:¬16384<s.size) (hc:ck s 0=(a,b)) (hb:Below w.heap.size w w'):mP s w (.returned (.tuple #[.int .i64 a,.int .i64 b])) w':=by
 unfold mP;exact⟨by simp only[if_neg h,hc],hb⟩
def sY (b:Bool) (W:World) (e:Ending) (w':World):Prop:=e = .returned (.bool b)/\Below W.heap.size W w'
theorem zT7 {r c:Int} {f:Bool} (hc:cls r=c) (h:c=1\/((c=2\/r=39)/\f=false)):mst r f=true:=by
 unfold mst;rw[hc]
 rcases h with h | ⟨h,hf⟩
 ·simp[h]
 ·simp[h,hf]
theorem zWz {r c:Int} {f:Bool} (hc:cls r=c) (h:c≠1/\(f=true\/(c≠2/\r≠39))):mst r f=false:=by
 unfold mst;rw[hc];obtain⟨h1,h2⟩:=h
 rcases h2 with hf | ⟨h2,h3⟩
 ·simp[h1,hf]
 ·simp[h1,h2,h3]
end Go.Proofs.YtgeghilbikljcaaGreatDoor.B
namespace Go.Proofs.YtgeghilbikljcaaGreatDoor.B
open Go.RowKit
theorem jM (r:Int) (w:World):Calls Tryz.prog 92 #[.int .i32 r] w fun e w'=>e = .returned (.int .i64 (cls r))/\w=w':=by
 obtain⟨c,hc⟩:∃c,cls r=c:=⟨_,rfl⟩;obtain⟨b,hb⟩:∃b,Lib.validRune r=b:=⟨_,rfl⟩;have hb':b=true↔((0<=r/\r<55296)\/(57343<r/\r<=1114111)):=by rw[<- hb];simp[Lib.validRune]
 have cV:∀W,Calls Tryz.prog 132 #[.int .i32 r] W _:=fun W=>Tryz.utf8_ValidRune r W
 rw[hb] at cV;rw[hc];have HC:=Lib.hid hc;have HB:=Lib.hid hb';clear hc hb hb'
 cases b
 all_goals
  go_enter Tryz.func92,Tryz.ntmps92
  go_wp2_with (go_at_call 132;refine(cV _).mono ?_;rintro e w' ⟨rfl,rfl⟩)
  all_goals go_ret
  all_goals
   refine⟨zXg (HC.out.symm.trans (zMk r _ ?_)),rfl⟩;have hB:=HB.out;simp only[beq_iff_eq,beq_eq_false_iff_ne,ne_eq,and_true,Bool.false_eq_true,false_iff,true_iff] at *;omega
theorem aQ (r:Int) (w:World):Calls Tryz.prog 89 #[.int .i32 r] w fun e w'=>e = .returned (.bool (rdb r))/\w=w':=by
 obtain⟨c,hc⟩:∃c,rdb r=c:=⟨_,rfl⟩;have cC:∀W,Calls Tryz.prog 92 #[.int .i32 r] W _:=fun W=>jM r W
 have h3:=zWx r;obtain⟨k,hk⟩:∃k,cls r=k:=⟨_,rfl⟩;rw[hk] at cC h3;rw[hc];have HC:=Lib.hid hc;have H3:=Lib.hid h3;clear hc hk h3
 go_enter Tryz.func89,Tryz.ntmps89
 go_wp2_with (go_at_call 92;refine(cC _).mono ?_;rintro e w' ⟨rfl,rfl⟩)
 all_goals go_ret
 all_goals
  refine⟨jS (HC.out.symm.trans (zMl r _ ?_)),rfl⟩;have h3:=H3.out;simp only[beq_iff_eq,beq_eq_false_iff_ne,ne_eq,Bool.false_eq_true,false_iff,true_iff] at *;omega
theorem zV0 (s:ByteArray) (w:World) (hs:s.size<=1000000000) :
  Calls Tryz.prog 55 #[.string s] w (mP s w):=by
 by_cases hbig:16384<s.size
 ·have hz:(16384:Int)<(s.size:Int):=by omega
  go_enter Tryz.func55,Tryz.ntmps55
  go_wp2
  go_ret2
  exact zPh hbig (Below.refl _ _)
 ·have hz:¬(16384:Int)<(s.size:Int):=by omega
  go_enter Tryz.func55,Tryz.ntmps55
  go_wp2
  go_loopw [] (fun wr=>∃p:Nat,wr.heap[w.heap.size]? = some (.stringIter s p)/\Below w.heap.size w wr/\ck s p=ck s 0) (fun wr=>s.size-wr.iterPos w.heap.size)
  case atStart=>exact⟨0,World.iter_heap w s 0,(Below.refl _ _).alloc (Nat.le_refl _) _,rfl⟩
  case round=>
   obtain⟨p,hit,hbw,hc⟩:=hrel;have HC:=Lib.hid hc;clear hc;have hpos0:=iterPos_of hit
   by_cases hlt:p<s.size
   ·have hnx:∀ty,(Instr.next (.pointer (some ⟨w.heap.size,0,none⟩)) true ty).run Tryz.prog wr=_:=fun ty=>Lib.run_next_any_at wr w.heap.size s p ty hit hlt
    have hw1:=kN s p;have hit2:=Lib.iterAt_heap wr w.heap.size s p (p+(dc s p).2) hit;have hbw2:=Lib.below_iterAt hbw (k:=w.heap.size) (Nat.le_refl _) s (p+(dc s p).2);have HS:=Lib.hid (zXb (s:=s) hlt);have HN:=Lib.hid (aI (s:=s) hlt);obtain⟨r,k,hrk⟩:∃r k,dc s p=(r,k):=⟨_,_,rfl⟩;rw[show Utf8.decode s p=(r,k) from hrk] at hnx;rw[hrk] at hw1 hit2 hbw2 HS HN
    dsimp only at hw1 hit2 hbw2 HS HN hnx
    clear hrk;obtain⟨W1,hW1⟩:∃W1,W1=wr.iterAt w.heap.size s (p+k):=⟨_,rfl⟩;rw[<- hW1] at hnx hit2 hbw2;have hpos2:=iterPos_of hit2;have HP0:=Lib.hid hpos0;have HP2:=Lib.hid hpos2;clear hW1 hpos0 hpos2 hit hbw;have cR:∀W,Calls Tryz.prog 89 #[.int .i32 r] W _:=fun W=>aQ r W
    obtain⟨b,hb⟩:∃b,rdb r=b:=⟨_,rfl⟩;rw[hb] at cR;have HB:=Lib.hid hb;clear hb
    cases b
    ·go_wp2_with (go_at_call 89;refine(cR _).mono ?_;rintro e w' ⟨rfl,rfl⟩)
     go_ret2
     exact zT6 hbig (by rw[<- HC.out];exact HS.out HB.out) hbw2
    ·go_wp2_with (go_at_call 89;refine(cR _).mono ?_;rintro e w' ⟨rfl,rfl⟩)
     go_roundw
     case rel=>exact⟨p+k,hit2,hbw2,by rw[<- HN.out HB.out];exact HC.out⟩
     case measure=>rw[HP0.out,HP2.out];omega
   ·have hnx:∀ty,(Instr.next (.pointer (some ⟨w.heap.size,0,none⟩)) true ty).run Tryz.prog wr=_:=fun ty=>Lib.run_next_end_at wr w.heap.size s p ty hit hlt
    have HE:=Lib.hid (zZd hlt);clear hpos0
    go_wp2
    go_ret2
    exact zT6 hbig (by rw[<- HC.out];exact HE.out) hbw
theorem aR (r:Int) (b:Bool) (w:World) :
  Calls Tryz.prog 173 #[.int .i32 r,.bool b] w fun e w'=>e = .returned (.bool (mst r b))/\w=w':=by
 have cC:∀W,Calls Tryz.prog 92 #[.int .i32 r] W _:=fun W=>jM r W
 obtain⟨k,hk⟩:∃k,cls r=k:=⟨_,rfl⟩;rw[hk] at cC;have HT:Hid (∀f,(k=1\/((k=2\/r=39)/\f=false))->mst r f=true):=Lib.hid fun f h=>zT7 hk h
 have HF:Hid (∀f,(k≠1/\(f=true\/(k≠2/\r≠39)))->mst r f=false):=Lib.hid fun f h=>zWz hk h
 clear hk;obtain⟨c,hc⟩:∃c,mst r b=c:=⟨_,rfl⟩;rw[hc];have HC:=Lib.hid hc;clear hc
 cases b
 all_goals
  go_enter Tryz.func173,Tryz.ntmps173
  go_wp2_with (go_at_call 92;refine(cC _).mono ?_;rintro e w' ⟨rfl,rfl⟩)
  all_goals go_ret
  all_goals
   refine⟨jS (HC.out.symm.trans ?_),rfl⟩
   first
    | exact HT.out _ (by simp only[beq_iff_eq,beq_eq_false_iff_ne,ne_eq,and_true] at *;omega)
    | exact HF.out _ (by simp only[beq_iff_eq,beq_eq_false_iff_ne,ne_eq,true_or,and_true] at *;omega)
    | trace_state
theorem iS (s:ByteArray) (w:World) (hs:s.size<=1000000000) :
  Calls Tryz.prog 151 #[.string s] w (sY (nm s) w):=by
 obtain⟨ANS,hans⟩:∃b,nm s=b:=⟨_,rfl⟩;rw[hans]
 by_cases hsz:1<=s.size/\s.size<=32
 ·have HA:=Lib.hid (hans.symm.trans (nm_of hsz))
  clear hans;obtain⟨h1,h2⟩:=hsz;have hz2:¬(32:Int)<(s.size:Int):=by omega
  have hne:¬s.toList=[]:=by
   intro e;have h3:=Lib.size_eq s;rw[<- Lib.toList_data,e] at h3;have h4:([]:List UInt8).length=0:=rfl;omega
  have hne2:s.toList.isEmpty=false:=by cases h:s.toList with
   | nil=>exact absurd h hne
   | cons a t=>rfl
  go_enter Tryz.func151,Tryz.ntmps151
  go_wp2
  have hit0:(w.iter s 0).heap[w.heap.size]? = some (.stringIter s 0):=World.iter_heap w s 0;have hbi:Below w.heap.size w (w.iter s 0):=(Below.refl _ _).alloc (Nat.le_refl _) _
  generalize w.iter s 0=wq at hit0 hbi ⊢
  go_loopw [] (fun wr=>∃(p:Nat),wr.heap[w.heap.size]? = some (.stringIter s p)/\Below w.heap.size w wr/\p<=s.size/\nmF s p=nmF s 0) (fun wr=>s.size-wr.iterPos w.heap.size)
  case atStart=>exact⟨0,hit0,hbi,Nat.zero_le _,rfl⟩
  case round=>
   obtain⟨p,hit,hbw,hp,hct⟩:=hrel;have HC:=Lib.hid hct;clear hct hit0 hbi;have hpos0:=iterPos_of hit
   by_cases hlt:p<s.size
   ·have hnx:∀ty,(Instr.next (.pointer (some ⟨w.heap.size,0,none⟩)) true ty).run Tryz.prog wr=_:=fun ty=>Lib.run_next_any_at wr w.heap.size s p ty hit hlt
    have hw1:=kN s p;have hw2:=iP s p hlt;have hit2:=Lib.iterAt_heap wr w.heap.size s p (p+(dc s p).2) hit;have hbw2:=Lib.below_iterAt hbw (k:=w.heap.size) (Nat.le_refl _) s (p+(dc s p).2);have HS:=Lib.hid (fV (s:=s) hlt);have HN:=Lib.hid (pN (s:=s) hlt);obtain⟨r,k,hrk⟩:∃r k,dc s p=(r,k):=⟨_,_,rfl⟩;rw[show Utf8.decode s p=(r,k) from hrk] at hnx;rw[hrk] at hw1 hw2 hit2 hbw2 HS HN
    dsimp only at hw1 hw2 hit2 hbw2 HS HN hnx
    clear hrk;obtain⟨W1,hW1⟩:∃W1,W1=wr.iterAt w.heap.size s (p+k):=⟨_,rfl⟩;rw[<- hW1] at hnx hit2 hbw2;have hpos2:=iterPos_of hit2;have HP0:=Lib.hid hpos0;have HP2:=Lib.hid hpos2;have HIT:=Lib.hid hit2;clear hW1 hpos0 hpos2 hit hbw hit2;obtain⟨f0,hf0⟩:∃f0,decide (p=0)=f0:=⟨_,rfl⟩;rw[hf0] at HS HN;have hf:((p:Int)==0)=f0:=by
     rw[<- hf0,Bool.eq_iff_iff,beq_iff_eq,decide_eq_true_eq];omega
    clear hf0;have cR:∀W,Calls Tryz.prog 173 #[.int .i32 r,.bool f0] W _:=fun W=>aR r f0 W
    obtain⟨b,hb⟩:∃b,mst r f0=b:=⟨_,rfl⟩;rw[hb] at cR;have HB:=Lib.hid hb;clear hb
    cases b
    ·go_wp2_with (go_at_call 173;refine(cR _).mono ?_;rintro e w' ⟨rfl,rfl⟩)
     go_ret
     exact⟨jS (by rw[HA.out,<- HC.out];exact HS.out HB.out),hbw2⟩
    ·go_wp2_with (go_at_call 173;refine(cR _).mono ?_;rintro e w' ⟨rfl,rfl⟩)
     go_roundw
     case rel=>exact⟨p+k,HIT.out,hbw2,hw2,by rw[<- HN.out HB.out];exact HC.out⟩
     case measure=>rw[HP0.out,HP2.out];omega
   ·have hnx:∀ty,(Instr.next (.pointer (some ⟨w.heap.size,0,none⟩)) true ty).run Tryz.prog wr=_:=fun ty=>Lib.run_next_end_at wr w.heap.size s p ty hit hlt
    have HE:=Lib.hid (zZe hlt);clear hpos0
    go_wp2
    go_ret
    exact⟨jS (by rw[HA.out,<- HC.out];exact HE.out),hbw⟩
 ·have HA:=Lib.hid (hans.symm.trans (zPc hsz))
  clear hans
  rcases(show s.size=0\/(1<=s.size/\32<s.size) by omega) with h0 | ⟨h1,h2⟩
  ·have hne:s.toList=[]:=by
    rw[Lib.toList_data];exact List.eq_nil_of_length_eq_zero (by rw[<- Lib.size_eq];exact h0)
   have hne2:s.toList.isEmpty=true:=by rw[hne];rfl
   clear h0 hsz
   go_enter Tryz.func151,Tryz.ntmps151
   go_wp2
   go_ret
   exact⟨jS HA.out,Below.refl _ _⟩
  ·have hne:¬s.toList=[]:=by
    intro e;have h3:=Lib.size_eq s;rw[<- Lib.toList_data,e] at h3;have h4:([]:List UInt8).length=0:=rfl;omega
   have hne2:s.toList.isEmpty=false:=by cases h:s.toList with
    | nil=>exact absurd h hne
    | cons a t=>rfl
   have hz2:(32:Int)<(s.size:Int):=by omega
   clear hsz
   go_enter Tryz.func151,Tryz.ntmps151
   go_wp2
   go_ret
   exact⟨jS HA.out,Below.refl _ _⟩
end Go.Proofs.YtgeghilbikljcaaGreatDoor.B
namespace Go.Proofs.YtgeghilbikljcaaGreatDoor.B
open Go.Lib
def rn (f:Nat->Bool) (s:ByteArray) (p:Nat):Nat:=jP s (fun(_:Unit) p=>if f (dc s p).1 then none else some p) (fun u _=>u) (fun _=>s.size) () p
theorem aU {f:Nat->Bool} {s:ByteArray} {p:Nat} (h:¬p<s.size):rn f s p=s.size:=wO h
theorem pO {f:Nat->Bool} {s:ByteArray} {p:Nat} (h:p<s.size) (e:f (dc s p).1=false):rn f s p=p:=xZ h (by simp[e])
theorem pP {f:Nat->Bool} {s:ByteArray} {p:Nat} (h:p<s.size) (e:f (dc s p).1=true):rn f s p=rn f s (p+(dc s p).2):=vA h (by simp[e])
theorem zT8 (a:List Nat) (r:Nat) (t:List Nat):a++r::t=(a++[r])++t/\sz a+wd r=sz (a++[r]):=by
 refine⟨by simp,?_⟩;rw[sz_app,zG,yT,Nat.add_zero]
theorem zMp (a:List Nat) (r:Nat) (t:List Nat):sz a<(T (a++r::t)).size:=by
 have:=sV r;rw[qO,sz_app,zG];omega
theorem rn_T (f:Nat->Bool):∀(b a:List Nat),okl b->rn f (T (a++b)) (sz a)=sz a+sz (b.take (cnt f b)):=by
 intro b
 induction b with
 | nil=>
  intro a _;rw[List.append_nil,aU (by rw[qO];omega),qO]
  simp[cnt,yT]
 | cons r t ih=>
  intro a h;obtain⟨h1,h2⟩:=yS.1 h;obtain⟨e1,e2⟩:=zT8 a r t;have hlt:=zMp a r t;have k:=ih (a++[r]) h2;rw[<- e1,<- e2] at k
  cases hf:f r
  ·rw[pO hlt (by rw[rX a h1 t];exact hf)]
   simp[cnt,hf,yT]
  ·rw[pP hlt (by rw[rX a h1 t];exact hf),rX a h1 t]
   show rn f _ (sz a+wd r)=_
   rw[k];simp only[cnt,hf,if_true,List.take_succ_cons,zG];omega
theorem iT (f:Nat->Bool) {b:List Nat} (h:okl b):rn f (T b) 0=sz (b.take (cnt f b)):=by
 have:=rn_T f b [] h;rw[List.nil_append,yT,Nat.zero_add] at this;exact this
def cstep (st:Int×Nat) (r:Nat):Int×Nat:=if st.2=40/\r=42 then (st.1+1,32) else if st.2=42/\r=41 then (st.1-1,32) else (st.1,r)
def chit (st:Int×Nat) (r:Nat):Bool:=decide (((st.2=40/\r=42)\/(st.2=42/\r=41))/\(cstep st r).1=0)
def cmp (s:ByteArray) (st:Int×Nat) (p:Nat):Nat:=jP s (fun(st:Int×Nat) p=>if chit st (dc s p).1 then some (p+1) else none) (fun st p=>cstep st (dc s p).1) (fun _=>0) st p
theorem zXh {s:ByteArray} {st:Int×Nat} {p:Nat} (h:¬p<s.size):cmp s st p=0:=wO h
theorem iU {s:ByteArray} {st:Int×Nat} {p:Nat} (h:p<s.size) (e:chit st (dc s p).1=true):cmp s st p=p+1:=xZ h (by simp[e])
theorem iV {s:ByteArray} {st:Int×Nat} {p:Nat} (h:p<s.size) (e:chit st (dc s p).1=false):cmp s st p=cmp s (cstep st (dc s p).1) (p+(dc s p).2):=vA h (by simp[e])
theorem cm_T:∀(b a:List Nat) (d:Int) (last:Nat),okl b->cmp (T (a++b)) (d,last) (sz a)=(match cm d last b with | none=>0 | some k=>sz a+sz (b.take k)):=by
 intro b
 induction b with
 | nil=>
  intro a d last _;rw[List.append_nil,zXh (by rw[qO];omega)]
  rfl
 | cons r t ih=>
  intro a d last h;obtain⟨h1,h2⟩:=yS.1 h;obtain⟨e1,e2⟩:=zT8 a r t;have hlt:=zMp a r t;have key:∀d' last',chit (d,last) r=false->cstep (d,last) r=(d',last')->cmp (T (a++r::t)) (d,last) (sz a)=(match (cm d' last' t).map (· + 1) with | none=>0 | some k=>sz a+sz ((r::t).take k)):=by
   intro d' last' hc hs;rw[iV hlt (by rw[rX a h1 t];exact hc),rX a h1 t]
   show cmp _ (cstep (d,last) r) (sz a+wd r)=_
   rw[hs];have k:=ih (a++[r]) d' last' h2;rw[<- e1,<- e2] at k;rw[k]
   cases cm d' last' t with
   | none=>rfl
   | some j=>
    show _=sz a+sz ((r::t).take (j+1))
    rw[List.take_succ_cons,zG];simp only;omega
  have stop:chit (d,last) r=true->r<128->cmp (T (a++r::t)) (d,last) (sz a)=sz a+sz ((r::t).take 1):=by
   intro hc hr;rw[iU hlt (by rw[rX a h1 t];exact hc)];have:=(yH hr).1;rw[List.take_succ_cons,List.take_zero,zG,yT,this]
  unfold cm
  by_cases c1:last=40/\r=42
  ·have hs:cstep (d,last) r=(d+1,32):=by unfold cstep;rw[if_pos c1]
   rw[if_pos c1]
   by_cases hd:d+1=0
   ·rw[if_pos hd]
    exact stop (by unfold chit;rw[hs];simp[c1,hd]) (by omega)
   ·rw[if_neg hd]
    exact key _ _ (by unfold chit;rw[hs];simp[hd]) hs
  ·rw[if_neg c1]
   by_cases c2:last=42/\r=41
   ·have hs:cstep (d,last) r=(d-1,32):=by unfold cstep;rw[if_neg c1,if_pos c2]
    rw[if_pos c2]
    by_cases hd:d-1=0
    ·rw[if_pos hd]
     exact stop (by unfold chit;rw[hs];simp[c2,hd]) (by omega)
    ·rw[if_neg hd]
     exact key _ _ (by unfold chit;rw[hs];simp[hd]) hs
   ·have hs:cstep (d,last) r=(d,r):=by unfold cstep;rw[if_neg c1,if_neg c2]
    rw[if_neg c2];refine key _ _ ?_ hs;unfold chit;rw[decide_eq_false_iff_not];rintro⟨h | h,_⟩
    ·exact c1 h
    ·exact c2 h
def cmb (s:ByteArray):Nat:=if hasPrefix s.data.toList [40,42] then cmp s (0,32) 0 else 0
theorem zXi {l:List Nat} (h:okl l):hasPrefix (enc l) [40,42]=opens l:=zXe (p:=[40,42]) (by decide) h
theorem cmb_T {l:List Nat} (h:okl l):cmb (T l)=sz (l.take (cmt l)):=by
 unfold cmb cmt;rw[yL,zXi h]
 cases ho:opens l
 ·simp[yT]
 ·have k:=cm_T l [] 0 32 h
  rw[List.nil_append,yT] at k;simp only[if_true];rw[k]
  cases cm 0 32 l with
  | none=>simp[yT]
  | some j=>simp
end Go.Proofs.YtgeghilbikljcaaGreatDoor.B
