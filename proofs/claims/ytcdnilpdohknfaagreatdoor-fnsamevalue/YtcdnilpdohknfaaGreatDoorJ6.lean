import Derived.Shelf.Unicode.ValidAny
import Derived.Shelf.Strings.OnBuilder
import Derived.Shelf.Strings.Trim
import Derived.Shelf.Small.Utf8
import Derived.Shelf.Small.Wraps
import Derived.Shelf.Utf8.RuneCount
import Derived.Shelf.LaysM
import Derived.Shelf.Strconv.Itoa4
import Derived.Shelf.Strings.Search1
import Derived.Shelf.Strings.Search3
import Derived.Shelf.Strings.Cut
import Derived.Shelf.Strings.Shaped
import Derived.Shelf.Strings.Prefix
import Derived.Shelf.Strings.Runes
import Derived.Shelf.Strings.Repeat
import Derived.Shelf.Strings.FieldsFuncGrows
import Derived.Test.YtcdnilpdohknfaaGreatDoorProg
import Derived.Test.YtcdnilpdohknfaaGreatDoorJ4
import Derived.Laws.BytesArg
import Derived.Lib.AppendIntMem
import Derived.Test.YtcdnilpdohknfaaGreatDoorJ3
import Derived.Laws.Closers25
import Derived.Test.YtcdnilpdohknfaaGreatDoorJ5
set_option linter.unusedVariables false
set_option linter.unusedSimpArgs false
set_option maxRecDepth 100000
set_option maxHeartbeats 16000000
namespace Go.Proofs.YtcdnilpdohknfaaGreatDoor
open Tryz
section
open Go.Shelf
def ZEN:Go.Shelf.Ren:=⟨λ|156=>39|165=>67|166=>68|169=>69|240=>117|241=>118|276=>152|277=>153|n=>n,λ|31=>31|9=>9|3=>3|4=>4|0=>0|20=>20|72=>112|76=>116|70=>110|37=>22|75=>115|127=>145|164=>179|5=>5|80=>46|n=>n,λ|n=>n⟩
theorem ZEM:Go.Proofs.Lays.n156 prog ZEN:={
 mixed:=by kernel_rfl
 f156:=func39.trans (Zn some (by kernel_rfl))
 f165:=func67.trans (Zn some (by kernel_rfl))
 f166:=func68.trans (Zn some (by kernel_rfl))
 f169:=func69.trans (Zn some (by kernel_rfl))
 f240:=func117.trans (Zn some (by kernel_rfl))
 f241:=func118.trans (Zn some (by kernel_rfl))
 f276:=func152.trans (Zn some (by kernel_rfl))
 f277:=func153.trans (Zn some (by kernel_rfl))
 t0:=underlying0
 a0:=isAgg0
 z0:=sizeOf0
 v0:=zeroValue0
 t3:=underlying3
 a3:=isAgg3
 z3:=sizeOf3
 v3:=zeroValue3
 t4:=underlying4
 a4:=isAgg4
 z4:=sizeOf4
 v4:=zeroValue4
 t9:=underlying9
 a9:=isAgg9
 z9:=sizeOf9
 v9:=zeroValue9
 t20:=underlying20
 a20:=isAgg20
 z20:=sizeOf20
 v20:=zeroValue20
 t31:=underlying31
 a31:=isAgg31
 z31:=sizeOf31
 v31:=zeroValue31
 t37:=underlying22
 a37:=isAgg22
 z37:=sizeOf22
 v37:=zeroValue22
 t70:=underlying110
 a70:=isAgg110
 z70:=sizeOf110
 v70:=zeroValue110
 t72:=underlying112
 a72:=isAgg112
 z72:=sizeOf112
 v72:=zeroValue112
 t75:=underlying115
 a75:=isAgg115
 z75:=sizeOf115
 v75:=zeroValue115
 t76:=underlying116
 a76:=isAgg116
 z76:=sizeOf116
 v76:=zeroValue116
 t127:=underlying145
 a127:=isAgg145
 z127:=sizeOf145
 v127:=zeroValue145
 t164:=underlying179
 a164:=isAgg179
 z164:=sizeOf179
 v164:=zeroValue179 }
theorem ZEf:Builder.Extra prog ZEN:={
 sizeBuilder:=by kernel_rfl
 liesBuilder:=by kernel_rfl
 t5:=underlying5
 a5:=isAgg5
 z5:=sizeOf5
 v5:=zeroValue5
 infoByte:=by kernel_rfl
 cellsByte:=by kernel_rfl
 sizeByte:=by kernel_rfl
 neB5:=by decide }
open Go.RowKit in
theorem ZE6(bk o c:Nat)(xs:List ZB)(sep:ZB)(w:World)(hcells:∀(j:Nat) x,xs[j]?=some x->w.cell? ⟨bk,o+j,none⟩=some (.string x))(hbk:bk<w.heap.size)(hN:xs.length<=140737488355328)(hcap:xs.length<=c)(hlen:(Lib.join (xs.map (·.data.toList)) sep.data.toList).length<=140737488355328):
  Calls prog 39 #[.slice (some ⟨bk,o,none⟩) xs.length c,.string sep] w λe w'=>e=.returned (.string ⟨(Lib.join (xs.map (·.data.toList)) sep.data.toList).toArray⟩)/\ZL w w':=Any.strings_Join ZEM ZEf bk o c xs sep w hcells hbk hN hcap hlen
def ZEP:Go.Shelf.Ren:=⟨λ|161=>201|231=>239|227=>240|233=>241|235=>242|228=>272|197=>273|151=>72|260=>288|152=>119|137=>154|119=>155|224=>156|225=>157|217=>197|266=>237|n=>n,λ|9=>9|4=>4|3=>3|5=>5|117=>261|116=>260|0=>0|124=>264|105=>276|21=>21|119=>172|46=>125|139=>187|138=>186|n=>n,λ|3=>0|4=>1|n=>n⟩
theorem ZEO:Go.Proofs.Lays.n161 prog ZEP:={
 mixed:=by kernel_rfl
 f119:=func155.trans (Zn some (by kernel_rfl))
 f137:=func154.trans (Zn some (by kernel_rfl))
 f151:=func72.trans (Zn some (by kernel_rfl))
 f152:=func119.trans (Zn some (by kernel_rfl))
 f161:=func201.trans (Zn some (by kernel_rfl))
 f197:=func273.trans (Zn some (by kernel_rfl))
 f217:=func197.trans (Zn some (by kernel_rfl))
 f224:=func156.trans (Zn some (by kernel_rfl))
 f225:=func157.trans (Zn some (by kernel_rfl))
 f227:=func240.trans (Zn some (by kernel_rfl))
 f228:=func272.trans (Zn some (by kernel_rfl))
 f231:=func239.trans (Zn some (by kernel_rfl))
 f233:=func241.trans (Zn some (by kernel_rfl))
 f235:=func242.trans (Zn some (by kernel_rfl))
 f260:=func288.trans (Zn some (by kernel_rfl))
 f266:=func237.trans (Zn some (by kernel_rfl))
 t0:=underlying0
 a0:=isAgg0
 z0:=sizeOf0
 v0:=zeroValue0
 t3:=underlying3
 a3:=isAgg3
 z3:=sizeOf3
 v3:=zeroValue3
 t4:=underlying4
 a4:=isAgg4
 z4:=sizeOf4
 v4:=zeroValue4
 t5:=underlying5
 a5:=isAgg5
 z5:=sizeOf5
 v5:=zeroValue5
 t9:=underlying9
 a9:=isAgg9
 z9:=sizeOf9
 v9:=zeroValue9
 t21:=underlying21
 a21:=isAgg21
 z21:=sizeOf21
 v21:=zeroValue21
 t46:=underlying125
 a46:=isAgg125
 z46:=sizeOf125
 v46:=zeroValue125
 t105:=underlying276
 a105:=isAgg276
 z105:=sizeOf276
 v105:=zeroValue276
 t116:=underlying260
 a116:=isAgg260
 z116:=sizeOf260
 t117:=underlying261
 a117:=isAgg261
 z117:=sizeOf261
 v117:=zeroValue261
 t119:=underlying172
 a119:=isAgg172
 z119:=sizeOf172
 t124:=underlying264
 a124:=isAgg264
 z124:=sizeOf264
 v124:=zeroValue264
 t138:=underlying186
 a138:=isAgg186
 z138:=sizeOf186
 v138:=zeroValue186
 t139:=underlying187
 a139:=isAgg187
 z139:=sizeOf187
 v139:=zeroValue187
 g3:=by kernel_rfl
 g4:=by kernel_rfl }
open Go.RowKit in
theorem ZE8(s:ZB)(c:UInt8)(hc:c.toNat<128)(w:World):
  Calls prog 201 #[.string s,.string ⟨#[c]⟩] w λe w'=>e=.returned (.string ⟨(Lib.trimLeftB s.data.toList c).toArray⟩)/\w'=w:=Any.strings_TrimLeft_one ZEO s c hc w
def ZED:Go.Shelf.Ren:=⟨λ|119=>155|n=>n,λ|21=>21|4=>4|n=>n,λ|n=>n⟩
theorem ZEC:Go.Proofs.Lays.n119 prog ZED:={
 mixed:=by kernel_rfl
 f119:=func155.trans (Zn some (by kernel_rfl))
 t4:=underlying4
 a4:=isAgg4
 z4:=sizeOf4
 v4:=zeroValue4
 t21:=underlying21
 a21:=isAgg21
 z21:=sizeOf21
 v21:=zeroValue21 }
theorem ZFc(r:Int)(w:World):
  Calls prog 155 #[.int .i32 r] w λe w'=>e=.returned (.bool (Lib.validRune r))/\w'=w:=Any.utf8_ValidRune ZEC r w
def ZEF:Go.Shelf.Ren:=⟨λ|137=>154|217=>197|266=>237|n=>n,λ|9=>9|5=>5|3=>3|n=>n,λ|n=>n⟩
theorem ZEE:Go.Proofs.Lays.n137 prog ZEF:={
 mixed:=by kernel_rfl
 f137:=func154.trans (Zn some (by kernel_rfl))
 f217:=func197.trans (Zn some (by kernel_rfl))
 f266:=func237.trans (Zn some (by kernel_rfl))
 t3:=underlying3
 a3:=isAgg3
 z3:=sizeOf3
 v3:=zeroValue3
 t5:=underlying5
 a5:=isAgg5
 z5:=sizeOf5
 v5:=zeroValue5
 t9:=underlying9
 a9:=isAgg9
 z9:=sizeOf9
 v9:=zeroValue9 }
open Go.RowKit in
theorem ZE5(s:ZB)(c:Int)(w:World):
  Calls prog 154 #[.string s,.int .u8 c] w λe w'=>e=.returned (I (Lib.indexByte s.data.toList c.toNat.toUInt8))/\w'=w:=Any.strings_IndexByte ZEE s c w
def ZEz:Go.Shelf.Ren:=⟨λ|103=>159|210=>198|206=>238|n=>n,λ|9=>9|4=>4|24=>27|3=>3|n=>n,λ|n=>n⟩
theorem ZEy:Go.Proofs.Lays.n103 prog ZEz:={
 mixed:=by kernel_rfl
 f103:=func159.trans (Zn some (by kernel_rfl))
 f206:=func238.trans (Zn some (by kernel_rfl))
 f210:=func198.trans (Zn some (by kernel_rfl))
 t3:=underlying3
 a3:=isAgg3
 z3:=sizeOf3
 v3:=zeroValue3
 t4:=underlying4
 a4:=isAgg4
 z4:=sizeOf4
 v4:=zeroValue4
 t9:=underlying9
 a9:=isAgg9
 z9:=sizeOf9
 v9:=zeroValue9
 t24:=underlying27
 a24:=isAgg27
 z24:=sizeOf27
 v24:=zeroValue27 }
open Go.RowKit in
theorem ZE2(s p:ZB)(w:World):
  Calls prog 159 #[.string s,.string p] w λe w'=>e=.returned (.tuple #[.string ⟨(Lib.trimPrefix s.data.toList p.data.toList).toArray⟩,.bool (Lib.hasPrefix s.data.toList p.data.toList)])/\w'=w:=Any.strings_CutPrefix ZEy s p w
def ZER:Go.Shelf.Ren:=⟨λ|195=>127|n=>n,λ|9=>9|3=>3|0=>0|4=>4|n=>n,λ|n=>n⟩
theorem ZEQ:Go.Proofs.Lays.n195 prog ZER:={
 mixed:=by kernel_rfl
 f195:=func127.trans (Zn some (by kernel_rfl))
 t0:=underlying0
 a0:=isAgg0
 z0:=sizeOf0
 v0:=zeroValue0
 t3:=underlying3
 a3:=isAgg3
 z3:=sizeOf3
 v3:=zeroValue3
 t4:=underlying4
 a4:=isAgg4
 z4:=sizeOf4
 v4:=zeroValue4
 t9:=underlying9
 a9:=isAgg9
 z9:=sizeOf9
 v9:=zeroValue9 }
open Go.RowKit in
theorem ZFb(s:ZB)(w:World)(hs:s.size<9223372036854775807):
  Calls prog 127 #[.string s] w λe w'=>e=.returned (I (Lib.runeCount s))/\∃pos,w'=w.iter s pos:=Any.utf8_RuneCountInString ZEQ s w hs
def ZEV:Go.Shelf.Ren:=⟨λ|173=>210|246=>249|283=>275|284=>276|285=>277|286=>278|129=>290|317=>289|318=>291|319=>292|320=>293|337=>297|338=>298|n=>n,λ|2=>2|3=>3|9=>9|4=>4|171=>279|0=>0|53=>123|37=>22|5=>5|173=>282|212=>287|51=>96|20=>20|213=>288|46=>125|232=>296|233=>297|n=>n,λ|17=>4|18=>5|19=>6|n=>n⟩
theorem ZEU:Go.Proofs.LaysM.n173 prog ZEV:={
 mixed:=by kernel_rfl
 f129:=func290.trans (Zn some (by kernel_rfl))
 f173:=func210.trans (Zn some (by kernel_rfl))
 f246:=func249.trans (Zn some (by kernel_rfl))
 f283:=func275.trans (Zn some (by kernel_rfl))
 f284:=func276.trans (Zn some (by kernel_rfl))
 f285:=func277.trans (Zn some (by kernel_rfl))
 f286:=func278.trans (Zn some (by kernel_rfl))
 f317:=func289.trans (Zn some (by kernel_rfl))
 f318:=func291.trans (Zn some (by kernel_rfl))
 f319:=func292.trans (Zn some (by kernel_rfl))
 f320:=func293.trans (Zn some (by kernel_rfl))
 f337:=func297.trans (Zn some (by kernel_rfl))
 f338:=func298.trans (Zn some (by kernel_rfl))
 t0:=underlying0
 a0:=isAgg0
 z0:=sizeOf0
 v0:=zeroValue0
 t2:=underlying2
 a2:=isAgg2
 z2:=sizeOf2
 v2:=zeroValue2
 t3:=underlying3
 a3:=isAgg3
 z3:=sizeOf3
 v3:=zeroValue3
 t4:=underlying4
 a4:=isAgg4
 z4:=sizeOf4
 v4:=zeroValue4
 t5:=underlying5
 a5:=isAgg5
 z5:=sizeOf5
 v5:=zeroValue5
 t9:=underlying9
 a9:=isAgg9
 z9:=sizeOf9
 v9:=zeroValue9
 t20:=underlying20
 a20:=isAgg20
 z20:=sizeOf20
 v20:=zeroValue20
 t37:=underlying22
 a37:=isAgg22
 z37:=sizeOf22
 v37:=zeroValue22
 t46:=underlying125
 a46:=isAgg125
 z46:=sizeOf125
 v46:=zeroValue125
 t51:=underlying96
 a51:=isAgg96
 z51:=sizeOf96
 v51:=zeroValue96
 t53:=underlying123
 a53:=isAgg123
 z53:=sizeOf123
 v53:=zeroValue123
 t171:=underlying279
 a171:=isAgg279
 z171:=sizeOf279
 v171:=zeroValue279
 t173:=underlying282
 a173:=isAgg282
 z173:=sizeOf282
 v173:=zeroValue282
 t212:=underlying287
 a212:=isAgg287
 z212:=sizeOf287
 v212:=zeroValue287
 t213:=underlying288
 a213:=isAgg288
 z213:=sizeOf288
 t232:=underlying296
 a232:=isAgg296
 z232:=sizeOf296
 v232:=zeroValue296
 t233:=underlying297
 a233:=isAgg297
 z233:=sizeOf297
 v233:=zeroValue297
 g17:=by kernel_rfl
 g18:=by kernel_rfl
 g19:=by kernel_rfl
 i0:=by kernel_rfl
 i2:=by kernel_rfl
 i3:=by kernel_rfl
 i4:=by kernel_rfl
 i5:=by kernel_rfl
 i9:=by kernel_rfl
 i20:=by kernel_rfl
 i37:=by kernel_rfl
 i46:=by kernel_rfl
 i51:=by kernel_rfl
 i53:=by kernel_rfl
 i171:=by kernel_rfl
 i173:=by kernel_rfl
 i212:=by kernel_rfl
 i232:=by kernel_rfl
 i233:=by kernel_rfl
 m17:=by kernel_rfl
 m18:=by kernel_rfl
 m19:=by kernel_rfl }
open Go.RowKit Go.Sort Go.Lib in
theorem ZEY(n:Int)(h0 : -9223372036854775808<=n)(h1:n<=9223372036854775807)(w:World)(htab:Lib.TabIs prog w "internal/strconv.uint64pow10" .u64 Lib.pow10Tab):
  Calls prog 210 #[I n,I 10] w λe w'=>e=.returned (.string ⟨(Lib.itoa n).toArray⟩)/\∃k os,w'=grow (w.drewN k) os:=Any.strconv_FormatInt_10 ZEU n h0 h1 w htab
def ZEH:Go.Shelf.Ren:=⟨λ|144=>124|143=>166|219=>207|217=>197|225=>157|224=>156|267=>247|266=>237|314=>274|n=>n,λ|9=>9|4=>4|3=>3|5=>5|46=>125|146=>265|51=>96|n=>n,λ|1=>2|n=>n⟩
theorem ZEG:Go.Proofs.Lays.n144 prog ZEH:={
 mixed:=by kernel_rfl
 f143:=func166.trans (Zn some (by kernel_rfl))
 f144:=func124.trans (Zn some (by kernel_rfl))
 f217:=func197.trans (Zn some (by kernel_rfl))
 f219:=func207.trans (Zn some (by kernel_rfl))
 f224:=func156.trans (Zn some (by kernel_rfl))
 f225:=func157.trans (Zn some (by kernel_rfl))
 f266:=func237.trans (Zn some (by kernel_rfl))
 f267:=func247.trans (Zn some (by kernel_rfl))
 f314:=func274.trans (Zn some (by kernel_rfl))
 t3:=underlying3
 a3:=isAgg3
 z3:=sizeOf3
 v3:=zeroValue3
 t4:=underlying4
 a4:=isAgg4
 z4:=sizeOf4
 v4:=zeroValue4
 t5:=underlying5
 a5:=isAgg5
 z5:=sizeOf5
 v5:=zeroValue5
 t9:=underlying9
 a9:=isAgg9
 z9:=sizeOf9
 v9:=zeroValue9
 t46:=underlying125
 a46:=isAgg125
 z46:=sizeOf125
 v46:=zeroValue125
 t51:=underlying96
 a51:=isAgg96
 z51:=sizeOf96
 v51:=zeroValue96
 t146:=underlying265
 a146:=isAgg265
 z146:=sizeOf265
 v146:=zeroValue265
 g1:=by kernel_rfl }
open Go.RowKit Go.Lib in
theorem ZE0(s:ZB)(c:UInt8)(w:World):
  Calls prog 124 #[.string s,.string ⟨#[c]⟩] w λe w'=>e=.returned (.bool (decide (0<=Lib.indexByte s.data.toList c)))/\w'=w:=Any.strings_Contains_one ZEG s c w
def ZEJ:Go.Shelf.Ren:=⟨λ|145=>161|220=>200|219=>207|217=>197|225=>157|224=>156|267=>247|266=>237|314=>274|n=>n,λ|9=>9|4=>4|59=>190|3=>3|5=>5|46=>125|146=>265|51=>96|n=>n,λ|1=>2|n=>n⟩
theorem ZEI:Go.Proofs.Lays.n145 prog ZEJ:={
 mixed:=by kernel_rfl
 f145:=func161.trans (Zn some (by kernel_rfl))
 f217:=func197.trans (Zn some (by kernel_rfl))
 f219:=func207.trans (Zn some (by kernel_rfl))
 f220:=func200.trans (Zn some (by kernel_rfl))
 f224:=func156.trans (Zn some (by kernel_rfl))
 f225:=func157.trans (Zn some (by kernel_rfl))
 f266:=func237.trans (Zn some (by kernel_rfl))
 f267:=func247.trans (Zn some (by kernel_rfl))
 f314:=func274.trans (Zn some (by kernel_rfl))
 t3:=underlying3
 a3:=isAgg3
 z3:=sizeOf3
 v3:=zeroValue3
 t4:=underlying4
 a4:=isAgg4
 z4:=sizeOf4
 v4:=zeroValue4
 t5:=underlying5
 a5:=isAgg5
 z5:=sizeOf5
 v5:=zeroValue5
 t9:=underlying9
 a9:=isAgg9
 z9:=sizeOf9
 v9:=zeroValue9
 t46:=underlying125
 a46:=isAgg125
 z46:=sizeOf125
 v46:=zeroValue125
 t51:=underlying96
 a51:=isAgg96
 z51:=sizeOf96
 v51:=zeroValue96
 t59:=underlying190
 a59:=isAgg190
 z59:=sizeOf190
 v59:=zeroValue190
 t146:=underlying265
 a146:=isAgg265
 z146:=sizeOf265
 v146:=zeroValue265
 g1:=by kernel_rfl }
open Go.RowKit Go.Lib in
theorem ZE1(s sep:ZB)(m:Int)(w:World)(hs:s.size<4294967281)(hm:w.cell? ⟨2,0,none⟩=some (I m)):
  Calls prog 161 #[.string s,.string sep] w λe w'=>e=.returned (.tuple #[.string ⟨(Lib.cut s.data.toList sep.data.toList).1.toArray⟩,.string ⟨(Lib.cut s.data.toList sep.data.toList).2.1.toArray⟩,.bool (Lib.cut s.data.toList sep.data.toList).2.2])/\∃n,w'=w.drewN n:=Any.strings_Cut ZEI s sep m w hs hm
def ZEt:Go.Shelf.Ren:=⟨λ|100=>202|207=>243|n=>n,λ|9=>9|4=>4|3=>3|n=>n,λ|n=>n⟩
theorem ZEj:Go.Proofs.Lays.n100 prog ZEt:={
 mixed:=by kernel_rfl
 f100:=func202.trans (Zn some (by kernel_rfl))
 f207:=func243.trans (Zn some (by kernel_rfl))
 t3:=underlying3
 a3:=isAgg3
 z3:=sizeOf3
 v3:=zeroValue3
 t4:=underlying4
 a4:=isAgg4
 z4:=sizeOf4
 v4:=zeroValue4
 t9:=underlying9
 a9:=isAgg9
 z9:=sizeOf9
 v9:=zeroValue9 }
open Go.RowKit Go.Lib in
theorem ZE4(s p:ZB)(w:World)(hs:s.size<=9223372036854775807):
  Calls prog 202 #[.string s,.string p] w λe w'=>e=.returned (.bool (Lib.hasSuffix s.data.toList p.data.toList))/\w'=w:=Any.strings_HasSuffix ZEj s p w hs
def ZEv:Go.Shelf.Ren:=⟨λ|101=>160|208=>199|206=>238|n=>n,λ|9=>9|4=>4|3=>3|n=>n,λ|n=>n⟩
theorem ZEu:Go.Proofs.Lays.n101 prog ZEv:={
 mixed:=by kernel_rfl
 f101:=func160.trans (Zn some (by kernel_rfl))
 f206:=func238.trans (Zn some (by kernel_rfl))
 f208:=func199.trans (Zn some (by kernel_rfl))
 t3:=underlying3
 a3:=isAgg3
 z3:=sizeOf3
 v3:=zeroValue3
 t4:=underlying4
 a4:=isAgg4
 z4:=sizeOf4
 v4:=zeroValue4
 t9:=underlying9
 a9:=isAgg9
 z9:=sizeOf9
 v9:=zeroValue9 }
open Go.RowKit Go.Lib in
theorem ZE9(s p:ZB)(w:World):
  Calls prog 160 #[.string s,.string p] w λe w'=>e=.returned (.string ⟨(Lib.trimPrefix s.data.toList p.data.toList).toArray⟩)/\w'=w:=Any.strings_TrimPrefix ZEu s p w
def ZEx:Go.Shelf.Ren:=⟨λ|102=>203|209=>244|207=>243|n=>n,λ|9=>9|4=>4|3=>3|n=>n,λ|n=>n⟩
theorem ZEw:Go.Proofs.Lays.n102 prog ZEx:={
 mixed:=by kernel_rfl
 f102:=func203.trans (Zn some (by kernel_rfl))
 f207:=func243.trans (Zn some (by kernel_rfl))
 f209:=func244.trans (Zn some (by kernel_rfl))
 t3:=underlying3
 a3:=isAgg3
 z3:=sizeOf3
 v3:=zeroValue3
 t4:=underlying4
 a4:=isAgg4
 z4:=sizeOf4
 v4:=zeroValue4
 t9:=underlying9
 a9:=isAgg9
 z9:=sizeOf9
 v9:=zeroValue9 }
open Go.RowKit Go.Lib in
theorem ZFa(s p:ZB)(w:World)(hs:s.size<=9223372036854775807):
  Calls prog 203 #[.string s,.string p] w λe w'=>e=.returned (.string ⟨(Lib.trimSuffix s.data.toList p.data.toList).toArray⟩)/\w'=w:=Any.strings_TrimSuffix ZEw s p w hs
def ZEL:Go.Shelf.Ren:=⟨λ|151=>72|152=>119|137=>154|119=>155|224=>156|225=>157|217=>197|266=>237|n=>n,λ|9=>9|21=>21|4=>4|3=>3|5=>5|0=>0|46=>125|n=>n,λ|n=>n⟩
theorem ZEK:Go.Proofs.Lays.n151 prog ZEL:={
 mixed:=by kernel_rfl
 f119:=func155.trans (Zn some (by kernel_rfl))
 f137:=func154.trans (Zn some (by kernel_rfl))
 f151:=func72.trans (Zn some (by kernel_rfl))
 f152:=func119.trans (Zn some (by kernel_rfl))
 f217:=func197.trans (Zn some (by kernel_rfl))
 f224:=func156.trans (Zn some (by kernel_rfl))
 f225:=func157.trans (Zn some (by kernel_rfl))
 f266:=func237.trans (Zn some (by kernel_rfl))
 t0:=underlying0
 a0:=isAgg0
 z0:=sizeOf0
 v0:=zeroValue0
 t3:=underlying3
 a3:=isAgg3
 z3:=sizeOf3
 v3:=zeroValue3
 t4:=underlying4
 a4:=isAgg4
 z4:=sizeOf4
 v4:=zeroValue4
 t5:=underlying5
 a5:=isAgg5
 z5:=sizeOf5
 v5:=zeroValue5
 t9:=underlying9
 a9:=isAgg9
 z9:=sizeOf9
 v9:=zeroValue9
 t21:=underlying21
 a21:=isAgg21
 z21:=sizeOf21
 v21:=zeroValue21
 t46:=underlying125
 a46:=isAgg125
 z46:=sizeOf125
 v46:=zeroValue125 }
open Go.RowKit Go.Lib in
theorem ZEZ(s:ZB)(r:Int)(w:World)(h0:0<=r)(h1:r<128):
  Calls prog 72 #[.string s,.int .i32 r] w λe w'=>e=.returned (.bool (decide (0<=Lib.indexByte s.data.toList r.toNat.toUInt8)))/\w'=w:=Any.strings_ContainsRune_ascii ZEK s r w h0 h1
def ZEB:Go.Shelf.Ren:=⟨λ|105=>165|212=>204|99=>205|165=>67|166=>68|170=>206|169=>69|263=>245|264=>246|206=>238|240=>117|241=>118|276=>152|277=>153|n=>n,λ|9=>9|3=>3|4=>4|20=>20|0=>0|46=>125|109=>224|5=>5|72=>112|76=>116|51=>96|146=>265|53=>123|148=>267|70=>110|37=>22|75=>115|127=>145|164=>179|80=>46|n=>n,λ|n=>n⟩
theorem ZEA:Go.Proofs.Lays.n105 prog ZEB:={
 mixed:=by kernel_rfl
 f99:=func205.trans (Zn some (by kernel_rfl))
 f105:=func165.trans (Zn some (by kernel_rfl))
 f165:=func67.trans (Zn some (by kernel_rfl))
 f166:=func68.trans (Zn some (by kernel_rfl))
 f169:=func69.trans (Zn some (by kernel_rfl))
 f170:=func206.trans (Zn some (by kernel_rfl))
 f206:=func238.trans (Zn some (by kernel_rfl))
 f212:=func204.trans (Zn some (by kernel_rfl))
 f240:=func117.trans (Zn some (by kernel_rfl))
 f241:=func118.trans (Zn some (by kernel_rfl))
 f263:=func245.trans (Zn some (by kernel_rfl))
 f264:=func246.trans (Zn some (by kernel_rfl))
 f276:=func152.trans (Zn some (by kernel_rfl))
 f277:=func153.trans (Zn some (by kernel_rfl))
 t0:=underlying0
 a0:=isAgg0
 z0:=sizeOf0
 v0:=zeroValue0
 t3:=underlying3
 a3:=isAgg3
 z3:=sizeOf3
 v3:=zeroValue3
 t4:=underlying4
 a4:=isAgg4
 z4:=sizeOf4
 v4:=zeroValue4
 t5:=underlying5
 a5:=isAgg5
 z5:=sizeOf5
 v5:=zeroValue5
 t9:=underlying9
 a9:=isAgg9
 z9:=sizeOf9
 v9:=zeroValue9
 t20:=underlying20
 a20:=isAgg20
 z20:=sizeOf20
 v20:=zeroValue20
 t37:=underlying22
 a37:=isAgg22
 z37:=sizeOf22
 v37:=zeroValue22
 t46:=underlying125
 a46:=isAgg125
 z46:=sizeOf125
 v46:=zeroValue125
 t51:=underlying96
 a51:=isAgg96
 z51:=sizeOf96
 v51:=zeroValue96
 t53:=underlying123
 a53:=isAgg123
 z53:=sizeOf123
 v53:=zeroValue123
 t70:=underlying110
 a70:=isAgg110
 z70:=sizeOf110
 v70:=zeroValue110
 t72:=underlying112
 a72:=isAgg112
 z72:=sizeOf112
 v72:=zeroValue112
 t75:=underlying115
 a75:=isAgg115
 z75:=sizeOf115
 v75:=zeroValue115
 t76:=underlying116
 a76:=isAgg116
 z76:=sizeOf116
 v76:=zeroValue116
 t109:=underlying224
 a109:=isAgg224
 z109:=sizeOf224
 v109:=zeroValue224
 t127:=underlying145
 a127:=isAgg145
 z127:=sizeOf145
 v127:=zeroValue145
 t146:=underlying265
 a146:=isAgg265
 z146:=sizeOf265
 v146:=zeroValue265
 t148:=underlying267
 a148:=isAgg267
 z148:=sizeOf267
 v148:=zeroValue267
 t164:=underlying179
 a164:=isAgg179
 z164:=sizeOf179
 v164:=zeroValue179 }
theorem ZDM:Builder.Extra prog ZEB:={
 sizeBuilder:=by kernel_rfl
 liesBuilder:=by kernel_rfl
 t5:=underlying5
 a5:=isAgg5
 z5:=sizeOf5
 v5:=zeroValue5
 infoByte:=by kernel_rfl
 cellsByte:=by kernel_rfl
 sizeByte:=by kernel_rfl
 neB5:=by decide }
open Go.RowKit Go.Lib in
theorem ZE7(s:ZB)(c:Nat)(w:World)(hc:c<=9223372036854775807)(hlen:s.size*c<=140737488355328):
  Calls prog 165 #[.string s,I c] w λe w'=>e=.returned (.string ⟨(Lib.repeatL s.data.toList c).toArray⟩)/\ZL w w':=Any.strings_Repeat ZEA ZDM s c w hc hlen
def ZET:Go.Shelf.Ren:=⟨λ|229=>70|n=>n,λ|9=>9|40=>120|31=>31|152=>146|3=>3|0=>0|4=>4|21=>21|154=>148|n=>n,λ|n=>n⟩
theorem ZES:Go.Proofs.Lays.n229 prog ZET:={
 mixed:=by kernel_rfl
 f229:=func70.trans (Zn some (by kernel_rfl))
 t0:=underlying0
 a0:=isAgg0
 z0:=sizeOf0
 v0:=zeroValue0
 t3:=underlying3
 a3:=isAgg3
 z3:=sizeOf3
 v3:=zeroValue3
 t4:=underlying4
 a4:=isAgg4
 z4:=sizeOf4
 v4:=zeroValue4
 t9:=underlying9
 a9:=isAgg9
 z9:=sizeOf9
 v9:=zeroValue9
 t21:=underlying21
 a21:=isAgg21
 z21:=sizeOf21
 v21:=zeroValue21
 t31:=underlying31
 a31:=isAgg31
 z31:=sizeOf31
 v31:=zeroValue31
 t40:=underlying120
 a40:=isAgg120
 z40:=sizeOf120
 v40:=zeroValue120
 t152:=underlying146
 a152:=isAgg146
 z152:=sizeOf146
 v152:=zeroValue146
 t154:=underlying148
 a154:=isAgg148
 z154:=sizeOf148
 v154:=zeroValue148 }
open Go.RowKit Go.Lib in
theorem ZE3(g:Nat)(lb:Array Value)(eg:∀args w,(callFunc g args).run prog w=.ok (.enter g args) w)(p:Nat->Bool)(s:ZB)(w:World)(hs:s.size<=4294967296)(hp:PredGrows prog g lb p w):
  Calls prog 70 #[.string s,.func (.func g) #[] lb] w λe w'=>∃A,e=.returned (.slice (some ⟨A,0,none⟩) (Lib.goFieldsP p s).length (Lib.goFieldsP p s).length)/\w.heap.size<=A/\
   w'.ownsRow w.heap.size 9 1 (.slice (some ⟨A,0,none⟩) (Lib.goFieldsP p s).length (Lib.goFieldsP p s).length) (Lib.goFieldsP p s).length ((Lib.goFieldsP p s).map Value.string)/\ZL w w':=Any.strings_FieldsFunc_grows ZES g lb eg p s w hs hp (by kernel_rfl) (by kernel_rfl)
def ZEX:Go.Shelf.Ren:=⟨λ|196=>121|259=>158|n=>n,λ|9=>9|4=>4|3=>3|5=>5|12=>12|119=>172|0=>0|46=>125|139=>187|138=>186|53=>123|n=>n,λ|3=>0|4=>1|n=>n⟩
theorem ZEW:Go.Proofs.Lays.n196 prog ZEX:={
 mixed:=by kernel_rfl
 f196:=func121.trans (Zn some (by kernel_rfl))
 f259:=func158.trans (Zn some (by kernel_rfl))
 t0:=underlying0
 a0:=isAgg0
 z0:=sizeOf0
 v0:=zeroValue0
 t3:=underlying3
 a3:=isAgg3
 z3:=sizeOf3
 v3:=zeroValue3
 t4:=underlying4
 a4:=isAgg4
 z4:=sizeOf4
 v4:=zeroValue4
 t5:=underlying5
 a5:=isAgg5
 z5:=sizeOf5
 v5:=zeroValue5
 t9:=underlying9
 a9:=isAgg9
 z9:=sizeOf9
 v9:=zeroValue9
 t12:=underlying12
 a12:=isAgg12
 z12:=sizeOf12
 v12:=zeroValue12
 t46:=underlying125
 a46:=isAgg125
 z46:=sizeOf125
 v46:=zeroValue125
 t53:=underlying123
 a53:=isAgg123
 z53:=sizeOf123
 v53:=zeroValue123
 t119:=underlying172
 a119:=isAgg172
 z119:=sizeOf172
 t138:=underlying186
 a138:=isAgg186
 z138:=sizeOf186
 v138:=zeroValue186
 t139:=underlying187
 a139:=isAgg187
 z139:=sizeOf187
 v139:=zeroValue187
 g3:=by kernel_rfl
 g4:=by kernel_rfl }
end
section
open Go.RowKit Go.Joins
theorem ZdJ{a b:ZB}(h:a=b):Ending.returned (.string a)=.returned (.string b):=by rw[h]
theorem Ztw(w:World)(xs:List Int):
  (convert 22 9 (.slice (some ⟨w.heap.size,0,none⟩) xs.length xs.length)).run prog (w.alloc (.cells (xs.map (Value.int .u8)).toArray 5))=.ok (.string (strOfNums xs)) (w.alloc (.cells (xs.map (Value.int .u8)).toArray 5)):=by
 refine run_convert_bytes_arg _ 22 5 underlying22 underlying5 w.heap.size 0 xs.length xs.length xs rfl ?_ 9 underlying9;intro i hi;rw[show(0+i)=i by omega,ZO _ w.heap.size i _ 5 (0,0) (Zz w _)];simp[Zv hi]
theorem ZuV(n:Int)(h:0<=n):strOfNums [48+n/10%10,48+n%10]=Zio n:=by
 obtain⟨k,rfl⟩:∃k:Nat,n=(k:Int):=⟨n.toNat,by omega⟩;unfold strOfNums Zio ZrX;simp only[List.map_cons,List.map_nil];rw[show((48:Int)+(k:Int)/10%10).toNat=48+(k:Int).toNat/10%10 by omega,show((48:Int)+(k:Int)%10).toNat=48+(k:Int).toNat%10 by omega]
theorem Zyf(n:Int)(w:World)(h0:0<=n)(h1:n<=10000):Calls prog 77 #[I n] w λe w'=>e=.returned (.string (Zio n))/\ZL w w':=by
 have hcv:=Ztw w [48+n/10%10,48+n%10];simp only[List.map_cons,List.map_nil,ZDB,List.length_nil,ZDE]at hcv;go_enter func77,ntmps77
 go_wp2;go_ret;exact⟨ZdJ (ZuV n h0),(Ze _ _).alloc (Zb _) _⟩
def ZhI(k:Nat):ZB:=⟨(List.replicate k 48).toArray⟩
theorem Zmh(k:Nat):(ZhI k).size=k:=by
 show(List.replicate k (48:UInt8)).toArray.size=k;rw[List.size_toArray,List.length_replicate]
theorem ZlI(k:Nat):(⟨(Lib.repeatL (⟨#[48]⟩:ZB).data.toList k).toArray⟩:ZB)=ZhI k:=by
 have h:=Lib.repeatL_replicate 48 1 k;rw[Nat.mul_one]at h;show(⟨(Lib.repeatL [48] k).toArray⟩:ZB)=ZhI k;rw[show([48]:List UInt8)=List.replicate 1 48 from rfl,h];rfl
theorem ZuU(k n:Nat)(h:(Lib.decDigits n).length<=k):ZhI (k-(Lib.decDigits n).length)++(⟨(Lib.decDigits n).toArray⟩:ZB)=⟨(ZyQ k n).toArray⟩:=by
 apply ByteArray.ext;simp[ZhI,ZyQ]
theorem Zmj{n:Nat}(h:n<100):(Lib.decDigits n).length<=2:=by
 by_cases h1:n<10
 ·rw[ZgW h1];simp
 ·rw[ZdP h1,ZgW (show n/10<10 by omega)];simp
theorem Zyt{n:Nat}(h:n<10000):(Lib.decDigits n).length<=4:=by
 by_cases h1:n<100
 ·have:=Zmj h1;omega
 ·rw[ZdP (by omega),ZdP (show ¬n/10<10 by omega)];have:=Zmj (show n/10/10<100 by omega);simp;omega
theorem ZcA{w w1:World}(h:Lib.TabIs prog w "internal/strconv.uint64pow10" .u64 Lib.pow10Tab)(k:ZL w w1):Lib.TabIs prog w1 "internal/strconv.uint64pow10" .u64 Lib.pow10Tab:=tab_stays (g:=4) (by kernel_rfl) h k (Zb _)
theorem Zzq(n k:Nat)(w:World)(hk:k<=4)(hn:n<10000)(hl:(Lib.decDigits n).length<=k)(htab:Lib.TabIs prog w "internal/strconv.uint64pow10" .u64 Lib.pow10Tab):Calls prog 171 #[I n,I k] w λe w'=>e=.returned (.string ⟨(ZyQ k n).toArray⟩)/\ZL w w':=by
 have HT:=J htab;clear htab;go_enter func171,ntmps171
 go_wp2_with fail
 refine ZM (ZEY (n:Int) (by omega) (by omega) _ HT.out) ?_;rintro w1 ⟨q,os,hw1⟩;have HB1:Hid (ZL w w1):=by rw[hw1];exact J (Lib.below_grow _ _ (Zb _) _ _)
 clear hw1;rw[Lib.itoa_nonneg];obtain⟨t,ht⟩:∃t:ZB,(⟨(Lib.decDigits n).toArray⟩:ZB)=t:=⟨_,rfl⟩;have hts:t.size=(Lib.decDigits n).length:=by rw[<-ht];simp[ByteArray.size]
 rw[ht];have HTT:=J ht;have hlt:t.size<=k:=by omega
 have HTS:=J hts;have HLL:=J hl;clear ht hts hl;go_wp2_with fail
 rw[show((k:Int)-(t.size:Int))=((k-t.size:Nat):Int) by omega];refine ZM (ZE7 ⟨#[48]⟩ (k-t.size) w1 (by omega) (by show 1*(k-t.size)<=_;omega)) ?_;rintro w2 hb2;rw[ZlI];have HB2:=J (HB1.out.trans (hb2.mono HB1.out.size));clear hb2;have hz:(ZhI (k-t.size)).size=k-t.size:=Zmh _;obtain⟨zz,hzz⟩:=ZX (ZhI (k-t.size));rw[hzz]at hz ⊢;have HZZ:=J hzz;have hz4:zz.size<=4:=by omega
 have ht4:t.size<=4:=by omega
 clear hzz hz hlt;go_wp2;go_ret;refine⟨ZdJ ?_,HB2.out⟩;rw[<-HZZ.out,HTS.out,<-HTT.out];exact ZuU k n HLL.out
theorem ZlC(n:Int)(w:World)(h0:0<=n)(h1:n<100)(htab:Lib.TabIs prog w "internal/strconv.uint64pow10" .u64 Lib.pow10Tab):Calls prog 171 #[I n,I 2] w λe w'=>e=.returned (.string (Zio n))/\ZL w w':=by
 obtain⟨k,rfl⟩:∃k:Nat,n=(k:Int):=⟨n.toNat,by omega⟩;have h:=Zzq k 2 w (by omega) (by omega) (Zmj (by omega)) htab;rw[ZCJ k (by omega)]at h;exact h
theorem ZBm(n:Int)(w:World)(h0:0<=n)(h1:n<10000)(htab:Lib.TabIs prog w "internal/strconv.uint64pow10" .u64 Lib.pow10Tab):Calls prog 171 #[I n,I 4] w λe w'=>e=.returned (.string (Zg8 n))/\ZL w w':=by
 obtain⟨k,rfl⟩:∃k:Nat,n=(k:Int):=⟨n.toNat,by omega⟩;have h:=Zzq k 4 w (by omega) (by omega) (Zyt (by omega)) htab;rw[ZCp k (by omega)]at h;have e:(⟨(ZrX (k/100)++ZrX (k%100)).toArray⟩:ZB)=Zg8 (k:Int):=by
  unfold Zg8 Zio;rw[show((k:Int)/100).toNat=k/100 by omega,show((k:Int)%100).toNat=k%100 by omega];apply ByteArray.ext;simp
 rw[e]at h;exact h
theorem Zfc(n:Int):(Zio n).size=2:=rfl
theorem ZpP(n:Int):(Zg8 n).size=4:=by simp[Zg8,Zfc]
theorem Zfh(a b:Int):(ZbS a b).size=5:=by simp[ZbS,Zfc,Zg7];rfl
theorem ZmB(a b:Int)(w:World)(h0:0<=a)(h1:a<100)(h2:0<=b)(h3:b<100)(htab:Lib.TabIs prog w "internal/strconv.uint64pow10" .u64 Lib.pow10Tab):Calls prog 172 #[I a,I b] w λe w'=>e=.returned (.string (ZbS a b))/\ZL w w':=by
 have HT:=J htab;clear htab;obtain⟨x,hx⟩:=ZX (Zio a);obtain⟨y,hy⟩:=ZX (Zio b);have sx:x.size<=2:=by rw[<-hx,Zfc];omega
 have sy:y.size<=2:=by rw[<-hy,Zfc];omega
 have HX:=J hx;have HY:=J hy;clear hx hy;go_enter func172,ntmps172
 go_wp2_with fail
 refine ZM (ZlC a _ h0 h1 HT.out) ?_;rintro w1 hb1;rw[HX.out];have HB1:=J hb1;clear hb1;go_wp2_with fail
 refine ZM (ZlC b _ h2 h3 (ZcA HT.out HB1.out)) ?_;rintro w2 hb2;rw[HY.out];have HB2:=J (HB1.out.trans (hb2.mono HB1.out.size));clear hb2;go_wp2;go_ret;exact⟨ZdJ (by rw[ZbS,HX.out,HY.out,<-ZDO];rfl),HB2.out⟩
end
section
open Go.RowKit
def Zrv(r:Int):Bool:=decide ((0<=r/\r<=55295)\/(57344<=r/\r<=1114111))
theorem Zo6(r:Int):r<0\/(0<=r/\r<=55295)\/(55296<=r/\r<=57343)\/(57344<=r/\r<=1114111)\/1114112<=r:=by omega
theorem ZkW(r:Int)(w:World):Calls prog 135 #[I r] w λe w'=>e=.returned (.bool (Zrv r))/\w'=w:=by
 rcases Zo6 r with h|⟨h,h'⟩|⟨h,h'⟩|⟨h,h'⟩|h
 all_goals
  go_enter func135,ntmps135
  go_wp2;go_ret;exact⟨Zo (by first|decide|(rw[Bool.eq_iff_iff];simp only[Zrv,ZDI,ZW,Z6,ZEd,true_iff,false_iff,iff_true,iff_false,ZN];omega)),rfl⟩
theorem ZaU{a b c d:Int}(h:(a,b)=(c,d)):Ending.returned (.tuple #[I a,I b])=.returned (.tuple #[I c,I d]):=by
 obtain⟨rfl,rfl⟩:=Prod.mk.inj h;rfl
def rn(s:ZB):Int×Int:=rnF (Lib.decodeL s.data.toList)
theorem Zce{s:ZB}(h:Lib.decodeN s.size (byN s 0) (byN s 1) (byN s 2) (byN s 3)=(65533,1)):((0:Int),(0:Int))=((rn s).1,(rn s).2):=by
 rw[rn,ZqY,Zyp h]
theorem ZtY{s:ZB}{x k:Nat}{a b:Int}(h:Lib.decodeN s.size (byN s 0) (byN s 1) (byN s 2) (byN s 3)=(x,k))(hk:k≠1\/x≠65533)(ha:a=x)(hb:b=k):(a,b)=((rn s).1,(rn s).2):=by
 rw[rn,ZqY,ZBF h hk,ha,hb]
theorem ZeP{s:ZB}(h:0<s.size):s.toList.isEmpty=false:=by
 rw[Lib.toList_data];cases hs:s.data.toList with
 |nil=>have:=Zn List.length hs;rw[ZDL]at this;exact absurd h (by show ¬0<s.data.size;rw[this];simp)
 |cons a t=>rfl
theorem Zxt(s:ZB)(w:World)(hs:s.size<=1048576)(h0:0<s.size)(hb:byN s 0<192\/248<=byN s 0):
  Calls prog 100 #[.string s] w λe w'=>e=.returned (.tuple #[I (rn s).1,I (rn s).2])/\w'=w:=by
 have E0:=J (Zfo s 0 h0);have hem:=ZeP h0;have HB:=J hb;have hu:(s[0].toNat:Int)<=255:=by rw[E0.out];have:=ZaW s 0;omega
 clear hb;by_cases h1:(s[0].toNat:Int)<128
 ·have H1:=J h1;go_enter func100,ntmps100
  go_wp2;go_ret2;exact⟨ZaU (ZtY (d1 (by rw[<-E0.out];have:=H1.out;omega)) (.inr (by rw[<-E0.out];have:=H1.out;omega)) (by rw[<-E0.out]) rfl),rfl⟩
 ·by_cases h2:(s[0].toNat:Int)<192
  ·have H1:=J h1;have H2:=J h2;have h3:¬(192:Int)<=(s[0].toNat:Int):=by omega
   have h4:¬(224:Int)<=(s[0].toNat:Int):=by omega
   have h5:¬(240:Int)<=(s[0].toNat:Int):=by omega
   go_enter func100,ntmps100
   go_wp2;go_ret2;exact⟨ZaU (Zce (dx (by rw[<-E0.out];have:=H1.out;omega) (by rw[<-E0.out];have:=H2.out;omega))),rfl⟩
  ·have h3:(248:Int)<=(s[0].toNat:Int):=by
    have:=HB.out;rw[<-E0.out]at this;omega
   have H1:=J h1;have H3:=J h3;clear h1 h2;go_enter func100,ntmps100
   go_wp2;go_ret2;exact⟨ZaU (Zce (dx (by rw[<-E0.out];have:=H1.out;omega) (by rw[<-E0.out];have:=H3.out;omega))),rfl⟩
theorem ZwQ(s:ZB)(w:World)(hs:s.size<=1048576)(h0:0<s.size)(hb:192<=byN s 0)(hb':byN s 0<224):
  Calls prog 100 #[.string s] w λe w'=>e=.returned (.tuple #[I (rn s).1,I (rn s).2])/\w'=w:=by
 have E0:=J (Zfo s 0 h0);have hem:=ZeP h0;have i1:(192:Int)<=(s[0].toNat:Int):=by rw[E0.out];omega
 have i2:(s[0].toNat:Int)<224:=by rw[E0.out];omega
 have HB:=J (And.intro hb hb');clear hb hb';by_cases hn:s.size<2
 ·have hni:(s.size:Int)<2:=by omega
  have HN:=J hn;clear hn;go_enter func100,ntmps100
  go_wp2;go_ret2;exact⟨ZaU (Zce (d2n HB.out.1 HB.out.2 (.inl HN.out) (ZaW s 1))),rfl⟩
 ·have hni:(2:Int)<=(s.size:Int):=by omega
  have q1:1<s.size:=by omega
  have E1:=J (Zfo s 1 q1);have u1:(s[1].toNat:Int)<=255:=by rw[E1.out];have:=ZaW s 1;omega
  clear hn;go_enter func100,ntmps100
  go_wp2
  go_loop [4,7] (λb i=>(∃r:Int,Hid (((s[0].toNat:Int)%32)=r)/\0<=r/\r<=2097151/\b=I r/\i=I 1)\/((128:Int)<=(s[1].toNat:Int)/\(s[1].toNat:Int)<192/\∃r:Int,Hid ((64*((s[0].toNat:Int)%32)+(s[1].toNat:Int)%64)=r)/\0<=r/\r<=2097151/\b=I r/\i=I 2)) (λ_ i=>2-(Zi i).toNat)
  case atStart=>exact .inl ⟨((s[0].toNat:Int)%32),J rfl,by omega,by omega,rfl,rfl⟩
  case round=>
   rcases hrel with ⟨r,HV,jl,jh,rfl,rfl⟩|⟨f1,g1,r,HV,jl,jh,rfl,rfl⟩
   ·skip
    by_cases hlo:(s[1].toNat:Int)<128
    ·have HLO:=J hlo;go_wp2;go_ret2;exact⟨ZaU (Zce (d2n HB.out.1 HB.out.2 (.inr (.inl (by rw[<-E1.out];have:=HLO.out;omega))) (ZaW s 1))),rfl⟩
    ·by_cases hhi:(192:Int)<=(s[1].toNat:Int)
     ·have HHI:=J hhi;go_wp2;go_ret2;exact⟨ZaU (Zce (d2n HB.out.1 HB.out.2 (.inr (.inr ((by rw[<-E1.out];have:=HHI.out;omega)))) (ZaW s 1))),rfl⟩
     ·have HLO:=J hlo;have HHI:=J hhi;go_wp2
      go_round
      case rel=>exact .inr (⟨by have:=HLO.out;omega,by have:=HHI.out;omega,(64*((s[0].toNat:Int)%32)+(s[1].toNat:Int)%64),J rfl,by have:=HV.out;omega,by have:=HV.out;omega,Zn (Value.int .i64) (by have:=HV.out;omega),rfl⟩)
      case measure=>simp[Zi]
   ·have F1:=J (And.intro f1 g1);
    have EV:=J (show r=(((64*(byN s 0%32)+byN s 1%64):Nat):Int) by rw[<-HV.out,E0.out,E1.out];omega);clear f1 g1;by_cases hlow:r<128
    ·have HLOW:=J hlow;go_wp2;go_ret2;exact⟨ZaU (Zce (d2l HB.out.1 HB.out.2 (by omega) (by rw[<-E1.out];have:=F1.out;omega) (by rw[<-E1.out];have:=F1.out;omega) (by have:=HLOW.out;have:=EV.out;omega))),rfl⟩
    ·have HLOW:=J hlow;cases hch:Zrv r
     ·have HC:=J (ZDZ hch);exact absurd (show(0<=r/\r<=55295)\/(57344<=r/\r<=1114111) by have:=EV.out;have:=HB.out;omega) HC.out
     ·have HC:=J (ZDY hch);go_wp2_with (go_at_call 135;refine Zc (ZkW _ _) ?_)
      go_ret2;exact⟨ZaU (ZtY (d2y HB.out.1 HB.out.2 (by omega) (by rw[<-E1.out];have:=F1.out;omega) (by rw[<-E1.out];have:=F1.out;omega) (by have:=HLOW.out;have:=EV.out;omega)) (.inl (by decide)) EV.out rfl),rfl⟩
theorem ZxH(s:ZB)(w:World)(hs:s.size<=1048576)(h0:0<s.size)(hb:224<=byN s 0)(hb':byN s 0<240):
  Calls prog 100 #[.string s] w λe w'=>e=.returned (.tuple #[I (rn s).1,I (rn s).2])/\w'=w:=by
 have E0:=J (Zfo s 0 h0);have hem:=ZeP h0;have i1:(224:Int)<=(s[0].toNat:Int):=by rw[E0.out];omega
 have i2:(s[0].toNat:Int)<240:=by rw[E0.out];omega
 have HB:=J (And.intro hb hb');clear hb hb';by_cases hn:s.size<3
 ·have hni:(s.size:Int)<3:=by omega
  have HN:=J hn;clear hn;go_enter func100,ntmps100
  go_wp2;go_ret2;exact⟨ZaU (Zce (d3n HB.out.1 HB.out.2 (.inl HN.out) (ZaW s 1) (ZaW s 2))),rfl⟩
 ·have hni:(3:Int)<=(s.size:Int):=by omega
  have q1:1<s.size:=by omega
  have E1:=J (Zfo s 1 q1);have u1:(s[1].toNat:Int)<=255:=by rw[E1.out];have:=ZaW s 1;omega
  have q2:2<s.size:=by omega
  have E2:=J (Zfo s 2 q2);have u2:(s[2].toNat:Int)<=255:=by rw[E2.out];have:=ZaW s 2;omega
  clear hn;go_enter func100,ntmps100
  go_wp2
  go_loop [4,7] (λb i=>(∃r:Int,Hid (((s[0].toNat:Int)%16)=r)/\0<=r/\r<=2097151/\b=I r/\i=I 1)\/((128:Int)<=(s[1].toNat:Int)/\(s[1].toNat:Int)<192/\∃r:Int,Hid ((64*((s[0].toNat:Int)%16)+(s[1].toNat:Int)%64)=r)/\0<=r/\r<=2097151/\b=I r/\i=I 2)\/((128:Int)<=(s[1].toNat:Int)/\(s[1].toNat:Int)<192/\(128:Int)<=(s[2].toNat:Int)/\(s[2].toNat:Int)<192/\∃r:Int,Hid ((64*(64*((s[0].toNat:Int)%16)+(s[1].toNat:Int)%64)+(s[2].toNat:Int)%64)=r)/\0<=r/\r<=2097151/\b=I r/\i=I 3)) (λ_ i=>3-(Zi i).toNat)
  case atStart=>exact .inl ⟨((s[0].toNat:Int)%16),J rfl,by omega,by omega,rfl,rfl⟩
  case round=>
   rcases hrel with ⟨r,HV,jl,jh,rfl,rfl⟩|⟨f1,g1,r,HV,jl,jh,rfl,rfl⟩|⟨f1,g1,f2,g2,r,HV,jl,jh,rfl,rfl⟩
   ·skip
    by_cases hlo:(s[1].toNat:Int)<128
    ·have HLO:=J hlo;go_wp2;go_ret2;exact⟨ZaU (Zce (d3n HB.out.1 HB.out.2 (.inr (.inl (by rw[<-E1.out];have:=HLO.out;omega))) (ZaW s 1) (ZaW s 2))),rfl⟩
    ·by_cases hhi:(192:Int)<=(s[1].toNat:Int)
     ·have HHI:=J hhi;go_wp2;go_ret2;exact⟨ZaU (Zce (d3n HB.out.1 HB.out.2 (.inr (.inr (.inl (by rw[<-E1.out];have:=HHI.out;omega)))) (ZaW s 1) (ZaW s 2))),rfl⟩
     ·have HLO:=J hlo;have HHI:=J hhi;go_wp2
      go_round
      case rel=>exact .inr (.inl ⟨by have:=HLO.out;omega,by have:=HHI.out;omega,(64*((s[0].toNat:Int)%16)+(s[1].toNat:Int)%64),J rfl,by have:=HV.out;omega,by have:=HV.out;omega,Zn (Value.int .i64) (by have:=HV.out;omega),rfl⟩)
      case measure=>simp[Zi]
   ·have F1:=J (And.intro f1 g1);
    by_cases hlo:(s[2].toNat:Int)<128
    ·have HLO:=J hlo;go_wp2;go_ret2;exact⟨ZaU (Zce (d3n HB.out.1 HB.out.2 (.inr (.inr (.inr (.inl (by rw[<-E2.out];have:=HLO.out;omega))))) (ZaW s 1) (ZaW s 2))),rfl⟩
    ·by_cases hhi:(192:Int)<=(s[2].toNat:Int)
     ·have HHI:=J hhi;go_wp2;go_ret2;exact⟨ZaU (Zce (d3n HB.out.1 HB.out.2 (.inr (.inr (.inr (.inr ((by rw[<-E2.out];have:=HHI.out;omega)))))) (ZaW s 1) (ZaW s 2))),rfl⟩
     ·have HLO:=J hlo;have HHI:=J hhi;go_wp2
      go_round
      case rel=>exact .inr (.inr (⟨F1.out.1,F1.out.2,by have:=HLO.out;omega,by have:=HHI.out;omega,(64*(64*((s[0].toNat:Int)%16)+(s[1].toNat:Int)%64)+(s[2].toNat:Int)%64),J rfl,by have:=HV.out;omega,by have:=HV.out;omega,Zn (Value.int .i64) (by have:=HV.out;omega),rfl⟩))
      case measure=>simp[Zi]
   ·have F1:=J (And.intro f1 g1);have F2:=J (And.intro f2 g2);
    have EV:=J (show r=(((64*(64*(byN s 0%16)+byN s 1%64)+byN s 2%64):Nat):Int) by rw[<-HV.out,E0.out,E1.out,E2.out];omega);clear f1 g1 f2 g2;by_cases hlow:r<2048
    ·have HLOW:=J hlow;go_wp2;go_ret2;exact⟨ZaU (Zce (d3l HB.out.1 HB.out.2 (by omega) (by rw[<-E1.out];have:=F1.out;omega) (by rw[<-E1.out];have:=F1.out;omega) (by rw[<-E2.out];have:=F2.out;omega) (by rw[<-E2.out];have:=F2.out;omega) (.inl (by have:=HLOW.out;have:=EV.out;omega)))),rfl⟩
    ·have HLOW:=J hlow;cases hch:Zrv r
     ·have HC:=J (ZDZ hch);go_wp2_with (go_at_call 135;refine Zc (ZkW _ _) ?_)
      go_ret2;exact⟨ZaU (Zce (d3l HB.out.1 HB.out.2 (by omega) (by rw[<-E1.out];have:=F1.out;omega) (by rw[<-E1.out];have:=F1.out;omega) (by rw[<-E2.out];have:=F2.out;omega) (by rw[<-E2.out];have:=F2.out;omega) (.inr (by have:=HC.out;have:=EV.out;have:=HB.out;omega)))),rfl⟩
     ·have HC:=J (ZDY hch);go_wp2_with (go_at_call 135;refine Zc (ZkW _ _) ?_)
      go_ret2;exact⟨ZaU (ZtY (d3y HB.out.1 HB.out.2 (by omega) (by rw[<-E1.out];have:=F1.out;omega) (by rw[<-E1.out];have:=F1.out;omega) (by rw[<-E2.out];have:=F2.out;omega) (by rw[<-E2.out];have:=F2.out;omega) (by have:=HLOW.out;have:=EV.out;omega) (by have:=HC.out;have:=EV.out;omega)) (.inl (by decide)) EV.out rfl),rfl⟩
theorem ZyX(s:ZB)(w:World)(hs:s.size<=1048576)(h0:0<s.size)(hb:240<=byN s 0)(hb':byN s 0<248):
  Calls prog 100 #[.string s] w λe w'=>e=.returned (.tuple #[I (rn s).1,I (rn s).2])/\w'=w:=by
 have E0:=J (Zfo s 0 h0);have hem:=ZeP h0;have i1:(240:Int)<=(s[0].toNat:Int):=by rw[E0.out];omega
 have i2:(s[0].toNat:Int)<248:=by rw[E0.out];omega
 have HB:=J (And.intro hb hb');clear hb hb';by_cases hn:s.size<4
 ·have hni:(s.size:Int)<4:=by omega
  have HN:=J hn;clear hn;go_enter func100,ntmps100
  go_wp2;go_ret2;exact⟨ZaU (Zce (d4n HB.out.1 HB.out.2 (.inl HN.out) (ZaW s 1) (ZaW s 2) (ZaW s 3))),rfl⟩
 ·have hni:(4:Int)<=(s.size:Int):=by omega
  have q1:1<s.size:=by omega
  have E1:=J (Zfo s 1 q1);have u1:(s[1].toNat:Int)<=255:=by rw[E1.out];have:=ZaW s 1;omega
  have q2:2<s.size:=by omega
  have E2:=J (Zfo s 2 q2);have u2:(s[2].toNat:Int)<=255:=by rw[E2.out];have:=ZaW s 2;omega
  have q3:3<s.size:=by omega
  have E3:=J (Zfo s 3 q3);have u3:(s[3].toNat:Int)<=255:=by rw[E3.out];have:=ZaW s 3;omega
  clear hn;go_enter func100,ntmps100
  go_wp2
  go_loop [4,7] (λb i=>(∃r:Int,Hid (((s[0].toNat:Int)%8)=r)/\0<=r/\r<=2097151/\b=I r/\i=I 1)\/((128:Int)<=(s[1].toNat:Int)/\(s[1].toNat:Int)<192/\∃r:Int,Hid ((64*((s[0].toNat:Int)%8)+(s[1].toNat:Int)%64)=r)/\0<=r/\r<=2097151/\b=I r/\i=I 2)\/((128:Int)<=(s[1].toNat:Int)/\(s[1].toNat:Int)<192/\(128:Int)<=(s[2].toNat:Int)/\(s[2].toNat:Int)<192/\∃r:Int,Hid ((64*(64*((s[0].toNat:Int)%8)+(s[1].toNat:Int)%64)+(s[2].toNat:Int)%64)=r)/\0<=r/\r<=2097151/\b=I r/\i=I 3)\/((128:Int)<=(s[1].toNat:Int)/\(s[1].toNat:Int)<192/\(128:Int)<=(s[2].toNat:Int)/\(s[2].toNat:Int)<192/\(128:Int)<=(s[3].toNat:Int)/\(s[3].toNat:Int)<192/\∃r:Int,Hid ((64*(64*(64*((s[0].toNat:Int)%8)+(s[1].toNat:Int)%64)+(s[2].toNat:Int)%64)+(s[3].toNat:Int)%64)=r)/\0<=r/\r<=2097151/\b=I r/\i=I 4)) (λ_ i=>4-(Zi i).toNat)
  case atStart=>exact .inl ⟨((s[0].toNat:Int)%8),J rfl,by omega,by omega,rfl,rfl⟩
  case round=>
   rcases hrel with ⟨r,HV,jl,jh,rfl,rfl⟩|⟨f1,g1,r,HV,jl,jh,rfl,rfl⟩|⟨f1,g1,f2,g2,r,HV,jl,jh,rfl,rfl⟩|⟨f1,g1,f2,g2,f3,g3,r,HV,jl,jh,rfl,rfl⟩
   ·skip
    by_cases hlo:(s[1].toNat:Int)<128
    ·have HLO:=J hlo;go_wp2;go_ret2;exact⟨ZaU (Zce (d4n HB.out.1 HB.out.2 (.inr (.inl (by rw[<-E1.out];have:=HLO.out;omega))) (ZaW s 1) (ZaW s 2) (ZaW s 3))),rfl⟩
    ·by_cases hhi:(192:Int)<=(s[1].toNat:Int)
     ·have HHI:=J hhi;go_wp2;go_ret2;exact⟨ZaU (Zce (d4n HB.out.1 HB.out.2 (.inr (.inr (.inl (by rw[<-E1.out];have:=HHI.out;omega)))) (ZaW s 1) (ZaW s 2) (ZaW s 3))),rfl⟩
     ·have HLO:=J hlo;have HHI:=J hhi;go_wp2
      go_round
      case rel=>exact .inr (.inl ⟨by have:=HLO.out;omega,by have:=HHI.out;omega,(64*((s[0].toNat:Int)%8)+(s[1].toNat:Int)%64),J rfl,by have:=HV.out;omega,by have:=HV.out;omega,Zn (Value.int .i64) (by have:=HV.out;omega),rfl⟩)
      case measure=>simp[Zi]
   ·have F1:=J (And.intro f1 g1);
    by_cases hlo:(s[2].toNat:Int)<128
    ·have HLO:=J hlo;go_wp2;go_ret2;exact⟨ZaU (Zce (d4n HB.out.1 HB.out.2 (.inr (.inr (.inr (.inl (by rw[<-E2.out];have:=HLO.out;omega))))) (ZaW s 1) (ZaW s 2) (ZaW s 3))),rfl⟩
    ·by_cases hhi:(192:Int)<=(s[2].toNat:Int)
     ·have HHI:=J hhi;go_wp2;go_ret2;exact⟨ZaU (Zce (d4n HB.out.1 HB.out.2 (.inr (.inr (.inr (.inr (.inl (by rw[<-E2.out];have:=HHI.out;omega)))))) (ZaW s 1) (ZaW s 2) (ZaW s 3))),rfl⟩
     ·have HLO:=J hlo;have HHI:=J hhi;go_wp2
      go_round
      case rel=>exact .inr (.inr (.inl ⟨F1.out.1,F1.out.2,by have:=HLO.out;omega,by have:=HHI.out;omega,(64*(64*((s[0].toNat:Int)%8)+(s[1].toNat:Int)%64)+(s[2].toNat:Int)%64),J rfl,by have:=HV.out;omega,by have:=HV.out;omega,Zn (Value.int .i64) (by have:=HV.out;omega),rfl⟩))
      case measure=>simp[Zi]
   ·have F1:=J (And.intro f1 g1);have F2:=J (And.intro f2 g2);
    by_cases hlo:(s[3].toNat:Int)<128
    ·have HLO:=J hlo;go_wp2;go_ret2;exact⟨ZaU (Zce (d4n HB.out.1 HB.out.2 (.inr (.inr (.inr (.inr (.inr (.inl (by rw[<-E3.out];have:=HLO.out;omega))))))) (ZaW s 1) (ZaW s 2) (ZaW s 3))),rfl⟩
    ·by_cases hhi:(192:Int)<=(s[3].toNat:Int)
     ·have HHI:=J hhi;go_wp2;go_ret2;exact⟨ZaU (Zce (d4n HB.out.1 HB.out.2 (.inr (.inr (.inr (.inr (.inr (.inr ((by rw[<-E3.out];have:=HHI.out;omega)))))))) (ZaW s 1) (ZaW s 2) (ZaW s 3))),rfl⟩
     ·have HLO:=J hlo;have HHI:=J hhi;go_wp2
      go_round
      case rel=>exact .inr (.inr (.inr (⟨F1.out.1,F1.out.2,F2.out.1,F2.out.2,by have:=HLO.out;omega,by have:=HHI.out;omega,(64*(64*(64*((s[0].toNat:Int)%8)+(s[1].toNat:Int)%64)+(s[2].toNat:Int)%64)+(s[3].toNat:Int)%64),J rfl,by have:=HV.out;omega,by have:=HV.out;omega,Zn (Value.int .i64) (by have:=HV.out;omega),rfl⟩)))
      case measure=>simp[Zi]
   ·have F1:=J (And.intro f1 g1);have F2:=J (And.intro f2 g2);have F3:=J (And.intro f3 g3);
    have EV:=J (show r=(((64*(64*(64*(byN s 0%8)+byN s 1%64)+byN s 2%64)+byN s 3%64):Nat):Int) by rw[<-HV.out,E0.out,E1.out,E2.out,E3.out];omega);clear f1 g1 f2 g2 f3 g3;by_cases hlow:r<65536
    ·have HLOW:=J hlow;go_wp2;go_ret2;exact⟨ZaU (Zce (d4l HB.out.1 HB.out.2 (by omega) (by rw[<-E1.out];have:=F1.out;omega) (by rw[<-E1.out];have:=F1.out;omega) (by rw[<-E2.out];have:=F2.out;omega) (by rw[<-E2.out];have:=F2.out;omega) (by rw[<-E3.out];have:=F3.out;omega) (by rw[<-E3.out];have:=F3.out;omega) (.inl (by have:=HLOW.out;have:=EV.out;omega)))),rfl⟩
    ·have HLOW:=J hlow;cases hch:Zrv r
     ·have HC:=J (ZDZ hch);go_wp2_with (go_at_call 135;refine Zc (ZkW _ _) ?_)
      go_ret2;exact⟨ZaU (Zce (d4l HB.out.1 HB.out.2 (by omega) (by rw[<-E1.out];have:=F1.out;omega) (by rw[<-E1.out];have:=F1.out;omega) (by rw[<-E2.out];have:=F2.out;omega) (by rw[<-E2.out];have:=F2.out;omega) (by rw[<-E3.out];have:=F3.out;omega) (by rw[<-E3.out];have:=F3.out;omega) (by have:=HC.out;have:=HLOW.out;have:=EV.out;omega))),rfl⟩
     ·have HC:=J (ZDY hch);go_wp2_with (go_at_call 135;refine Zc (ZkW _ _) ?_)
      go_ret2;exact⟨ZaU (ZtY (d4y HB.out.1 HB.out.2 (by omega) (by rw[<-E1.out];have:=F1.out;omega) (by rw[<-E1.out];have:=F1.out;omega) (by rw[<-E2.out];have:=F2.out;omega) (by rw[<-E2.out];have:=F2.out;omega) (by rw[<-E3.out];have:=F3.out;omega) (by rw[<-E3.out];have:=F3.out;omega) (by have:=HLOW.out;have:=EV.out;omega) (by have:=HC.out;have:=EV.out;omega)) (.inl (by decide)) EV.out rfl),rfl⟩
theorem ZAt(s:ZB)(w:World)(hs:s.size<=1048576)(h0:0<s.size):
  Calls prog 100 #[.string s] w λe w'=>e=.returned (.tuple #[I (rn s).1,I (rn s).2])/\w'=w:=by
 by_cases h1:byN s 0<192\/248<=byN s 0
 ·exact Zxt s w hs h0 h1
 ·by_cases h2:byN s 0<224
  ·exact ZwQ s w hs h0 (by omega) h2
  ·by_cases h3:byN s 0<240
   ·exact ZxH s w hs h0 (by omega) h3
   ·exact ZyX s w hs h0 (by omega) (by omega)
theorem Zf8(k:Nat):(⟨(Lib.repeatL (⟨#[48]⟩:ZB).data.toList k).toArray⟩:ZB)=ZbK k:=by
 have h:=Lib.repeatL_replicate 48 1 k;rw[Nat.mul_one]at h;show(⟨(Lib.repeatL [48] k).toArray⟩:ZB)=ZbK k;rw[show([48]:List UInt8)=List.replicate 1 48 from rfl,h];rfl
theorem Zn2(x:Int)(w:World)(h0:0<=x)(h1:x<=100):Calls prog 165 #[.string ⟨#[48]⟩,I x] w λe w'=>∃z:ZB,(z.size:Int)=x/\Hid (z=ZbK x.toNat)/\e=.returned (.string z)/\ZL w w':=by
 obtain⟨k,rfl⟩:∃k:Nat,x=(k:Int):=⟨x.toNat,by omega⟩;have h:=ZE7 ⟨#[48]⟩ k w (by omega) (by show 1*k<=_;omega);rw[Zf8]at h;refine h.mono λe w' ⟨he,hw⟩=>⟨ZbK k,by rw[Zeh],J (by simp),he,hw⟩
theorem Zyj(n:Bool)(s:ZB)(c:Int)(w:World)(hs:s.size<=maxLen):Calls prog 123 #[.agg #[.bool n,.string s,I c]] w λe w'=>e=.returned (.string (ZeV n s c))/\ZL w w':=by
 have HS:=J hs;unfold maxLen at hs;cases hd:ZP n s c
 ·go_enter func123,ntmps123
  go_wp2_with fail
  refine ZM (ZbZ n s c _ HS.out) ?_;rintro w1 hb1;have HB1:=J (ZaA hb1);clear hb1;go_wp2;go_ret;exact⟨ZeH (by simp[ZeV,hd];rfl),HB1.out⟩
 ·obtain⟨hd1,hd2,hd3⟩:=Zbm hd;have HD:=J hd;rcases(show(s.size:Int)<=c/\1<=c\/((s.size:Int)=0/\c=0)\/c<(s.size:Int) by omega) with ⟨hl,hc⟩|⟨hl,hc⟩|hl
  ·have hcb:(c != 0)=true:=by simp;omega
   go_enter func123,ntmps123
   go_wp2_with fail
   refine ZM (ZbZ n s c _ HS.out) ?_;rintro w1 hb1;have HB1:=J (ZaA hb1);have hx1:=ZaC (Zbc w n s c _) hb1;have HX1:=J hx1;obtain⟨k0,k1,k2,k3⟩:=hx1;clear hb1 k0;go_wp2_with fail
   refine(Zn2 _ _ (by omega) (by omega)).mono ?_;rintro e w2 ⟨z,hz,HZ,rfl,hb2⟩;have HB2:=J (Zaw HB1.out hb2);obtain⟨k0,k1,k2,k3⟩:=ZaC HX1.out hb2;clear hb2 k0;have hp:z++s=Zgf s c:=by rw[HZ.out];rfl
   obtain⟨t,ht⟩:=ZX (z++s);have hts:(t.size:Int)=c+1:=by rw[<-ht];simp;omega
   have ht0:c<(t.size:Int):=by omega
   have ht1:(t.size:Int)<=61:=by omega
   have HP:=J (ht ▸ hp);have hzz:z.size<=100:=by omega
   have HZZ:=J hz;have HTS:=J hts;clear hts hp hz;have hi0:(0:Int)<=(t.size:Int)-c:=by omega
   have hi1:(t.size:Int)-c<=(t.size:Int):=by omega
   have hwr:IntKind.i64.wrap ((t.size:Int)-c)=(t.size:Int)-c:=by rw[ZY];omega
   have htn:((t.size:Int)-c).toNat=t.size-c.toNat:=by omega
   have HBO:=J (show Zda s c=t.extract 0 ((t.size:Int)-c).toNat++((⟨#[46]⟩:ZB)++t.extract ((t.size:Int)-c).toNat t.size) by rw[Zda,Za (by omega),<-HP.out,ZbL,htn,ZDO]);clear htn;cases n;all_goals
    go_wp2;go_ret;exact⟨ZeH (by rw[ZeV,Zd HD.out,HBO.out];rfl),HB2.out⟩
  ·have hse:s=ByteArray.empty:=ByteArray.size_eq_zero_iff.1 (by omega);subst hse;subst hc;have hn:n=false:=by cases n;rfl;exact absurd hd (by rw[Zdx _ _ _ rfl];simp)
   subst hn;go_enter func123,ntmps123
   go_wp2_with fail
   refine ZM (ZbZ false ByteArray.empty 0 _ HS.out) ?_;rintro w1 hb1;have HB1:=J (ZaA hb1);have hx1:=ZaC (Zbc w false ByteArray.empty 0 _) hb1;have HX1:=J hx1;obtain⟨k0,k1,k2,k3⟩:=hx1;clear hb1 k0;go_wp2_with fail
   refine(Zn2 1 _ (by omega) (by omega)).mono ?_;rintro e w2 ⟨z,hz,HZ,rfl,hb2⟩;have HB2:=J (Zaw HB1.out hb2);obtain⟨k0,k1,k2,k3⟩:=ZaC HX1.out hb2;clear hb2 k0;go_wp2;go_ret;exact⟨ZeH (by rw[ZeV,Zd HD.out,Zda,Zd rfl,HZ.out];rfl),HB2.out⟩
  ·have HP:=J (show s=Zgf s c by rw[Zgf,show(c+1-s.size).toNat=0 by omega,Zel];simp);rcases(show c=0\/1<=c by omega) with hc|hc
   ·subst hc;cases n;all_goals
     go_enter func123,ntmps123
     go_wp2_with fail
     refine ZM (ZbZ _ s 0 _ HS.out) ?_;rintro w1 hb1;have HB1:=J (ZaA hb1);obtain⟨k0,k1,k2,k3⟩:=ZaC (Zbc w _ s 0 _) hb1;clear hb1 k0;go_wp2;go_ret;exact⟨ZeH (by rw[ZeV,Zd HD.out,Zda,Zd rfl,<-HP.out];simp),HB1.out⟩
   ·have hcb:(c != 0)=true:=(by simp;omega);have hi0:(0:Int)<=(s.size:Int)-c:=(by omega);have hi1:(s.size:Int)-c<=(s.size:Int):=(by omega);have hwr:IntKind.i64.wrap ((s.size:Int)-c)=(s.size:Int)-c:=(by rw[ZY];omega);have htn:((s.size:Int)-c).toNat=s.size-c.toNat:=(by omega);have HBO:=J (show Zda s c=s.extract 0 ((s.size:Int)-c).toNat++((⟨#[46]⟩:ZB)++s.extract ((s.size:Int)-c).toNat s.size) by rw[Zda,Za (by omega),<-HP.out,ZbL,htn,ZDO]);clear htn;cases n;all_goals
     go_enter func123,ntmps123
     go_wp2_with fail
     refine ZM (ZbZ _ s c _ HS.out) ?_;rintro w1 hb1;have HB1:=J (ZaA hb1);obtain⟨k0,k1,k2,k3⟩:=ZaC (Zbc w _ s c _) hb1;clear hb1 k0;go_wp2;go_ret;exact⟨ZeH (by rw[ZeV,Zd HD.out,HBO.out];rfl),HB1.out⟩
end
end Go.Proofs.YtcdnilpdohknfaaGreatDoor
