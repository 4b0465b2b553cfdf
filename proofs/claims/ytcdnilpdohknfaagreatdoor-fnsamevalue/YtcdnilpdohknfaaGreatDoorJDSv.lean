import Derived.Shelf.Unicode.ValidAny
import Derived.Shelf.Strings.OnBuilder
import Derived.Shelf.Strings.Trim
import Derived.Shelf.Small.Utf8
import Derived.Shelf.Small.Wraps
import Derived.Shelf.Utf8.RuneCount
import Derived.Shelf.LaysM
import Derived.Shelf.Strconv.Itoa4
import Derived.Shelf.Strings.Search1
import Derived.Shelf.Strings.Search3
import Derived.Shelf.Strings.Cut
import Derived.Shelf.Strings.Shaped
import Derived.Shelf.Strings.Prefix
import Derived.Shelf.Strings.Runes
import Derived.Shelf.Strings.Repeat
import Derived.Shelf.Strings.FieldsFuncGrows
import Derived.Test.YtcdnilpdohknfaaGreatDoorProg
import Derived.Test.YtcdnilpdohknfaaGreatDoorJ1
set_option linter.unusedVariables false
set_option linter.unusedSimpArgs false
set_option maxRecDepth 100000
set_option maxHeartbeats 16000000
namespace Go.Proofs.YtcdnilpdohknfaaGreatDoor
open Tryz
section
open Go.Shelf
def Zaf:Go.Shelf.Ren:=⟨λ|145=>161|220=>200|219=>207|217=>197|225=>157|224=>156|267=>247|266=>237|314=>274|n=>n,λ|9=>9|4=>4|59=>190|3=>3|5=>5|46=>125|146=>265|51=>96|n=>n,λ|1=>2|n=>n⟩
theorem Zae:Go.Proofs.LaysM.n145 prog Zaf:={
 mixed:=by kernel_rfl
 f145:=func161.trans (Zn some (by kernel_rfl))
 f217:=func197.trans (Zn some (by kernel_rfl))
 f219:=func207.trans (Zn some (by kernel_rfl))
 f220:=func200.trans (Zn some (by kernel_rfl))
 f224:=func156.trans (Zn some (by kernel_rfl))
 f225:=func157.trans (Zn some (by kernel_rfl))
 f266:=func237.trans (Zn some (by kernel_rfl))
 f267:=func247.trans (Zn some (by kernel_rfl))
 f314:=func274.trans (Zn some (by kernel_rfl))
 t3:=underlying3
 a3:=isAgg3
 z3:=sizeOf3
 v3:=zeroValue3
 t4:=underlying4
 a4:=isAgg4
 z4:=sizeOf4
 v4:=zeroValue4
 t5:=underlying5
 a5:=isAgg5
 z5:=sizeOf5
 v5:=zeroValue5
 t9:=underlying9
 a9:=isAgg9
 z9:=sizeOf9
 v9:=zeroValue9
 t46:=underlying125
 a46:=isAgg125
 z46:=sizeOf125
 v46:=zeroValue125
 t51:=underlying96
 a51:=isAgg96
 z51:=sizeOf96
 v51:=zeroValue96
 t59:=underlying190
 a59:=isAgg190
 z59:=sizeOf190
 v59:=zeroValue190
 t146:=underlying265
 a146:=isAgg265
 z146:=sizeOf265
 v146:=zeroValue265
 g1:=by kernel_rfl
 i3:=by kernel_rfl
 i4:=by kernel_rfl
 i5:=by kernel_rfl
 i9:=by kernel_rfl
 i46:=by kernel_rfl
 i51:=by kernel_rfl
 i59:=by kernel_rfl
 i146:=by kernel_rfl
 m1:=by kernel_rfl
 s1_3:=λw h=>Go.Proofs.cell_of_shapedOpen_int (zero:=#[I 0]) (t:=3) h (ZDY (by kernel_rfl)) (by kernel_rfl) rfl (by kernel_rfl) (by kernel_rfl) underlying3 }
end
end Go.Proofs.YtcdnilpdohknfaaGreatDoor
