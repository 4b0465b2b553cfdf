import Derived.Test.YtcdnilpdohknfaaGreatDoorChecked
import Derived.Below
import Derived.Deep.QuietTactic
import Derived.Laws.AppendOwn
import Derived.Laws.BitsLemmas
import Derived.Laws.Rows
import Derived.Laws.Strings
import Derived.WalkMore
set_option linter.unusedVariables false
set_option linter.unusedSimpArgs false
set_option maxRecDepth 100000
set_option maxHeartbeats 16000000
namespace Go.Proofs.YtcdnilpdohknfaaGreatDoor
open Tryz
theorem Zb:type_of% @Nat.le_refl:=@Nat.le_refl
theorem Zm:type_of% @List.setIfInBounds_toArray:=@List.setIfInBounds_toArray
theorem Zk:type_of% @List.set_cons_zero:=@List.set_cons_zero
theorem Zl:type_of% @List.set_cons_succ:=@List.set_cons_succ
theorem ZN:type_of% @Bool.false_eq_true:=@Bool.false_eq_true
theorem ZQ:type_of% @Bool.true_eq_false:=@Bool.true_eq_false
theorem ZW:type_of% @Bool.and_eq_true:=@Bool.and_eq_true
theorem Zx:type_of% @Nat.zero_le:=@Nat.zero_le
theorem ZDx:type_of% @List.length_eq_zero_iff:=@List.length_eq_zero_iff
theorem ZDy:type_of% @Nat.lt_of_lt_of_le:=@Nat.lt_of_lt_of_le
theorem ZDz:type_of% @List.length_append:=@List.length_append
theorem ZDA:type_of% @Nat.le_trans:=@Nat.le_trans
theorem ZDB:type_of% @List.length_cons:=@List.length_cons
theorem ZDC:type_of% @List.length_drop:=@List.length_drop
theorem ZDD:type_of% @List.length_map:=@List.length_map
theorem ZDE:type_of% @Nat.zero_add:=@Nat.zero_add
theorem Z5:type_of% @ByteArray.size_append:=@ByteArray.size_append
theorem ZDG:type_of% @Value.slice.injEq:=@Value.slice.injEq
theorem ZDH:type_of% @List.mem_cons_self:=@List.mem_cons_self
theorem ZDI:type_of% @Bool.or_eq_true:=@Bool.or_eq_true
theorem ZDJ:type_of% @Option.some.injEq:=@Option.some.injEq
theorem ZDK:type_of% @Int.toNat_natCast:=@Int.toNat_natCast
theorem ZDL:type_of% @Array.length_toList:=@Array.length_toList
theorem ZDN:type_of% @List.mem_cons_of_mem:=@List.mem_cons_of_mem
theorem ZDO:type_of% @ByteArray.append_assoc:=@ByteArray.append_assoc
theorem ZDP:type_of% @List.all_eq_true:=@List.all_eq_true
theorem Zg:type_of% @decide_eq_false:=@decide_eq_false
theorem Zh:type_of% @decide_eq_true:=@decide_eq_true
theorem Za:type_of% @if_neg:=@if_neg
theorem Zd:type_of% @if_pos:=@if_pos
theorem ZDU:type_of% @beq_eq_false_iff_ne:=@beq_eq_false_iff_ne
theorem Z6:type_of% @decide_eq_true_eq:=@decide_eq_true_eq
theorem ZDW:type_of% @not_false_eq_true:=@not_false_eq_true
theorem ZDX:type_of% @not_true_eq_false:=@not_true_eq_false
theorem ZDY:type_of% @of_decide_eq_true:=@of_decide_eq_true
theorem ZDZ:type_of% @of_decide_eq_false:=@of_decide_eq_false
theorem Zn:type_of% @congrArg:=@congrArg
theorem ZD1:type_of% @decide_eq_true_iff:=@decide_eq_true_iff
theorem ZD2:type_of% @List.take_of_length_le:=@List.take_of_length_le
theorem ZD3:type_of% @List.getElem_mem:=@List.getElem_mem
theorem ZD4:type_of% @eq_self:=@eq_self
theorem ZD5:type_of% @false_or:=@false_or
theorem Z4:type_of% @or_false:=@or_false
theorem ZD7:type_of% @true_or:=@true_or
theorem ZD8:type_of% @or_true:=@or_true
theorem ZZ:type_of% @true_and:=@true_and
theorem Z3:type_of% @and_true:=@and_true
theorem Z1:type_of% @false_and:=@false_and
theorem Z2:type_of% @and_false:=@and_false
theorem ZEd:type_of% @beq_iff_eq:=@beq_iff_eq
theorem Zv:type_of% @List.getElem?_eq_getElem:=@List.getElem?_eq_getElem
theorem Ze:type_of% @RowKit.Below.refl:=@RowKit.Below.refl
theorem ZA:type_of% @Calls.quiet_of_same:=@Calls.quiet_of_same
theorem Zz:type_of% @heap_alloc_new:=@heap_alloc_new
theorem ZEk:type_of% @heap_setCell_same:=@heap_setCell_same
theorem ZO:type_of% @cell_of_row:=@cell_of_row
theorem ZEm:type_of% @frozen_of_row:=@frozen_of_row
theorem ZEn:type_of% @World.grownBy_alloc:=@World.grownBy_alloc
theorem ZEo:type_of% @World.ownsRow_nil:=@World.ownsRow_nil
theorem ZY:type_of% @IntKind.wrap_i64:=@IntKind.wrap_i64
theorem ZEq:type_of% @Exit.noGoto_ret:=@Exit.noGoto_ret
theorem ZEr:type_of% @ByteArray.toList_eq:=@ByteArray.toList_eq
theorem Zc{P:Program}{n:Nat}{us:Array Value}{w v:World}{r:Ending}{Q:Ending->World->Prop}(h:Calls P n us w fun e w'=>e=r/\w'=v)(k:Q r v):Calls P n us w Q:=h.mono (by rintro e w' ⟨rfl,rfl⟩;exact k)
theorem ZM{P:Program}{n:Nat}{us:Array Value}{w:World}{r:Ending}{K:World->Prop}{Q:Ending->World->Prop}(h:Calls P n us w fun e w'=>e=r/\K w')(k:∀w',K w'->Q r w'):Calls P n us w Q:=h.mono (by rintro e w' ⟨rfl,g⟩;exact k _ g)
theorem ZX.{u}{α:Sort u}(e:α):∃x,e=x:=⟨_,rfl⟩
abbrev ZB:=ByteArray
abbrev I(k:Int):Value:=.int .i64 k
abbrev ZL(w w':World):Prop:=Go.RowKit.Below w.heap.size w w'
abbrev ZJ:Value:=.tuple #[.agg #[.bool false,.string ⟨#[]⟩,I 0],.bool false]
abbrev ZK:Value:=.tuple #[.agg #[I 0,I 0,I 0,I 0,I 0,I 0,.bool false,I 0],.bool false]

end Go.Proofs.YtcdnilpdohknfaaGreatDoor
