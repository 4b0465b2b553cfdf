import Derived.Test.YtcdnilpdohknfaaGreatDoorJ30
set_option linter.unusedVariables false
set_option linter.unusedSimpArgs false
set_option maxRecDepth 100000
set_option maxHeartbeats 16000000
namespace Go.Proofs.YtcdnilpdohknfaaGreatDoor
open Tryz
section
open Go.RowKit Go.Joins
noncomputable def thO (o:Option ZB)(x:Ty)(k:Int)(s:ZB):Option ZB:=match o with
  |none=>none
  |some v=>fcO x k s v
def ZCF(r:Ru):Array Value:=#[.string r.x.nm,I r.x.kd,I r.x.bs,.slice r.am r.x.ms.length r.cm,I r.x.mn,I r.x.mx,.string r.x.lo,.string r.x.hi,.string r.x.pt,.slice r.ae r.x.en.length r.ce]
theorem Zmv(F:Nat)(r:Ru)(m n:Nat)(b off c:Nat)(s:ZB)(w:World)(o:Option ZB)(hnm:n<m)(hm:m<=20000)(h1c:(ruV r).toArray.all (·.oneCell')=true)
  (hc:∀(i:Nat) (v:Value),(ruV r)[i]?=some v->w.cell? ⟨b,off+n*18+i,none⟩=some v)
  (HIX:∀(G:Nat) (w:World),(Instr.index 82 (.agg (kdT G)) (I r.x.kd)).run prog w=.ok (.func (.func F) #[] #[]) w)
  (HEN:∀(args:Array Value) (w:World),(callFunc F args).run prog w=.ok (.enter F args) w)
  (CK:Hid (∀(w1:World),ZL w w1->Calls prog F #[.string s] w1 (ZT o w1)))
  (CT:Hid (∀(v:ZB) (w1:World) (R:Nat),o=some v->ZL w w1->RuB w1 R r->Calls prog 51 #[.pointer (some ⟨R,0,none⟩),.string v,.string s] w1 (BlA (fcP r.x r.cs s v) w1))):
  Calls prog 28 #[.slice (some ⟨b,off,none⟩) m c,I n,.string s] w (ZT (thO o r.x r.cs s) w):=by
 have c0:=hc 0 _ rfl;have c1:=hc 1 _ rfl;have c2:=hc 2 _ rfl;have c3:=hc 3 _ rfl;have c4:=hc 4 _ rfl;have c5:=hc 5 _ rfl;have c6:=hc 6 _ rfl;have c7:=hc 7 _ rfl;have c8:=hc 8 _ rfl;have c9:=hc 9 _ rfl;have c10:=hc 10 _ rfl;have c11:=hc 11 _ rfl;have c12:=hc 12 _ rfl;have c13:=hc 13 _ rfl;have c14:=hc 14 _ rfl;have c15:=hc 15 _ rfl;have c16:=hc 16 _ rfl;have c17:=hc 17 _ rfl;rw[Nat.add_zero]at c0;have hnmi:(n:Int)<(m:Int):=by omega
 have HB0:Hid (ZL w (w.alloc (.cells (ruV r).toArray 64))):=J ((Ze _ _).alloc (Zb _) _);have HX0:Hid (RuB (w.alloc (.cells (ruV r).toArray 64)) w.heap.size r):=J (Zz w _);have HS0:Hid (w.heap.size<(w.alloc (.cells (ruV r).toArray 64)).heap.size):=J (by simp);unfold ZT at CK;unfold Zf0 at CK;obtain⟨T2,hT2⟩:=ZX (o.getD ⟨#[]⟩);obtain⟨B2,hB2⟩:=ZX o.isSome;rw[hT2,hB2]at CK;have HT2:=J hT2;have HBo:=J hB2;clear hT2 hB2 hc;have HL:Hid (∀o,(w.alloc o).heap[w.heap.size]?=some o):=J (λo=>Zz w o);have HSR:Hid (∀xs ys T,(w.alloc (.cells xs T)).setRow w.heap.size ys=w.alloc (.cells ys T)):=J (λxs ys T=>World.setRow_alloc_new w xs ys T);have HSZ:Hid ((prog.info? 64).map (·.size)=some (ruV r).toArray.size):=J (by kernel_rfl);have H1C:=J h1c;clear h1c;go_enter func28,ntmps28
 go_upto_region 2 with (refine wpList_store_row rfl 64 _ _ rfl w.heap.size (ruV r).toArray rfl rfl 64 _ (HL.out _) HSZ.out rfl H1C.out ?_;rw[HSR.out])
 obtain⟨W0,hW0⟩:=ZX (w.alloc (.cells (ruV r).toArray 64));have HW0:Hid (ZL w W0):=J (by rw[<-hW0];exact HB0.out);have HR0:Hid (RuB W0 w.heap.size r):=J (by rw[<-hW0];exact HX0.out);have HG0:Hid (w.heap.size<W0.heap.size):=J (by rw[<-hW0];exact HS0.out);rw[hW0];clear hW0 HB0 HX0 HS0 HL HSR HSZ H1C c0 c1 c2 c3 c4 c5 c6 c7 c8 c9 c10 c11 c12 c13 c14 c15 c16 c17;obtain⟨G,hG⟩:=ZX w.heap.size;have HKS:Hid (∀W9,ZL W0 W9->ZL W0 W9/\W9.cell? ⟨w.heap.size,0,none⟩=some (.string r.x.nm)/\W9.cell? ⟨w.heap.size,1,none⟩=some (I r.x.kd)/\W9.cell? ⟨w.heap.size,2,none⟩=some (I r.x.bs)/\W9.cell? ⟨w.heap.size,3,none⟩=some (.slice r.am r.x.ms.length r.cm)/\W9.cell? ⟨w.heap.size,4,none⟩=some (I r.x.mn)/\W9.cell? ⟨w.heap.size,5,none⟩=some (I r.x.mx)/\W9.cell? ⟨w.heap.size,6,none⟩=some (.string r.x.lo)/\W9.cell? ⟨w.heap.size,7,none⟩=some (.string r.x.hi)/\W9.cell? ⟨w.heap.size,8,none⟩=some (.string r.x.pt)/\W9.cell? ⟨w.heap.size,9,none⟩=some (.slice r.ae r.x.en.length r.ce)):=J (λW9 h9=>by
  have h:=Zbk HR0.out h9;exact⟨h9,ZE h 0,ZE h 1,ZE h 2,ZE h 3,ZE h 4,ZE h 5,ZE h 6,ZE h 7,ZE h 8,ZE h 9⟩)
 clear hG;have XX:Hid (ZL W0 W0.drew):=J ⟨rfl,rfl,rfl,Zb _,λ_ _=>rfl⟩;try simp only[Act.put]
 go_cut [9,10] (λv9 v10 wx=>v9=.string T2/\v10=.bool B2/\Hid (ZL W0 wx))
 case first=>
  go_region_held3 (λW9=>ZL W0 W9/\W9.cell? ⟨w.heap.size,0,none⟩=some (.string r.x.nm)/\W9.cell? ⟨w.heap.size,1,none⟩=some (I r.x.kd)/\W9.cell? ⟨w.heap.size,2,none⟩=some (I r.x.bs)/\W9.cell? ⟨w.heap.size,3,none⟩=some (.slice r.am r.x.ms.length r.cm)/\W9.cell? ⟨w.heap.size,4,none⟩=some (I r.x.mn)/\W9.cell? ⟨w.heap.size,5,none⟩=some (I r.x.mx)/\W9.cell? ⟨w.heap.size,6,none⟩=some (.string r.x.lo)/\W9.cell? ⟨w.heap.size,7,none⟩=some (.string r.x.hi)/\W9.cell? ⟨w.heap.size,8,none⟩=some (.string r.x.pt)/\W9.cell? ⟨w.heap.size,9,none⟩=some (.slice r.ae r.x.en.length r.ce)) (first|assumption|exact HKS.out _ XX.out) (first|(go_at_call 50;refine ZM (Zed _ _ _ _ _ _ _ _ _ _ _ _ _ _) ?_;rintro w9 ⟨-,-,hb9,-⟩;have X2:=J (XX.out.trans (hb9.mono XX.out.size));replace XX:=X2;clear X2 hb9)|(refine ZM (CK.out _ (HW0.out.trans (XX.out.mono HW0.out.size))) ?_;rintro w9 hb9;have X2:=J (XX.out.trans (hb9.mono XX.out.size));replace XX:=X2;clear X2 hb9))
  all_goals
   go_wp2;go_meet
   exact⟨rfl,rfl,XX⟩
 obtain⟨rfl,rfl,HBc⟩:=hcut;have HB5:=J (HW0.out.trans (HBc.out.mono HW0.out.size));have HR5:=J (Zbk HR0.out HBc.out);clear XX HKS CK;cases o with
 |none=>
  have hb9:B2=false:=HBo.out.symm;subst hb9;go_wp2_with fail
  go_ret2;exact Zim rfl HB5.out
 |some v2=>
  have hb9:B2=true:=HBo.out.symm;have ht9:T2=v2:=HT2.out.symm;subst hb9 ht9;have C5:=J (CT.out T2 _ _ rfl HB5.out HR5.out);unfold BlA at C5;go_wp2_with fail
  refine C5.out.mono ?_;rintro e w7 ⟨B,rfl,hB,hb7⟩;have HB7:=J (Zp HB5.out hb7);have HBB:=J hB;clear hb7 hB C5;cases B
  ·have HY:Hid (thO (some T2) r.x r.cs s=none):=J (by unfold thO;exact ZoX (λe=>by have:=HBB.out.2 e;cases this));go_wp2;go_ret2;exact Zim HY.out HB7.out
  ·have HY:Hid (thO (some T2) r.x r.cs s=some T2):=J (by unfold thO;exact Zmx (HBB.out.1 rfl));go_wp2;go_ret2;exact ZlS HY.out HB7.out
end
end Go.Proofs.YtcdnilpdohknfaaGreatDoor
