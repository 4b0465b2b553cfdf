import Derived.Test.YtcdnilpdohknfaaGreatDoorJ27
import Derived.Test.YtcdnilpdohknfaaGreatDoorJ28
set_option linter.unusedVariables false
set_option linter.unusedSimpArgs false
set_option maxRecDepth 100000
set_option maxHeartbeats 16000000
namespace Go.Proofs.YtcdnilpdohknfaaGreatDoor
open Tryz
section
open Go.RowKit Go.Joins
theorem ZCn(x:Ty)(am:Option Addr)(cm:Nat)(ae:Option Addr)(ce:Nat)(k:Int)(w:World)(hx:TyZ x)(hen:Zm7 w ae x.en w.heap.size):
  Calls prog 54 #[.agg #[.string x.nm,I x.kd,I x.bs,.slice am x.ms.length cm,I x.mn,I x.mx,.string x.lo,.string x.hi,.string x.pt,.slice ae x.en.length ce],I k] w (BlA (fkP x k) w):=by
 obtain⟨z0,z1,z2,z3,z4,z5,z6⟩:=hx;have HEN:=J hen;have HZ6:=J z6;obtain⟨nm,kd,bs,ms,mn,mx,lo,hi,pt,en⟩:=x;simp only at z0 z1 z2 z3 z4 z5;obtain⟨q,hq⟩:=ZX en.length;obtain⟨mq,hmq⟩:∃q,ms.length=q:=⟨_,rfl⟩;have HQ:=J hq;simp only;obtain⟨P,hP⟩:=ZX (fkP ⟨nm,kd,bs,ms,mn,mx,lo,hi,pt,en⟩ k);have HFP:Hid (P↔(-1<=mn/\mn<=1000)/\(-1<=mx/\mx<=1000)/\(lgK k\/(mn<0/\mx<0))/\(mn<0\/mx<0\/mn<=mx)/\(odK k\/(lo.size=0/\hi.size=0))/\q<=12/\(8<=k->pt.size=0/\q=0)/\(lo.size=0\/atO k lo=true)/\(hi.size=0\/atO k hi=true)/\(lo.size=0\/hi.size=0\/ZeB k (atV k lo) (atV k hi))/\Zs3 pt=true/\∀e∈en,atO k e=true):=J (by
  rw[<-hP,<-hq];unfold fkP;simp only[ZDx])
 rw[hP,hq,hmq];rw[hq]at z5;have HB0:Hid (ZL w (w.alloc (.cells #[.string nm,I kd,I bs,.slice am mq cm,I mn,I mx,.string lo,.string hi,.string pt,.slice ae q ce] 33))):=J ((Ze _ _).alloc (Zb _) _);have HX0:Hid (ZV (w.alloc (.cells #[.string nm,I kd,I bs,.slice am mq cm,I mn,I mx,.string lo,.string hi,.string pt,.slice ae q ce] 33)) w.heap.size #[.string nm,I kd,I bs,.slice am mq cm,I mn,I mx,.string lo,.string hi,.string pt,.slice ae q ce]):=J (ZbQ w _ 33);clear hP hq hmq hen z6;go_enter func54,ntmps54
 go_upto_region 1 with fail
 obtain⟨W0,hW0⟩:=ZX (w.alloc (.cells #[.string nm,I kd,I bs,.slice am mq cm,I mn,I mx,.string lo,.string hi,.string pt,.slice ae q ce] 33));rw[hW0]at HB0 HX0;rw[hW0];clear hW0;go_upto_region 1 with fail
 obtain⟨lb,hlb⟩:∃b:Bool,b=decide (k=1\/k=2\/k=3\/k=8):=⟨_,rfl⟩;have HLB:=J hlb;clear hlb
 go_cut [5] (λvv wx=>vv=.bool lb/\Hid (ZL w wx)/\Hid (ZV wx w.heap.size #[.string nm,I kd,I bs,.slice am mq cm,I mn,I mx,.string lo,.string hi,.string pt,.slice ae q ce]))
 case first=>
  as_aux_lemma=>
   obtain⟨c0,c1,c2,c3,c4,c5,c6,c7,c8,c9⟩:=ZeD HX0.out;by_cases k1:k=1
   ·have k11:(k==1)=true:=(by rw[k1];rfl);have hb9:lb=true:=(by rw[HLB.out];exact Zh (by first|omega|(simp only[ZN,ZQ,ZD4,ZD5,Z4,ZD7,ZD8,ZZ,Z3,Z1,Z2,ZDW,ZDX]<;>omega)|(simp<;>omega)));clear k1;go_wp2;go_meet
    exact⟨by rw[hb9]<;>first|rfl|(congr 1;first|(exact Zh (by omega))|(exact Zg (by omega))|(simp<;>omega)),HB0,HX0⟩
   ·have k11:(k==1)=false:=(by rw[ZDU];exact k1);by_cases k2:k=2
    ·have k21:(k==2)=true:=(by rw[k2];rfl);have hb9:lb=true:=(by rw[HLB.out];exact Zh (by first|omega|(simp only[ZN,ZQ,ZD4,ZD5,Z4,ZD7,ZD8,ZZ,Z3,Z1,Z2,ZDW,ZDX]<;>omega)|(simp<;>omega)));clear k2;go_wp2;go_meet
     exact⟨by rw[hb9]<;>first|rfl|(congr 1;first|(exact Zh (by omega))|(exact Zg (by omega))|(simp<;>omega)),HB0,HX0⟩
    ·have k21:(k==2)=false:=(by rw[ZDU];exact k2);by_cases k3:k=3
     ·have k31:(k==3)=true:=(by rw[k3];rfl);have hb9:lb=true:=(by rw[HLB.out];exact Zh (by first|omega|(simp only[ZN,ZQ,ZD4,ZD5,Z4,ZD7,ZD8,ZZ,Z3,Z1,Z2,ZDW,ZDX]<;>omega)|(simp<;>omega)));clear k3;go_wp2;go_meet
      exact⟨by rw[hb9]<;>first|rfl|(congr 1;first|(exact Zh (by omega))|(exact Zg (by omega))|(simp<;>omega)),HB0,HX0⟩
     ·have k31:(k==3)=false:=(by rw[ZDU];exact k3);by_cases k8:k=8
      ·have k81:(k==8)=true:=(by rw[k8];rfl);have hb9:lb=true:=(by rw[HLB.out];exact Zh (by first|omega|(simp only[ZN,ZQ,ZD4,ZD5,Z4,ZD7,ZD8,ZZ,Z3,Z1,Z2,ZDW,ZDX]<;>omega)|(simp<;>omega)));clear k8;go_wp2;go_meet
       exact⟨by rw[hb9]<;>first|rfl|(congr 1;first|(exact Zh (by omega))|(exact Zg (by omega))|(simp<;>omega)),HB0,HX0⟩
      ·have k81:(k==8)=false:=(by rw[ZDU];exact k8);have hb9:lb=false:=(by rw[HLB.out];exact Zg (by first|omega|(simp only[ZN,ZQ,ZD4,ZD5,Z4,ZD7,ZD8,ZZ,Z3,Z1,Z2,ZDW,ZDX]<;>omega)|(simp<;>omega)));go_wp2;go_meet
       exact⟨by rw[hb9]<;>first|rfl|(congr 1;first|(exact Zh (by omega))|(exact Zg (by omega))|(simp<;>omega)),HB0,HX0⟩
 obtain⟨rfl,HB1,HX1⟩:=hcut;clear HB0 HX0;go_upto_region 2 with fail
 obtain⟨ob,hob⟩:∃b:Bool,b=decide (k=5\/k=6\/k=7):=⟨_,rfl⟩;have HOB:=J hob;clear hob
 go_cut [6] (λvv wx=>vv=.bool ob/\Hid (ZL w wx)/\Hid (ZV wx w.heap.size #[.string nm,I kd,I bs,.slice am mq cm,I mn,I mx,.string lo,.string hi,.string pt,.slice ae q ce]))
 case first=>
  as_aux_lemma=>
   obtain⟨c0,c1,c2,c3,c4,c5,c6,c7,c8,c9⟩:=ZeD HX1.out;by_cases k5:k=5
   ·have k51:(k==5)=true:=(by rw[k5];rfl);have hb9:ob=true:=(by rw[HOB.out];exact Zh (by first|omega|(simp only[ZN,ZQ,ZD4,ZD5,Z4,ZD7,ZD8,ZZ,Z3,Z1,Z2,ZDW,ZDX]<;>omega)|(simp<;>omega)));clear k5;go_wp2;go_meet
    exact⟨by rw[hb9]<;>first|rfl|(congr 1;first|(exact Zh (by omega))|(exact Zg (by omega))|(simp<;>omega)),HB1,HX1⟩
   ·have k51:(k==5)=false:=(by rw[ZDU];exact k5);by_cases k6:k=6
    ·have k61:(k==6)=true:=(by rw[k6];rfl);have hb9:ob=true:=(by rw[HOB.out];exact Zh (by first|omega|(simp only[ZN,ZQ,ZD4,ZD5,Z4,ZD7,ZD8,ZZ,Z3,Z1,Z2,ZDW,ZDX]<;>omega)|(simp<;>omega)));clear k6;go_wp2;go_meet
     exact⟨by rw[hb9]<;>first|rfl|(congr 1;first|(exact Zh (by omega))|(exact Zg (by omega))|(simp<;>omega)),HB1,HX1⟩
    ·have k61:(k==6)=false:=(by rw[ZDU];exact k6);by_cases k7:k=7
     ·have k71:(k==7)=true:=(by rw[k7];rfl);have hb9:ob=true:=(by rw[HOB.out];exact Zh (by first|omega|(simp only[ZN,ZQ,ZD4,ZD5,Z4,ZD7,ZD8,ZZ,Z3,Z1,Z2,ZDW,ZDX]<;>omega)|(simp<;>omega)));clear k7;go_wp2;go_meet
      exact⟨by rw[hb9]<;>first|rfl|(congr 1;first|(exact Zh (by omega))|(exact Zg (by omega))|(simp<;>omega)),HB1,HX1⟩
     ·have k71:(k==7)=false:=(by rw[ZDU];exact k7);have hb9:ob=false:=(by rw[HOB.out];exact Zg (by first|omega|(simp only[ZN,ZQ,ZD4,ZD5,Z4,ZD7,ZD8,ZZ,Z3,Z1,Z2,ZDW,ZDX]<;>omega)|(simp<;>omega)));go_wp2;go_meet
      exact⟨by rw[hb9]<;>first|rfl|(congr 1;first|(exact Zh (by omega))|(exact Zg (by omega))|(simp<;>omega)),HB1,HX1⟩
 obtain⟨rfl,HB2,HX2⟩:=hcut;clear HB1 HX1;go_upto_region 3 with fail
 obtain⟨bb1,hbb1⟩:∃b:Bool,b=decide (¬((-1<=mn/\mn<=1000)/\(-1<=mx/\mx<=1000)/\(lb=true\/(mn<0/\mx<0))/\(mn<0\/mx<0\/mn<=mx))):=⟨_,rfl⟩;have HBB1:=J hbb1;clear hbb1
 go_cut [81] (λvv wx=>vv=.bool bb1/\Hid (ZL w wx)/\Hid (ZV wx w.heap.size #[.string nm,I kd,I bs,.slice am mq cm,I mn,I mx,.string lo,.string hi,.string pt,.slice ae q ce]))
 case first=>
  as_aux_lemma=>
   obtain⟨c0,c1,c2,c3,c4,c5,c6,c7,c8,c9⟩:=ZeD HX2.out;by_cases a1 : -1<=mn/\mn<=1000
   ·by_cases a2 : -1<=mx/\mx<=1000
    ·cases lb
     ·by_cases a3:0<=mn
      ·have hb9:bb1=true:=(by rw[HBB1.out];exact Zh (by first|omega|(simp only[ZN,ZQ,ZD4,ZD5,Z4,ZD7,ZD8,ZZ,Z3,Z1,Z2,ZDW,ZDX]<;>omega)|(simp<;>omega)));go_wp2_with (go_at_call 30;(first|(refine(Zby _ _ _ _ (by omega)).mono ?_)|(refine(ZbY _ _ _ _ (by omega)).mono ?_));rintro e w9 ⟨rfl,h9⟩;rw[h9];clear h9 w9)
       go_meet
       exact⟨by rw[hb9]<;>first|rfl|(congr 1;first|(exact Zh (by omega))|(exact Zg (by omega))|(simp<;>omega)),HB2,HX2⟩
      ·by_cases a4:0<=mx
       ·have hb9:bb1=true:=(by rw[HBB1.out];exact Zh (by first|omega|(simp only[ZN,ZQ,ZD4,ZD5,Z4,ZD7,ZD8,ZZ,Z3,Z1,Z2,ZDW,ZDX]<;>omega)|(simp<;>omega)));go_wp2_with (go_at_call 30;(first|(refine(Zby _ _ _ _ (by omega)).mono ?_)|(refine(ZbY _ _ _ _ (by omega)).mono ?_));rintro e w9 ⟨rfl,h9⟩;rw[h9];clear h9 w9)
        go_meet
        exact⟨by rw[hb9]<;>first|rfl|(congr 1;first|(exact Zh (by omega))|(exact Zg (by omega))|(simp<;>omega)),HB2,HX2⟩
       ·have hb9:bb1=false:=(by rw[HBB1.out];exact Zg (by first|omega|(simp only[ZN,ZQ,ZD4,ZD5,Z4,ZD7,ZD8,ZZ,Z3,Z1,Z2,ZDW,ZDX]<;>omega)|(simp<;>omega)));go_wp2_with (go_at_call 30;(first|(refine(Zby _ _ _ _ (by omega)).mono ?_)|(refine(ZbY _ _ _ _ (by omega)).mono ?_));rintro e w9 ⟨rfl,h9⟩;rw[h9];clear h9 w9)
        go_meet
        exact⟨by rw[hb9]<;>first|rfl|(congr 1;first|(exact Zh (by omega))|(exact Zg (by omega))|(simp<;>omega)),HB2,HX2⟩
     ·by_cases a3:0<=mn
      ·by_cases a4:0<=mx
       ·by_cases a5:mx<mn
        ·have hb9:bb1=true:=(by rw[HBB1.out];exact Zh (by first|omega|(simp only[ZN,ZQ,ZD4,ZD5,Z4,ZD7,ZD8,ZZ,Z3,Z1,Z2,ZDW,ZDX]<;>omega)|(simp<;>omega)));go_wp2_with (go_at_call 30;(first|(refine(Zby _ _ _ _ (by omega)).mono ?_)|(refine(ZbY _ _ _ _ (by omega)).mono ?_));rintro e w9 ⟨rfl,h9⟩;rw[h9];clear h9 w9)
         go_meet
         exact⟨by rw[hb9]<;>first|rfl|(congr 1;first|(exact Zh (by omega))|(exact Zg (by omega))|(simp<;>omega)),HB2,HX2⟩
        ·have hb9:bb1=false:=(by rw[HBB1.out];exact Zg (by first|omega|(simp only[ZN,ZQ,ZD4,ZD5,Z4,ZD7,ZD8,ZZ,Z3,Z1,Z2,ZDW,ZDX]<;>omega)|(simp<;>omega)));go_wp2_with (go_at_call 30;(first|(refine(Zby _ _ _ _ (by omega)).mono ?_)|(refine(ZbY _ _ _ _ (by omega)).mono ?_));rintro e w9 ⟨rfl,h9⟩;rw[h9];clear h9 w9)
         go_meet
         exact⟨by rw[hb9]<;>first|rfl|(congr 1;first|(exact Zh (by omega))|(exact Zg (by omega))|(simp<;>omega)),HB2,HX2⟩
       ·have hb9:bb1=false:=(by rw[HBB1.out];exact Zg (by first|omega|(simp only[ZN,ZQ,ZD4,ZD5,Z4,ZD7,ZD8,ZZ,Z3,Z1,Z2,ZDW,ZDX]<;>omega)|(simp<;>omega)));go_wp2_with (go_at_call 30;(first|(refine(Zby _ _ _ _ (by omega)).mono ?_)|(refine(ZbY _ _ _ _ (by omega)).mono ?_));rintro e w9 ⟨rfl,h9⟩;rw[h9];clear h9 w9)
        go_meet
        exact⟨by rw[hb9]<;>first|rfl|(congr 1;first|(exact Zh (by omega))|(exact Zg (by omega))|(simp<;>omega)),HB2,HX2⟩
      ·have hb9:bb1=false:=(by rw[HBB1.out];exact Zg (by first|omega|(simp only[ZN,ZQ,ZD4,ZD5,Z4,ZD7,ZD8,ZZ,Z3,Z1,Z2,ZDW,ZDX]<;>omega)|(simp<;>omega)));go_wp2_with (go_at_call 30;(first|(refine(Zby _ _ _ _ (by omega)).mono ?_)|(refine(ZbY _ _ _ _ (by omega)).mono ?_));rintro e w9 ⟨rfl,h9⟩;rw[h9];clear h9 w9)
       go_meet
       exact⟨by rw[hb9]<;>first|rfl|(congr 1;first|(exact Zh (by omega))|(exact Zg (by omega))|(simp<;>omega)),HB2,HX2⟩
    ·have hb9:bb1=true:=(by rw[HBB1.out];exact Zh (by first|omega|(simp only[ZN,ZQ,ZD4,ZD5,Z4,ZD7,ZD8,ZZ,Z3,Z1,Z2,ZDW,ZDX]<;>omega)|(simp<;>omega)));go_wp2_with (go_at_call 30;(first|(refine(Zby _ _ _ _ (by omega)).mono ?_)|(refine(ZbY _ _ _ _ (by omega)).mono ?_));rintro e w9 ⟨rfl,h9⟩;rw[h9];clear h9 w9)
     go_meet
     exact⟨by rw[hb9]<;>first|rfl|(congr 1;first|(exact Zh (by omega))|(exact Zg (by omega))|(simp<;>omega)),HB2,HX2⟩
   ·have hb9:bb1=true:=(by rw[HBB1.out];exact Zh (by first|omega|(simp only[ZN,ZQ,ZD4,ZD5,Z4,ZD7,ZD8,ZZ,Z3,Z1,Z2,ZDW,ZDX]<;>omega)|(simp<;>omega)));go_wp2_with (go_at_call 30;(first|(refine(Zby _ _ _ _ (by omega)).mono ?_)|(refine(ZbY _ _ _ _ (by omega)).mono ?_));rintro e w9 ⟨rfl,h9⟩;rw[h9];clear h9 w9)
    go_meet
    exact⟨by rw[hb9]<;>first|rfl|(congr 1;first|(exact Zh (by omega))|(exact Zg (by omega))|(simp<;>omega)),HB2,HX2⟩
 obtain⟨rfl,HB3,HX3⟩:=hcut;clear HB2 HX2;by_cases hbc:bb1=true
 ·have HN:Hid (¬P):=J (λh=>by
   have h9:=HFP.out.1 h;have:=HBB1.out;rw[hbc]at this;have:=ZDY this.symm;exact this (⟨h9.1,h9.2.1,h9.2.2.1.imp (λh1=>(by rw[HLB.out];exact Zh (by unfold lgK at h1;exact h1))) id,h9.2.2.2.1⟩))
  subst hbc;go_wp2;go_ret;exact ZdQ HN.out HB3.out
 have hbf:bb1=false:=by simpa using hbc
 have HGbb1:=J (Decidable.of_not_not (ZDZ (HBB1.out.symm.trans hbf)));clear hbc HBB1;subst hbf;go_upto_region 5 with fail
 obtain⟨bb2,hbb2⟩:∃b:Bool,b=decide (¬((ob=true\/(lo.size=0/\hi.size=0))/\q<=12)):=⟨_,rfl⟩;have HBB2:=J hbb2;clear hbb2
 go_cut [99] (λvv wx=>vv=.bool bb2/\Hid (ZL w wx)/\Hid (ZV wx w.heap.size #[.string nm,I kd,I bs,.slice am mq cm,I mn,I mx,.string lo,.string hi,.string pt,.slice ae q ce]))
 case first=>
  as_aux_lemma=>
   obtain⟨c0,c1,c2,c3,c4,c5,c6,c7,c8,c9⟩:=ZeD HX3.out;cases ob
   ·by_cases b1:lo.size=0
    ·have b11:=ZbE b1;by_cases b2:hi.size=0
     ·have b21:=ZbE b2;by_cases b3:12<q
      ·have hb9:bb2=true:=(by rw[HBB2.out];exact Zh (by first|omega|(simp only[ZN,ZQ,ZD4,ZD5,Z4,ZD7,ZD8,ZZ,Z3,Z1,Z2,ZDW,ZDX]<;>omega)|(simp<;>omega)));go_wp2;go_meet
       exact⟨by rw[hb9]<;>first|rfl|(congr 1;first|(exact Zh (by omega))|(exact Zg (by omega))|(simp<;>omega)),HB3,HX3⟩
      ·have hb9:bb2=false:=(by rw[HBB2.out];exact Zg (by first|omega|(simp only[ZN,ZQ,ZD4,ZD5,Z4,ZD7,ZD8,ZZ,Z3,Z1,Z2,ZDW,ZDX]<;>omega)|(simp<;>omega)));go_wp2;go_meet
       exact⟨by rw[hb9]<;>first|rfl|(congr 1;first|(exact Zh (by omega))|(exact Zg (by omega))|(simp<;>omega)),HB3,HX3⟩
     ·have b21:=Zbx b2;have hb9:bb2=true:=(by rw[HBB2.out];exact Zh (by first|omega|(simp only[ZN,ZQ,ZD4,ZD5,Z4,ZD7,ZD8,ZZ,Z3,Z1,Z2,ZDW,ZDX]<;>omega)|(simp<;>omega)));go_wp2;go_meet
      exact⟨by rw[hb9]<;>first|rfl|(congr 1;first|(exact Zh (by omega))|(exact Zg (by omega))|(simp<;>omega)),HB3,HX3⟩
    ·have b11:=Zbx b1;have hb9:bb2=true:=(by rw[HBB2.out];exact Zh (by first|omega|(simp only[ZN,ZQ,ZD4,ZD5,Z4,ZD7,ZD8,ZZ,Z3,Z1,Z2,ZDW,ZDX]<;>omega)|(simp<;>omega)));go_wp2;go_meet
     exact⟨by rw[hb9]<;>first|rfl|(congr 1;first|(exact Zh (by omega))|(exact Zg (by omega))|(simp<;>omega)),HB3,HX3⟩
   ·by_cases b3:12<q
    ·have hb9:bb2=true:=(by rw[HBB2.out];exact Zh (by first|omega|(simp only[ZN,ZQ,ZD4,ZD5,Z4,ZD7,ZD8,ZZ,Z3,Z1,Z2,ZDW,ZDX]<;>omega)|(simp<;>omega)));go_wp2;go_meet
     exact⟨by rw[hb9]<;>first|rfl|(congr 1;first|(exact Zh (by omega))|(exact Zg (by omega))|(simp<;>omega)),HB3,HX3⟩
    ·have hb9:bb2=false:=(by rw[HBB2.out];exact Zg (by first|omega|(simp only[ZN,ZQ,ZD4,ZD5,Z4,ZD7,ZD8,ZZ,Z3,Z1,Z2,ZDW,ZDX]<;>omega)|(simp<;>omega)));go_wp2;go_meet
     exact⟨by rw[hb9]<;>first|rfl|(congr 1;first|(exact Zh (by omega))|(exact Zg (by omega))|(simp<;>omega)),HB3,HX3⟩
 obtain⟨rfl,HB4,HX4⟩:=hcut;clear HB3 HX3;by_cases hbc:bb2=true
 ·have HN:Hid (¬P):=J (λh=>by
   have h9:=HFP.out.1 h;have:=HBB2.out;rw[hbc]at this;have:=ZDY this.symm;exact this (⟨h9.2.2.2.2.1.imp (λh1=>(by rw[HOB.out];exact Zh (by unfold odK at h1;exact h1))) id,h9.2.2.2.2.2.1⟩))
  subst hbc;go_wp2;go_ret;exact ZdQ HN.out HB4.out
 have hbf:bb2=false:=by simpa using hbc
 have HGbb2:=J (Decidable.of_not_not (ZDZ (HBB2.out.symm.trans hbf)));clear hbc HBB2;subst hbf;go_upto_region 7 with fail
 obtain⟨bb3,hbb3⟩:∃b:Bool,b=decide (¬(8<=k->pt.size=0/\q=0)):=⟨_,rfl⟩;have HBB3:=J hbb3;clear hbb3
 go_cut [112] (λvv wx=>vv=.bool bb3/\Hid (ZL w wx)/\Hid (ZV wx w.heap.size #[.string nm,I kd,I bs,.slice am mq cm,I mn,I mx,.string lo,.string hi,.string pt,.slice ae q ce]))
 case first=>
  as_aux_lemma=>
   obtain⟨c0,c1,c2,c3,c4,c5,c6,c7,c8,c9⟩:=ZeD HX4.out;by_cases d1:8<=k
   ·by_cases d2:pt.size=0
    ·have d21:=ZbE d2;by_cases d3:0<q
     ·have hb9:bb3=true:=(by rw[HBB3.out];exact Zh (by first|omega|(simp only[ZN,ZQ,ZD4,ZD5,Z4,ZD7,ZD8,ZZ,Z3,Z1,Z2,ZDW,ZDX]<;>omega)|(simp<;>omega)));go_wp2;go_meet
      exact⟨by rw[hb9]<;>first|rfl|(congr 1;first|(exact Zh (by omega))|(exact Zg (by omega))|(simp<;>omega)),HB4,HX4⟩
     ·have hb9:bb3=false:=(by rw[HBB3.out];exact Zg (by first|omega|(simp only[ZN,ZQ,ZD4,ZD5,Z4,ZD7,ZD8,ZZ,Z3,Z1,Z2,ZDW,ZDX]<;>omega)|(simp<;>omega)));go_wp2;go_meet
      exact⟨by rw[hb9]<;>first|rfl|(congr 1;first|(exact Zh (by omega))|(exact Zg (by omega))|(simp<;>omega)),HB4,HX4⟩
    ·have d21:=Zbx d2;have hb9:bb3=true:=(by rw[HBB3.out];exact Zh (by first|omega|(simp only[ZN,ZQ,ZD4,ZD5,Z4,ZD7,ZD8,ZZ,Z3,Z1,Z2,ZDW,ZDX]<;>omega)|(simp<;>omega)));go_wp2;go_meet
     exact⟨by rw[hb9]<;>first|rfl|(congr 1;first|(exact Zh (by omega))|(exact Zg (by omega))|(simp<;>omega)),HB4,HX4⟩
   ·have hb9:bb3=false:=(by rw[HBB3.out];exact Zg (by first|omega|(simp only[ZN,ZQ,ZD4,ZD5,Z4,ZD7,ZD8,ZZ,Z3,Z1,Z2,ZDW,ZDX]<;>omega)|(simp<;>omega)));go_wp2;go_meet
    exact⟨by rw[hb9]<;>first|rfl|(congr 1;first|(exact Zh (by omega))|(exact Zg (by omega))|(simp<;>omega)),HB4,HX4⟩
 obtain⟨rfl,HB5,HX5⟩:=hcut;clear HB4 HX4;by_cases hbc:bb3=true
 ·have HN:Hid (¬P):=J (λh=>by
   have h9:=HFP.out.1 h;have:=HBB3.out;rw[hbc]at this;have:=ZDY this.symm;exact this (h9.2.2.2.2.2.2.1))
  subst hbc;go_wp2;go_ret;exact ZdQ HN.out HB5.out
 have hbf:bb3=false:=by simpa using hbc
 have HGbb3:=J (Decidable.of_not_not (ZDZ (HBB3.out.symm.trans hbf)));clear hbc HBB3;subst hbf;go_upto_region 9 with fail
 obtain⟨c0,c1,c2,c3,c4,c5,c6,c7,c8,c9⟩:=ZeD HX5.out;go_wp2_with fail
 refine(ZhZ k lo _ (by omega)).mono ?_;rintro e w6 ⟨vl,bl,rfl,hbl,hvl,hb6⟩;have HB6:=J (Zp HB5.out hb6);have HX6:=J (Zas HX5.out hb6 (Zax HX5.out));have HBL:=J hbl;have HVL:=J hvl;clear hbl hvl hb6 HB5 HX5 c0 c1 c2 c3 c4 c5 c6 c7 c8 c9;obtain⟨c0,c1,c2,c3,c4,c5,c6,c7,c8,c9⟩:=ZeD HX6.out;go_wp2_with fail
 refine(ZhZ k hi _ (by omega)).mono ?_;rintro e w7 ⟨vh,bh,rfl,hbh,hvh,hb7⟩;have HB7:=J (Zp HB6.out hb7);have HX7:=J (Zas HX6.out hb7 (Zax HX6.out));have HBH:=J hbh;have HVH:=J hvh;clear hbh hvh hb7 HB6 HX6 c0 c1 c2 c3 c4 c5 c6 c7 c8 c9;go_upto_region 11 with fail
 obtain⟨bb4,hbb4⟩:∃b:Bool,b=decide (¬((lo.size=0\/bl=true)/\(hi.size=0\/bh=true))):=⟨_,rfl⟩;have HBB4:=J hbb4;clear hbb4
 go_cut [142] (λvv wx=>vv=.bool bb4/\Hid (ZL w wx)/\Hid (ZV wx w.heap.size #[.string nm,I kd,I bs,.slice am mq cm,I mn,I mx,.string lo,.string hi,.string pt,.slice ae q ce]))
 case first=>
  as_aux_lemma=>
   obtain⟨c0,c1,c2,c3,c4,c5,c6,c7,c8,c9⟩:=ZeD HX7.out;by_cases e1:lo.size=0
   ·have e11:=ZbE e1;by_cases e2:hi.size=0
    ·have e21:=ZbE e2;have hb9:bb4=false:=(by rw[HBB4.out];exact Zg (by first|omega|(simp only[ZN,ZQ,ZD4,ZD5,Z4,ZD7,ZD8,ZZ,Z3,Z1,Z2,ZDW,ZDX]<;>omega)|(simp<;>omega)));go_wp2;go_meet
     exact⟨by rw[hb9]<;>first|rfl|(congr 1;first|(exact Zh (by omega))|(exact Zg (by omega))|(simp<;>omega)),HB7,HX7⟩
    ·have e21:=Zbx e2;cases bh
     ·have hb9:bb4=true:=(by rw[HBB4.out];exact Zh (by first|omega|(simp only[ZN,ZQ,ZD4,ZD5,Z4,ZD7,ZD8,ZZ,Z3,Z1,Z2,ZDW,ZDX]<;>omega)|(simp<;>omega)));go_wp2;go_meet
      exact⟨by rw[hb9]<;>first|rfl|(congr 1;first|(exact Zh (by omega))|(exact Zg (by omega))|(simp<;>omega)),HB7,HX7⟩
     ·have hb9:bb4=false:=(by rw[HBB4.out];exact Zg (by first|omega|(simp only[ZN,ZQ,ZD4,ZD5,Z4,ZD7,ZD8,ZZ,Z3,Z1,Z2,ZDW,ZDX]<;>omega)|(simp<;>omega)));go_wp2;go_meet
      exact⟨by rw[hb9]<;>first|rfl|(congr 1;first|(exact Zh (by omega))|(exact Zg (by omega))|(simp<;>omega)),HB7,HX7⟩
   ·have e11:=Zbx e1;cases bl
    ·have hb9:bb4=true:=(by rw[HBB4.out];exact Zh (by first|omega|(simp only[ZN,ZQ,ZD4,ZD5,Z4,ZD7,ZD8,ZZ,Z3,Z1,Z2,ZDW,ZDX]<;>omega)|(simp<;>omega)));go_wp2;go_meet
     exact⟨by rw[hb9]<;>first|rfl|(congr 1;first|(exact Zh (by omega))|(exact Zg (by omega))|(simp<;>omega)),HB7,HX7⟩
    ·by_cases e2:hi.size=0
     ·have e21:=ZbE e2;have hb9:bb4=false:=(by rw[HBB4.out];exact Zg (by first|omega|(simp only[ZN,ZQ,ZD4,ZD5,Z4,ZD7,ZD8,ZZ,Z3,Z1,Z2,ZDW,ZDX]<;>omega)|(simp<;>omega)));go_wp2;go_meet
      exact⟨by rw[hb9]<;>first|rfl|(congr 1;first|(exact Zh (by omega))|(exact Zg (by omega))|(simp<;>omega)),HB7,HX7⟩
     ·have e21:=Zbx e2;cases bh
      ·have hb9:bb4=true:=(by rw[HBB4.out];exact Zh (by first|omega|(simp only[ZN,ZQ,ZD4,ZD5,Z4,ZD7,ZD8,ZZ,Z3,Z1,Z2,ZDW,ZDX]<;>omega)|(simp<;>omega)));go_wp2;go_meet
       exact⟨by rw[hb9]<;>first|rfl|(congr 1;first|(exact Zh (by omega))|(exact Zg (by omega))|(simp<;>omega)),HB7,HX7⟩
      ·have hb9:bb4=false:=(by rw[HBB4.out];exact Zg (by first|omega|(simp only[ZN,ZQ,ZD4,ZD5,Z4,ZD7,ZD8,ZZ,Z3,Z1,Z2,ZDW,ZDX]<;>omega)|(simp<;>omega)));go_wp2;go_meet
       exact⟨by rw[hb9]<;>first|rfl|(congr 1;first|(exact Zh (by omega))|(exact Zg (by omega))|(simp<;>omega)),HB7,HX7⟩
 obtain⟨rfl,HB8,HX8⟩:=hcut;clear HB7 HX7;by_cases hbc:bb4=true
 ·have HN:Hid (¬P):=J (λh=>by
   have h9:=HFP.out.1 h;have:=HBB4.out;rw[hbc]at this;have:=ZDY this.symm;exact this (⟨h9.2.2.2.2.2.2.2.1.imp id (λh1=>by rw[HBL.out];exact h1),h9.2.2.2.2.2.2.2.2.1.imp id (λh1=>by rw[HBH.out];exact h1)⟩))
  subst hbc;go_wp2;go_ret;exact ZdQ HN.out HB8.out
 have hbf:bb4=false:=by simpa using hbc
 have HGbb4:=J (Decidable.of_not_not (ZDZ (HBB4.out.symm.trans hbf)));clear hbc HBB4;subst hbf;go_upto_region 13 with fail
 obtain⟨bb5,hbb5⟩:∃b:Bool,b=decide (¬(lo.size=0\/hi.size=0)):=⟨_,rfl⟩;have HBB5:=J hbb5;clear hbb5
 go_cut [150] (λvv wx=>vv=.bool bb5/\Hid (ZL w wx)/\Hid (ZV wx w.heap.size #[.string nm,I kd,I bs,.slice am mq cm,I mn,I mx,.string lo,.string hi,.string pt,.slice ae q ce]))
 case first=>
  as_aux_lemma=>
   obtain⟨c0,c1,c2,c3,c4,c5,c6,c7,c8,c9⟩:=ZeD HX8.out;by_cases e1:lo.size=0
   ·have e11:=ZbE e1;have hb9:bb5=false:=(by rw[HBB5.out];exact Zg (by first|omega|(simp only[ZN,ZQ,ZD4,ZD5,Z4,ZD7,ZD8,ZZ,Z3,Z1,Z2,ZDW,ZDX]<;>omega)|(simp<;>omega)));go_wp2;go_meet
    exact⟨by rw[hb9]<;>first|rfl|(congr 1;first|(exact Zh (by omega))|(exact Zg (by omega))|(simp<;>omega)),HB8,HX8⟩
   ·have e11:=Zbx e1;by_cases e2:hi.size=0
    ·have e21:=ZbE e2;have hb9:bb5=false:=(by rw[HBB5.out];exact Zg (by first|omega|(simp only[ZN,ZQ,ZD4,ZD5,Z4,ZD7,ZD8,ZZ,Z3,Z1,Z2,ZDW,ZDX]<;>omega)|(simp<;>omega)));go_wp2;go_meet
     exact⟨by rw[hb9]<;>first|rfl|(congr 1;first|(exact Zh (by omega))|(exact Zg (by omega))|(simp<;>omega)),HB8,HX8⟩
    ·have e21:=Zbx e2;have hb9:bb5=true:=(by rw[HBB5.out];exact Zh (by first|omega|(simp only[ZN,ZQ,ZD4,ZD5,Z4,ZD7,ZD8,ZZ,Z3,Z1,Z2,ZDW,ZDX]<;>omega)|(simp<;>omega)));go_wp2;go_meet
     exact⟨by rw[hb9]<;>first|rfl|(congr 1;first|(exact Zh (by omega))|(exact Zg (by omega))|(simp<;>omega)),HB8,HX8⟩
 obtain⟨rfl,HB9,HX9⟩:=hcut;clear HB8 HX8
 go_upto_if 150 with fail
 go_cut [] (λwx=>Hid (ZL w wx)/\Hid (ZV wx w.heap.size #[.string nm,I kd,I bs,.slice am mq cm,I mn,I mx,.string lo,.string hi,.string pt,.slice ae q ce])/\Hid (lo.size=0\/hi.size=0\/ZeB k (atV k lo) (atV k hi)))
 case first=>
  as_aux_lemma=>
  by_cases hbc:bb5=true
  ·have HNE:=J (ZDY (HBB5.out.symm.trans hbc));have hg:=HGbb4.out;have hao:atO k lo=true:=by rw[<-HBL.out];exact hg.1.resolve_left (λe=>HNE.out (.inl e))
   have hah:atO k hi=true:=by rw[<-HBH.out];exact hg.2.resolve_left (λe=>HNE.out (.inr e))
   have hap:=Zb5 (ZcU hao (Zi9 hao (by omega)));have haq:=Zb5 (ZcU hah (Zi9 hah (by omega)));have CO:=J (λw1=>ZmJ k (atV k lo) (atV k hi) w1 (by omega) (by omega) (λe=>⟨by subst e;rw[ZfE];rw[Zfm]at hao;exact(Zb2 hao).1,by subst e;rw[ZfE];rw[Zfm]at hah;exact(Zb2 hah).1⟩));have hvl1:=HVL.out (by rw[HBL.out];exact hao);have hvh1:=HVH.out (by rw[HBH.out];exact hah);rw[<-hvl1,<-hvh1]at CO;obtain⟨O,hO⟩:=ZX (ZeN k vl vh);have HO:Hid (∀p,p=ZeB k (atV k lo) (atV k hi)->(p↔O = -1\/O=0)):=J (λp hp=>by rw[hp,<-hvl1,<-hvh1,<-hO];exact Iff.rfl);rw[hO]at CO;clear hg hao hah hap haq hvl1 hvh1 hO;subst hbc;go_wp2_with fail
   refine ZM (CO.out _) ?_;rintro wa hba;have HBa:=J (Zp HB9.out hba);have HXa:=J (Zas HX9.out hba (Zax HX9.out));clear hba CO;by_cases o1:O = -1
   ·have o1b:(O != -1)=false:=(by simpa using o1);have HR:=J ((HO.out _ rfl).2 (.inl o1));clear o1;go_wp2;go_meet
    exact⟨HBa,HXa,J (.inr (.inr HR.out))⟩
   ·have o1b:(O != -1)=true:=(by simpa using o1);by_cases o2:O=0
    ·have o2b:(O != 0)=false:=(by simpa using o2);have HR:=J ((HO.out _ rfl).2 (.inr o2));clear o1 o2;go_wp2;go_meet
     exact⟨HBa,HXa,J (.inr (.inr HR.out))⟩
    ·have o2b:(O != 0)=true:=(by simpa using o2);have HNP:Hid (¬P):=J (λh=>by
      rcases(HFP.out.1 h).2.2.2.2.2.2.2.2.2.1 with h1|h1|h1
      ·exact HNE.out (.inl h1)
      ·exact HNE.out (.inr h1)
      ·rcases(HO.out _ rfl).1 h1 with h1|h1
       ·exact o1 h1
       ·exact o2 h1)
     clear o1 o2;go_wp2;go_ret;exact ZdQ HNP.out HBa.out
  ·have hbf:bb5=false:=by simpa using hbc
   have HR:=J (Decidable.of_not_not (ZDZ (HBB5.out.symm.trans hbf)));clear hbc;subst hbf;go_wp2;go_meet
   exact⟨HB9,HX9,J (by rcases HR.out with h|h;exact .inl h;exact .inr (.inl h))⟩
 obtain⟨HBp,HXp,HORD⟩:=hcut;clear HB9 HX9 HBB5 HVL HVH;obtain⟨c0,c1,c2,c3,c4,c5,c6,c7,c8,c9⟩:=ZeD HXp.out;go_wp2_with fail
 refine(Zib pt (ZF (rns pt)) (rns pt).isSome _ (by omega) rfl rfl).mono ?_;rintro e wr ⟨ad5,cc5,rfl,hx5,hb5⟩;have HBr:=J (Zp HBp.out hb5);have HXr:=J (Zas HXp.out hb5 (Zax HXp.out));obtain⟨po,hpo⟩:=ZX (rgO (ZF (rns pt)) (rns pt).isSome);have HPO:Hid (Zs3 pt=po):=J hpo;rw[hpo];clear hx5 hb5 hpo HBp HXp c0 c1 c2 c3 c4 c5 c6 c7 c8 c9;cases po
 ·have HNP:Hid (¬P):=J (λh=>by
   have h1:=(HFP.out.1 h).2.2.2.2.2.2.2.2.2.2.1;rw[HPO.out]at h1;cases h1)
  go_wp2;go_ret;exact ZdQ HNP.out HBr.out
 obtain⟨c0,c1,c2,c3,c4,c5,c6,c7,c8,c9⟩:=ZeD HXr.out;go_wp2_with fail
 clear c0 c1 c2 c3 c4 c5 c6 c7 c8 c9
 go_loopw [14] (λiv wr=>∃j:Nat,iv=I j/\j<=q/\Hid (ZL w wr)/\Hid (ZV wr w.heap.size #[.string nm,I kd,I bs,.slice am mq cm,I mn,I mx,.string lo,.string hi,.string pt,.slice ae q ce])/\Hid (∀i,i<j->atO k (en[i]?.getD ⟨#[]⟩)=true)) (λiv _=>q-(Zi iv).toNat)
 case atStart=>exact⟨0,rfl,Zx _,HBr,HXr,J (λi h=>by omega)⟩
 case round=>
  clear HBr HXr;obtain⟨j,rfl,hj,HB,HX,HA⟩:=hrel;obtain⟨c0,c1,c2,c3,c4,c5,c6,c7,c8,c9⟩:=ZeD HX.out;by_cases hlt:j<q
  ·have hjL:j<en.length:=by rw[HQ.out];exact hlt
   have hji:(j:Int)<(q:Int):=by omega
   obtain⟨be,oe,rfl,hbe,hce⟩:=Zkl HEN.out j hjL;have ce0:=(HB.out.cell (p:=⟨be,oe+j,none⟩) hbe).trans (hce j hjL);obtain⟨E,hE⟩:=ZX (en[j]?.getD ⟨#[]⟩);have hEm:E∈en:=by rw[<-hE,Zv hjL];exact ZD3 hjL
   have HE:=J hE;rw[hE]at ce0;have hzE:=HZ6.out E hEm;have HEM:=J hEm;have CA:=J (λw1=>ZhZ k E w1 (by omega));clear hce hE hEm hjL;go_wp2_with fail
   refine(CA.out _).mono ?_;rintro e w5 ⟨va,ba,rfl,hba,hva,hb5⟩;have HB5:=J (Zp HB.out hb5);have HX5:=J (Zas HX.out hb5 (Zax HX.out));have HBA:=J hba;clear hba hva hb5 c0 c1 c2 c3 c4 c5 c6 c7 c8 c9 CA ce0;cases ba
   ·have HNP:Hid (¬P):=J (λh=>by
     have h1:=(HFP.out.1 h).2.2.2.2.2.2.2.2.2.2.2 E HEM.out;rw[<-HBA.out]at h1;cases h1)
    go_wp2;go_ret;exact ZdQ HNP.out HB5.out
   ·have HA2:Hid (∀i,i<j+1->atO k (en[i]?.getD ⟨#[]⟩)=true):=J (λi hi=>by
     by_cases e:i=j
     ·subst e;rw[HE.out,<-HBA.out]
     ·exact HA.out i (by omega))
    go_wp2
    go_roundw
    case rel=>exact⟨j+1,by go_num,by omega,HB5,HX5,HA2⟩
    case measure=>simp[Zi];omega
  ·have hjq:j=q:=by omega
   have HY:Hid P:=J (by
    have hlk:lb=true->lgK k:=λe=>by have h9:=ZDY (HLB.out.symm.trans e);exact h9
    have hok:ob=true->odK k:=λe=>by have h9:=ZDY (HOB.out.symm.trans e);exact h9
    obtain⟨g1,g2,g3,g4⟩:=HGbb1.out;obtain⟨g5,g6⟩:=HGbb2.out;obtain⟨g8,g9⟩:=HGbb4.out;refine HFP.out.2 ⟨g1,g2,g3.imp hlk id,g4,g5.imp hok id,g6,HGbb3.out,g8.imp id (λe=>by rw[<-HBL.out];exact e),g9.imp id (λe=>by rw[<-HBH.out];exact e),HORD.out,HPO.out,λe he=>?_⟩;obtain⟨i,hi,hie⟩:=List.getElem_of_mem he;have:=HA.out i (by rw[hjq,<-HQ.out];exact hi);rw[Zv hi]at this;simp only[Option.getD_some]at this;rw[hie]at this;exact this)
   subst hjq;go_wp2;go_ret;exact Zpl HY.out HB.out
theorem bdN{B:Nat}{a w:World}(h:Below B a w)(n:Nat):Below B a (w.drewN n):=h.trans ⟨rfl,rfl,rfl,Zb _,λ_ _=>rfl⟩
theorem Zn0{w:World}{G:Nat}{cs:Array Value}(h:ZV w G cs)(n:Nat):ZV (w.drewN n) G cs:=Zas h ⟨rfl,rfl,rfl,Zb _,λ_ _=>rfl⟩ (Zax h)
theorem Zp8(L:List Ty)(m:Nat)(a:Option Addr)(c:Nat)(w:World)(hD:L.length=m)(hZ:Zwr L)(hc:m<=c)(hc2:c<=maxLen)(hr:ZiL w a L w.heap.size):
  Calls prog 29 #[.slice a m c] w (BlA (OkP L) w):=by
 have HD:=J hD;have HZ:=J hZ;have HR:=J hr;unfold maxLen at hc2;clear hD hZ hr;by_cases hm:30<m
 ·have hmi:(30:Int)<(m:Int):=by omega
  have HN:Hid (¬OkP L):=J (λh=>by have:=h.1;rw[HD.out]at this;omega);go_enter func29,ntmps29
  go_wp2;go_ret;exact ZdQ HN.out (Ze _ _)
 have hmi:¬(30:Int)<(m:Int):=by omega
 go_enter func29,ntmps29
 go_wp2_with fail
 go_loopw [3] (λiv wr=>∃j:Nat,iv=I j/\j<=m/\Hid (ZL w wr)/\Hid (∀i,i<j->Zea L i)) (λiv _=>m-(Zi iv).toNat)
 case atStart=>exact⟨0,rfl,Zx _,Ze _ _,J (λi h=>by omega)⟩
 case round=>
  obtain⟨j,rfl,hj,HB,HA⟩:=hrel;by_cases hlt:¬j<m
  ·have hjm:j=m:=by omega
   have HY:Hid (OkP L):=J ⟨by rw[HD.out];omega,λi hi=>HA.out i (by rw[HD.out]at hi;omega)⟩;subst hjm;go_wp2;go_ret;exact Zpl HY.out HB.out
  have hlt:j<m:=by omega
  have HJL:Hid (j<L.length):=J (by rw[HD.out];exact hlt);have hji:(j:Int)<(m:Int):=by omega
  obtain⟨b,off,rfl,hbs,hrow⟩:=ZeZ HR.out HJL.out;have HROW:=J hrow;obtain⟨am,cm,ae,ce,hcc,hms,hen⟩:=hrow j HJL.out;have hx:=HZ.out.2 j HJL.out;obtain⟨x,hx2⟩:=ZX (tyA L j);have HX2:=J hx2;rw[hx2]at hcc hms hen hx;have HMS:=J hms;have HEN:=J hen;have HTZ:=J hx;obtain⟨c0,c1,c2,c3,c4,c5,c6,c7,c8,c9⟩:=Zkx hcc hbs HB.out;obtain⟨nm,kd,bs,ms,mn,mx,lo,hi,pt,en⟩:=x;obtain⟨z0,z1,z2,z3,z4,z5,z6⟩:=hx;simp only at c0 c1 c2 c3 c4 c5 c6 c7 c8 c9 z0 z1 z2 z3 z4 z5;obtain⟨q,hq⟩:=ZX en.length;obtain⟨mq,hmq⟩:∃q,ms.length=q:=⟨_,rfl⟩;have HQ:=J hq;have HMQ:=J hmq;rw[hmq]at c3 z4;rw[hq]at c9 z5;obtain⟨G,hG⟩:=ZX wr.heap.size;have hGw:w.heap.size<=G:=by rw[<-hG];exact HB.out.size
  have HB0:Hid (ZL w (wr.alloc (.cells #[.string nm,I kd,I bs,.slice am mq cm,I mn,I mx,.string lo,.string hi,.string pt,.slice ae q ce] 33))):=J (HB.out.alloc HB.out.size _);have HX0:Hid (ZV (wr.alloc (.cells #[.string nm,I kd,I bs,.slice am mq cm,I mn,I mx,.string lo,.string hi,.string pt,.slice ae q ce] 33)) G #[.string nm,I kd,I bs,.slice am mq cm,I mn,I mx,.string lo,.string hi,.string pt,.slice ae q ce]):=J (by rw[<-hG];exact ZbQ wr _ 33);obtain⟨nb,hnb⟩:=ZX (ZcO nm);have HNB:=J hnb;have CN:=J (λw1=>Zwa nm w1 (by unfold maxLen;omega));rw[hnb]at CN;have HZ4:=J z4;clear hq hmq hrow hx2 hcc hms hen z6 hnb z4;go_upto_region 7 with fail
  obtain⟨W0,hW0⟩:=ZX (wr.alloc (.cells #[.string nm,I kd,I bs,.slice am mq cm,I mn,I mx,.string lo,.string hi,.string pt,.slice ae q ce] 33));try rw[hG]
  rw[hW0]at HB0 HX0;rw[hW0];clear hW0 c0 c1 c2 c3 c4 c5 c6 c7 c8 c9;go_upto_region 7 with fail
  obtain⟨bb1,hbb1⟩:∃b:Bool,b=decide (¬(nb=true/\(1<=kd/\kd<=10))):=⟨_,rfl⟩;have HBB1:=J hbb1;clear hbb1
  go_cut [31] (λvv wx=>vv=.bool bb1/\Hid (ZL w wx)/\Hid (ZV wx G #[.string nm,I kd,I bs,.slice am mq cm,I mn,I mx,.string lo,.string hi,.string pt,.slice ae q ce]))
  case first=>
   as_aux_lemma=>
    obtain⟨c0,c1,c2,c3,c4,c5,c6,c7,c8,c9⟩:=ZeD HX0.out;cases nb
    ·have hb9:bb1=true:=(by rw[HBB1.out];exact Zh (by first|omega|(simp only[ZN,ZQ,ZD4,ZD5,Z4,ZD7,ZD8,ZZ,Z3,Z1,Z2,ZDW,ZDX]<;>omega)|(simp<;>omega)));go_wp2_with (first|(go_at_call 30;(first|(refine(Zby _ _ _ _ (by omega)).mono ?_)|(refine(ZbY _ _ _ _ (by omega)).mono ?_));rintro e w9 ⟨rfl,h9⟩;rw[h9];clear h9 w9)|(go_at_call 52;refine Zc (CN.out _) ?_))
     go_meet
     exact⟨by rw[hb9]<;>first|rfl|(congr 1;first|(exact Zh (by omega))|(exact Zg (by omega))|(simp<;>omega)),HB0,HX0⟩
    ·by_cases a1:1<=kd/\kd<=10
     ·have hb9:bb1=false:=(by rw[HBB1.out];exact Zg (by first|omega|(simp only[ZN,ZQ,ZD4,ZD5,Z4,ZD7,ZD8,ZZ,Z3,Z1,Z2,ZDW,ZDX]<;>omega)|(simp<;>omega)));go_wp2_with (first|(go_at_call 30;(first|(refine(Zby _ _ _ _ (by omega)).mono ?_)|(refine(ZbY _ _ _ _ (by omega)).mono ?_));rintro e w9 ⟨rfl,h9⟩;rw[h9];clear h9 w9)|(go_at_call 52;refine Zc (CN.out _) ?_))
      go_meet
      exact⟨by rw[hb9]<;>first|rfl|(congr 1;first|(exact Zh (by omega))|(exact Zg (by omega))|(simp<;>omega)),HB0,HX0⟩
     ·have hb9:bb1=true:=(by rw[HBB1.out];exact Zh (by first|omega|(simp only[ZN,ZQ,ZD4,ZD5,Z4,ZD7,ZD8,ZZ,Z3,Z1,Z2,ZDW,ZDX]<;>omega)|(simp<;>omega)));go_wp2_with (first|(go_at_call 30;(first|(refine(Zby _ _ _ _ (by omega)).mono ?_)|(refine(ZbY _ _ _ _ (by omega)).mono ?_));rintro e w9 ⟨rfl,h9⟩;rw[h9];clear h9 w9)|(go_at_call 52;refine Zc (CN.out _) ?_))
      go_meet
      exact⟨by rw[hb9]<;>first|rfl|(congr 1;first|(exact Zh (by omega))|(exact Zg (by omega))|(simp<;>omega)),HB0,HX0⟩
  obtain⟨rfl,HB1,HX1⟩:=hcut;clear HB0 HX0;by_cases hbc:bb1=true
  ·have HN:Hid (¬OkP L):=J (λh=>by
    have h9:=h.2 j HJL.out;have:=HBB1.out;rw[hbc]at this;have:=ZDY this.symm;exact this (⟨by rw[<-HNB.out];have:=h9.1;rw[HX2.out]at this;exact this,by have:=h9.2.2.1;rw[HX2.out]at this;exact this⟩))
   subst hbc;go_wp2;go_ret;exact ZdQ HN.out HB1.out
  have hbf:bb1=false:=by simpa using hbc
  have HGbb1:=J (Decidable.of_not_not (ZDZ (HBB1.out.symm.trans hbf)));clear hbc HBB1;subst hbf;go_wp2_with fail
  go_loopw [5] (λkv wk=>∃k:Nat,kv=I k/\k<=j/\Hid (ZL w wk)/\Hid (ZV wk G #[.string nm,I kd,I bs,.slice am mq cm,I mn,I mx,.string lo,.string hi,.string pt,.slice ae q ce])/\Hid (∀i,i<k->(tyA L i).nm≠nm)) (λkv _=>j-(Zi kv).toNat)
  case atStart=>exact⟨0,rfl,Zx _,HB1,HX1,J (λi h=>by omega)⟩
  case round=>
   clear HB1 HX1 HB;obtain⟨k,rfl,hk,HBk,HXk,HAk⟩:=hrel;by_cases hkj:k<j
   ·as_aux_lemma=>
     have hki:(k:Int)<(j:Int):=(by omega);have hkm:(k:Int)<(m:Int):=(by omega);obtain⟨am2,cm2,ae2,ce2,hc2',-,-⟩:=HROW.out k (by rw[HD.out];omega);have e0:=(Zkx hc2' hbs HBk.out).1;obtain⟨N2,hN2⟩:=ZX ((tyA L k).nm);rw[hN2]at e0;obtain⟨c0,c1,c2,c3,c4,c5,c6,c7,c8,c9⟩:=ZeD HXk.out;have HN2:=J hN2;have hGk:=Zax HXk.out;clear hc2' hN2 c1 c2 c3 c4 c5 c6 c7 c8 c9;have HDK:=J (λn=>ZaI (Zn0 HXk.out n) 0);cases he:(N2.toList==nm.toList)
     ·have HA2:Hid (∀i,i<k+1->(tyA L i).nm≠nm):=J (λi hi=>by
       by_cases e:i=k
       ·subst e;rw[HN2.out];exact ZqV he
       ·exact HAk.out i (by omega))
      go_wp2;go_quiet (fail)
      go_wp2
      go_roundw
      case rel=>exact⟨k+1,by go_num,by omega,J (bdN HBk.out _),J (Zn0 HXk.out _),HA2⟩
      case measure=>simp[Zi];omega
     ·have HN:Hid (¬OkP L):=J (λh=>by
       have h9:=(h.2 j HJL.out).2.1 k hkj;rw[HX2.out,HN2.out]at h9;exact h9 (Zpk he))
      go_wp2;go_quiet (fail)
      go_wp2;go_ret;exact ZdQ HN.out (bdN HBk.out _)
   have hki:¬(k:Int)<(j:Int):=by omega
   have HNM:Hid (∀i,i<j->(tyA L i).nm≠nm):=J (λi hi=>HAk.out i (by omega));have HB2:=HBk;have HXb:=HXk;clear HBk HXk HAk hkj;go_upto_region 14 with fail
   obtain⟨eb,heb⟩:∃b:Bool,b=decide (kd=8\/kd=10):=⟨_,rfl⟩;have HEB:=J heb;clear heb
   go_cut [6] (λvv wx=>vv=.bool eb/\Hid (ZL w wx)/\Hid (ZV wx G #[.string nm,I kd,I bs,.slice am mq cm,I mn,I mx,.string lo,.string hi,.string pt,.slice ae q ce]))
   case first=>
    as_aux_lemma=>
     obtain⟨c0,c1,c2,c3,c4,c5,c6,c7,c8,c9⟩:=ZeD HXb.out;by_cases k8:kd=8
     ·have k81:(kd==8)=true:=(by rw[k8];rfl);have hb9:eb=true:=(by rw[HEB.out];exact Zh (by first|omega|(simp only[ZN,ZQ,ZD4,ZD5,Z4,ZD7,ZD8,ZZ,Z3,Z1,Z2,ZDW,ZDX]<;>omega)|(simp<;>omega)));clear k8;go_wp2;go_meet
      exact⟨by rw[hb9]<;>first|rfl|(congr 1;first|(exact Zh (by omega))|(exact Zg (by omega))|(simp<;>omega)),HB2,HXb⟩
     ·have k81:(kd==8)=false:=(by rw[ZDU];exact k8);by_cases k10:kd=10
      ·have k101:(kd==10)=true:=(by rw[k10];rfl);have hb9:eb=true:=(by rw[HEB.out];exact Zh (by first|omega|(simp only[ZN,ZQ,ZD4,ZD5,Z4,ZD7,ZD8,ZZ,Z3,Z1,Z2,ZDW,ZDX]<;>omega)|(simp<;>omega)));clear k10;go_wp2;go_meet
       exact⟨by rw[hb9]<;>first|rfl|(congr 1;first|(exact Zh (by omega))|(exact Zg (by omega))|(simp<;>omega)),HB2,HXb⟩
      ·have k101:(kd==10)=false:=(by rw[ZDU];exact k10);have hb9:eb=false:=(by rw[HEB.out];exact Zg (by first|omega|(simp only[ZN,ZQ,ZD4,ZD5,Z4,ZD7,ZD8,ZZ,Z3,Z1,Z2,ZDW,ZDX]<;>omega)|(simp<;>omega)));go_wp2;go_meet
       exact⟨by rw[hb9]<;>first|rfl|(congr 1;first|(exact Zh (by omega))|(exact Zg (by omega))|(simp<;>omega)),HB2,HXb⟩
   obtain⟨rfl,HB3,HX3⟩:=hcut;clear HB2 HXb;go_upto_region 15 with fail
   obtain⟨bb2,hbb2⟩:∃b:Bool,b=decide (¬((eb=true->0<=bs/\bs<(j:Int))/\(eb=false->bs=0))):=⟨_,rfl⟩;have HBB2:=J hbb2;clear hbb2
   go_cut [70] (λvv wx=>vv=.bool bb2/\Hid (ZL w wx)/\Hid (ZV wx G #[.string nm,I kd,I bs,.slice am mq cm,I mn,I mx,.string lo,.string hi,.string pt,.slice ae q ce]))
   case first=>
    as_aux_lemma=>
     obtain⟨c0,c1,c2,c3,c4,c5,c6,c7,c8,c9⟩:=ZeD HX3.out;cases eb
     ·by_cases a2:bs=0
      ·have a21:(bs != 0)=false:=(by rw[a2];rfl);have hb9:bb2=false:=(by rw[HBB2.out];exact Zg (by first|omega|(simp only[ZN,ZQ,ZD4,ZD5,Z4,ZD7,ZD8,ZZ,Z3,Z1,Z2,ZDW,ZDX]<;>omega)|(simp<;>omega)));clear a2;go_wp2_with (first|(go_at_call 30;(first|(refine(Zby _ _ _ _ (by omega)).mono ?_)|(refine(ZbY _ _ _ _ (by omega)).mono ?_));rintro e w9 ⟨rfl,h9⟩;rw[h9];clear h9 w9)|(go_at_call 52;refine Zc (CN.out _) ?_))
       go_meet
       exact⟨by rw[hb9]<;>first|rfl|(congr 1;first|(exact Zh (by omega))|(exact Zg (by omega))|(simp<;>omega)),HB3,HX3⟩
      ·have a21:(bs != 0)=true:=(by rw[bne_iff_ne];exact a2);have hb9:bb2=true:=(by rw[HBB2.out];exact Zh (by first|omega|(simp only[ZN,ZQ,ZD4,ZD5,Z4,ZD7,ZD8,ZZ,Z3,Z1,Z2,ZDW,ZDX]<;>omega)|(simp<;>omega)));go_wp2_with (first|(go_at_call 30;(first|(refine(Zby _ _ _ _ (by omega)).mono ?_)|(refine(ZbY _ _ _ _ (by omega)).mono ?_));rintro e w9 ⟨rfl,h9⟩;rw[h9];clear h9 w9)|(go_at_call 52;refine Zc (CN.out _) ?_))
       go_meet
       exact⟨by rw[hb9]<;>first|rfl|(congr 1;first|(exact Zh (by omega))|(exact Zg (by omega))|(simp<;>omega)),HB3,HX3⟩
     ·by_cases a1:0<=bs/\bs<=(j:Int)-1
      ·have hb9:bb2=false:=(by rw[HBB2.out];exact Zg (by first|omega|(simp only[ZN,ZQ,ZD4,ZD5,Z4,ZD7,ZD8,ZZ,Z3,Z1,Z2,ZDW,ZDX]<;>omega)|(simp<;>omega)));go_wp2_with (first|(go_at_call 30;(first|(refine(Zby _ _ _ _ (by omega)).mono ?_)|(refine(ZbY _ _ _ _ (by omega)).mono ?_));rintro e w9 ⟨rfl,h9⟩;rw[h9];clear h9 w9)|(go_at_call 52;refine Zc (CN.out _) ?_))
       go_meet
       exact⟨by rw[hb9]<;>first|rfl|(congr 1;first|(exact Zh (by omega))|(exact Zg (by omega))|(simp<;>omega)),HB3,HX3⟩
      ·have hb9:bb2=true:=(by rw[HBB2.out];exact Zh (by first|omega|(simp only[ZN,ZQ,ZD4,ZD5,Z4,ZD7,ZD8,ZZ,Z3,Z1,Z2,ZDW,ZDX]<;>omega)|(simp<;>omega)));go_wp2_with (first|(go_at_call 30;(first|(refine(Zby _ _ _ _ (by omega)).mono ?_)|(refine(ZbY _ _ _ _ (by omega)).mono ?_));rintro e w9 ⟨rfl,h9⟩;rw[h9];clear h9 w9)|(go_at_call 52;refine Zc (CN.out _) ?_))
       go_meet
       exact⟨by rw[hb9]<;>first|rfl|(congr 1;first|(exact Zh (by omega))|(exact Zg (by omega))|(simp<;>omega)),HB3,HX3⟩
   obtain⟨rfl,HB4,HX4⟩:=hcut;clear HB3 HX3;by_cases hbc:bb2=true
   ·have HN:Hid (¬OkP L):=J (λh=>by
     have h9:=h.2 j HJL.out;have:=HBB2.out;rw[hbc]at this;have:=ZDY this.symm;exact this (⟨λe=>by have h1:=h9.2.2.2.1;rw[HX2.out]at h1;exact h1 (by have:=HEB.out;rw[e]at this;have:=ZDY this.symm;exact this),λe=>by have h1:=h9.2.2.2.2.1;rw[HX2.out]at h1;exact h1 (by have:=HEB.out;rw[e]at this;exact ZDZ this.symm)⟩))
    subst hbc;go_wp2;go_ret;exact ZdQ HN.out HB4.out
   have hbf:bb2=false:=by simpa using hbc
   have HGbb2:=J (Decidable.of_not_not (ZDZ (HBB2.out.symm.trans hbf)));clear hbc HBB2;subst hbf;have HBW:Hid (bsW L j):=J (λi hi e=>by
    by_cases e2:i=j
    ·subst e2;rw[HX2.out]at e ⊢;exact HGbb2.out.1 (by rw[HEB.out];exact Zh (.inr e))
    ·exact(HA.out i (by omega)).2.2.2.1 (.inr e))
   obtain⟨K,hK⟩:=ZX (prP L j);have HK:=J hK;have CP:=J (λw1 (h1:ZL w w1)=>Zra L (j+1) j (some ⟨b,off,none⟩) c w1 (by have:=HJL.out;omega) (by omega) (by omega) HBW.out (ZcM (ZcP HR.out h1) h1.size));rw[hK]at CP;have CQ:=J (λ(p:Nat) (hp:p<j) w1 (h1:ZL w w1)=>Zra L m p (some ⟨b,off,none⟩) c w1 (by rw[HD.out];omega) (by omega) (by omega) (λi hi e=>HBW.out i (by omega) e) (ZcM (ZcP HR.out h1) h1.size));clear hK;have hj6:((j:Int)+1).toNat=j+1:=by omega
   have hj7:(j:Int)+1<=(c:Int):=by omega
   go_wp2_with fail
   refine ZM (CP.out _ HB4.out) ?_;rintro w5 hb5;have HB5:=J (Zp HB4.out hb5);have HX5:=J (Zas HX4.out hb5 (Zax HX4.out));clear hb5 HB4 HX4 CP hj6 hj7;go_upto_region 18 with fail
   obtain⟨bb3,hbb3⟩:∃b:Bool,b=decide (¬(kd=8->prP L bs.toNat<=7)):=⟨_,rfl⟩;have HBB3:=J hbb3;clear hbb3
   go_cut [86] (λvv wx=>vv=.bool bb3/\Hid (ZL w wx)/\Hid (ZV wx G #[.string nm,I kd,I bs,.slice am mq cm,I mn,I mx,.string lo,.string hi,.string pt,.slice ae q ce]))
   case first=>
    as_aux_lemma=>
    obtain⟨c0,c1,c2,c3,c4,c5,c6,c7,c8,c9⟩:=ZeD HX5.out;by_cases k8:kd=8
    ·have k8b:(kd==8)=true:=(by rw[k8];rfl);have hbr:=HGbb2.out.1 (by rw[HEB.out];exact Zh (.inl k8));obtain⟨p,hp⟩:∃p:Nat,bs=p:=⟨bs.toNat,by omega⟩;have CQ1:=J (CQ.out p (by omega) w5 HB5.out);obtain⟨Q,hQ⟩:=ZX (prP L p);have hb9:bb3=decide (7<Q):=by
      rw[HBB3.out,<-hQ];have:bs.toNat=p:=by omega
      rw[this];simp[k8]
     rw[hQ]at CQ1;rw[hp]at c2;by_cases hq7:7<Q
     ·have hb9:bb3=true:=(by rw[hb9];exact Zh hq7);clear k8 hp hQ;go_wp2_with (go_at_call 53;refine ZM CQ1.out ?_;rintro w6 hb6;have HB6:=J (Zp HB5.out hb6);have HX6:=J (Zas HX5.out hb6 (Zax HX5.out));clear hb6)
      go_meet
      exact⟨by rw[hb9],HB6,HX6⟩
     ·have hb9:bb3=false:=(by rw[hb9];exact Zg hq7);clear k8 hp hQ;go_wp2_with (go_at_call 53;refine ZM CQ1.out ?_;rintro w6 hb6;have HB6:=J (Zp HB5.out hb6);have HX6:=J (Zas HX5.out hb6 (Zax HX5.out));clear hb6)
      go_meet
      exact⟨by rw[hb9]<;>first|rfl|(congr 1;exact Zg (by omega)),HB6,HX6⟩
    ·have k8b:(kd==8)=false:=(by rw[ZDU];exact k8);have hb9:bb3=false:=(by rw[HBB3.out];exact Zg (λh=>h (λe=>absurd e k8)));go_wp2;go_meet
     exact⟨by rw[hb9],HB5,HX5⟩
   obtain⟨rfl,HB6,HX6⟩:=hcut;clear HB5 HX5;by_cases hbc:bb3=true
   ·have HN:Hid (¬OkP L):=J (λh=>by
     have h9:=h.2 j HJL.out;have:=HBB3.out;rw[hbc]at this;have:=ZDY this.symm;exact this (by have h1:=h9.2.2.2.2.2.1;rw[HX2.out]at h1;exact h1))
    subst hbc;go_wp2;go_ret;exact ZdQ HN.out HB6.out
   have hbf:bb3=false:=by simpa using hbc
   have HGbb3:=J (Decidable.of_not_not (ZDZ (HBB3.out.symm.trans hbf)));clear hbc HBB3;subst hbf;obtain⟨ub,hub⟩:∃b:Bool,b=decide (kd=9):=⟨_,rfl⟩;have HUB:=J hub;clear hub;go_upto_region 20 with fail
   go_cut [89] (λvv wx=>vv=.bool ub/\Hid (ZL w wx)/\Hid (ZV wx G #[.string nm,I kd,I bs,.slice am mq cm,I mn,I mx,.string lo,.string hi,.string pt,.slice ae q ce]))
   case first=>
    as_aux_lemma=>
    obtain⟨c0,c1,c2,c3,c4,c5,c6,c7,c8,c9⟩:=ZeD HX6.out;by_cases k9:kd=9
    ·have k9b:(kd==9)=true:=(by rw[k9];rfl);have hb9:ub=true:=(by rw[HUB.out];exact Zh k9);clear k9;go_wp2;go_meet
     exact⟨by rw[hb9],HB6,HX6⟩
    ·have k9b:(kd==9)=false:=(by rw[ZDU];exact k9);have hb9:ub=false:=(by rw[HUB.out];exact Zg k9);go_wp2;go_meet
     exact⟨by rw[hb9],HB6,HX6⟩
   obtain⟨rfl,HB7,HX7⟩:=hcut;clear HB6 HX6
   go_upto_if 89 with fail
   go_cut [] (λwx=>Hid (ZL w wx)/\Hid (ZV wx G #[.string nm,I kd,I bs,.slice am mq cm,I mn,I mx,.string lo,.string hi,.string pt,.slice ae q ce])/\Hid ((kd=9->(1<=mq/\mq<=4)/\∀x∈ms,(0<=x/\x<(j:Int))/\prP L x.toNat<=7)/\(kd≠9->mq=0)))
   case first=>
    as_aux_lemma=>
    obtain⟨c0,c1,c2,c3,c4,c5,c6,c7,c8,c9⟩:=ZeD HX7.out;by_cases k9:kd=9
    ·have hb9:ub=true:=(by rw[HUB.out];exact Zh k9);have HMEM:Hid (OkP L->(1<=mq/\mq<=4)/\∀x∈ms,(0<=x/\x<(j:Int))/\prP L x.toNat<=7):=J (λh=>by
      have h1:=(h.2 j HJL.out).2.2.2.2.2.2.1;rw[HX2.out]at h1;have h2:=h1 k9;simp only[HMQ.out]at h2;exact h2)
     have HK9:=J k9;subst hb9;clear k9;by_cases hq1:mq<1
     ·have HN:Hid (¬OkP L):=J (λh=>by have:=(HMEM.out h).1;omega);have hq1i:(mq:Int)<1:=(by omega);go_wp2;go_ret;exact ZdQ HN.out HB7.out
     by_cases hq4:4<mq
     ·have HN:Hid (¬OkP L):=J (λh=>by have:=(HMEM.out h).1;omega);have hq4i:(4:Int)<(mq:Int):=(by omega);go_wp2;go_ret;exact ZdQ HN.out HB7.out
     have hq1i:¬(mq:Int)<1:=(by omega);have hq4i:¬(4:Int)<(mq:Int):=(by omega);go_wp2_with fail
     clear c0 c1 c2 c3 c4 c5 c6 c7 c8 c9
     go_loopw [8] (λkv wk=>∃k:Nat,kv=I k/\k<=mq/\Hid (ZL w wk)/\Hid (ZV wk G #[.string nm,I kd,I bs,.slice am mq cm,I mn,I mx,.string lo,.string hi,.string pt,.slice ae q ce])/\Hid (∀i,i<k->(0<=ms[i]?.getD 0/\ms[i]?.getD 0<(j:Int))/\prP L (ms[i]?.getD 0).toNat<=7)) (λkv _=>mq-(Zi kv).toNat)
     case atStart=>exact⟨0,rfl,Zx _,HB7,HX7,J (λi h=>by omega)⟩
     case round=>
      clear HB7 HX7;obtain⟨k,rfl,hk,HBk,HXk,HAk⟩:=hrel;obtain⟨c0,c1,c2,c3,c4,c5,c6,c7,c8,c9⟩:=ZeD HXk.out;by_cases hkq:k<mq
      ·have hki:(k:Int)<(mq:Int):=(by omega);have hkL:k<ms.length:=(by rw[HMQ.out];exact hkq);obtain⟨be,oe,rfl,hbe,hce⟩:=HMS.out (λe=>by rw[e]at hkL;simp at hkL);have ce0:=(HBk.out.cell (p:=⟨be,oe+k,none⟩) hbe).trans (hce k hkL);obtain⟨E,hE⟩:=ZX (ms[k]?.getD 0);have hEm:E∈ms:=(by rw[<-hE,Zv hkL];exact ZD3 hkL);have HEM:=J hEm;have HE:=J hE;rw[hE]at ce0;clear hce hE hEm hkL;by_cases hr1:0<=E/\E<=(j:Int)-1
       ·obtain⟨p,rfl⟩:∃p:Nat,E=p:=⟨E.toNat,by omega⟩;have CQ1:=J (λw1 h1=>CQ.out p (by omega) w1 h1);obtain⟨Q,hQ⟩:=ZX (prP L p);have HQQ:=J hQ;rw[hQ]at CQ1;clear hQ;by_cases hq7:7<Q
        ·have HN:Hid (¬OkP L):=J (λh=>by have h1:=((HMEM.out h).2 _ HEM.out).2;rw[ZDK,HQQ.out]at h1;omega);go_wp2_with (first|(go_at_call 30;refine Zc (Zby _ _ _ _ hr1) ?_)|(go_at_call 53;refine ZM (CQ1.out _ HBk.out) ?_;rintro w6 hb6;have HB6:=J (Zp HBk.out hb6);clear hb6))
         go_ret;exact ZdQ HN.out HB6.out
        ·have HA2:Hid (∀i,i<k+1->(0<=ms[i]?.getD 0/\ms[i]?.getD 0<(j:Int))/\prP L (ms[i]?.getD 0).toNat<=7):=J (λi hi=>by
          by_cases e:i=k
          ·subst e;rw[HE.out,ZDK,HQQ.out];exact⟨by omega,by omega⟩
          ·exact HAk.out i (by omega))
         go_wp2_with (first|(go_at_call 30;refine Zc (Zby _ _ _ _ hr1) ?_)|(go_at_call 53;refine ZM (CQ1.out _ HBk.out) ?_;rintro w6 hb6;have HB6:=J (Zp HBk.out hb6);have HX6:=J (Zas HXk.out hb6 (Zax HXk.out));clear hb6))
         go_roundw
         case rel=>exact⟨k+1,by go_num,by omega,HB6,HX6,HA2⟩
         case measure=>simp[Zi];omega
       ·have HN:Hid (¬OkP L):=J (λh=>hr1 (by have:=((HMEM.out h).2 _ HEM.out).1;omega));go_wp2_with (go_at_call 30;refine Zc (ZbY _ _ _ _ hr1) ?_)
        go_ret;exact ZdQ HN.out HBk.out
      ·have hkq2:k=mq:=(by omega);have hki:¬(k:Int)<(mq:Int):=(by omega);have HR9:Hid ((kd=9->(1<=mq/\mq<=4)/\∀x∈ms,(0<=x/\x<(j:Int))/\prP L x.toNat<=7)/\(kd≠9->mq=0)):=J ⟨λ_=>⟨by omega,λx hx=>by
        obtain⟨i,hi,hie⟩:=List.getElem_of_mem hx;have:=HAk.out i (by rw[hkq2,<-HMQ.out];exact hi);rw[Zv hi]at this;simp only[Option.getD_some]at this;rw[hie]at this;exact this⟩,λe=>absurd HK9.out e⟩
       clear hkq2;go_wp2;go_meet
       exact⟨HBk,HXk,HR9⟩
    ·have hb9:ub=false:=(by rw[HUB.out];exact Zg k9);subst hb9;by_cases hq0:0<mq
     ·have HN:Hid (¬OkP L):=J (λh=>by
       have h1:=(h.2 j HJL.out).2.2.2.2.2.2.2.1;rw[HX2.out]at h1;have h2:=h1 k9;simp only at h2;have:=HMQ.out;rw[h2]at this;simp at this;omega)
      have hq0i:(0:Int)<(mq:Int):=(by omega);go_wp2;go_ret;exact ZdQ HN.out HB7.out
     ·have hq0i:¬(0:Int)<(mq:Int):=(by omega);go_wp2;go_meet
      exact⟨HB7,HX7,J ⟨λe=>absurd e k9,λ_=>by omega⟩⟩
   obtain⟨HB8,HX8,HMM⟩:=hcut;clear HB7 HX7;obtain⟨c0,c1,c2,c3,c4,c5,c6,c7,c8,c9⟩:=ZeD HX8.out;have CF:Hid (∀w1,ZL w w1->Calls prog 54 #[.agg #[.string nm,I kd,I bs,.slice am mq cm,I mn,I mx,.string lo,.string hi,.string pt,.slice ae q ce],I K] w1 (BlA (fkP (tyA L j) K) w1)):=J (λw1 h1=>by
    have:=ZCn ⟨nm,kd,bs,ms,mn,mx,lo,hi,pt,en⟩ am cm ae ce K w1 HTZ.out (Zuz (Zq2 HEN.out h1) h1.size);simp only at this;rw[HMQ.out,HQ.out]at this;rw[HX2.out];exact this)
   go_wp2_with fail
   refine(CF.out _ HB8.out).mono ?_;rintro e w9 ⟨B,rfl,hB,hb9⟩;have HB9:=J (Zp HB8.out hb9);have HBB:=J hB;clear hb9 hB CF c0 c1 c2 c3 c4 c5 c6 c7 c8 c9;cases B
   ·have HN:Hid (¬OkP L):=J (λh=>by
     have h1:=(h.2 j HJL.out).2.2.2.2.2.2.2.2;rw[HK.out]at h1;have:=HBB.out.2 h1;cases this)
    go_wp2;go_ret;exact ZdQ HN.out HB9.out
   ·have HA2:Hid (∀i,i<j+1->Zea L i):=J (λi hi=>by
     by_cases e:i=j
     ·subst e;have e8:eb=true->kd=8\/kd=10:=λe=>by have:=HEB.out;rw[e]at this;exact ZDY this.symm
      have hms0:mq=0->ms=[]:=λe=>List.length_eq_zero_iff.1 (by rw[HMQ.out];exact e)
      have hf:=HBB.out.1 rfl;rw[<-HK.out]at hf;unfold Zea;rw[HX2.out]at hf ⊢;simp only;rw[HMQ.out];refine⟨by rw[HNB.out];exact HGbb1.out.1,HNM.out,HGbb1.out.2,λh=>HGbb2.out.1 (by rw[HEB.out];exact Zh h),λh=>HGbb2.out.2 (by rw[HEB.out];exact Zg h),HGbb3.out,HMM.out.1,λh=>hms0 (HMM.out.2 h),hf⟩
     ·exact HA.out i (by omega))
    go_wp2
    go_roundw
    case rel=>exact⟨j+1,by go_num,by omega,HB9,HA2⟩
    case measure=>simp[Zi];omega
theorem Zjf{w:World}{B B':Nat}{e e':TypeId}{z z':Nat}{v v':Value}{n n':Nat}{xs xs':List Value}(h:w.ownsRow B e z v n xs)(h':w.ownsRow B' e' z' v' n' xs')(hne:e≠e'):∀k,v'.ownBlock=some k->v.ownBlock≠some k:=λk hk e9=>by
 rcases h.2 with ⟨hv,-⟩|⟨g,cap,cur,hv,-,hg,-⟩
 ·rw[hv]at e9;cases e9
 ·rw[hv]at e9;cases e9;rcases h'.2 with ⟨hv',-⟩|⟨g',cap',cur',hv',-,hg',-⟩
  ·rw[hv']at hk;cases hk
  ·rw[hv']at hk;cases hk;rw[hg]at hg';simp only[ZDJ,Obj.cells.injEq]at hg';exact hne hg'.2.1
theorem ZuM{w:World}{B e z n c:Nat}{ad:Option Addr}{xs:List Value}(h:w.ownsRow B e z (.slice ad n c) n xs):n<=c/\c<=maxLen:=by
 rcases h.2 with ⟨hv,h0⟩|⟨g,cap,cur,hv,-,-,h1,h2,-⟩
 ·simp only[ZDG]at hv;obtain⟨-,-,rfl⟩:=hv;exact⟨by omega,Zx _⟩
 ·simp only[ZDG]at hv;obtain⟨-,-,rfl⟩:=hv;exact⟨h1,h2⟩
def tqL(Q:List Tq):List Ty:=Q.map (·.x)
theorem Zgy{B:Nat}{w:World}{ad:Option Addr}{m c:Nat}{Q:List Tq}(h:TqO B w ad m c Q)(hk:Zqm Q)(hm:m<=1000):ZBU 29 (tqL Q) m ad c:=λw9 h9=>by
 obtain⟨h1,h2⟩:=ZuM h.2.1;exact Zp8 (tqL Q) m ad c w9 (by unfold tqL;rw[ZDD];exact h.1) (Zjp hk (by rw[h.1];exact hm)) h1 h2 h9
theorem ZqU(G:Nat)(a:Option Addr)(n cap:Nat)(zs:List Int)(w0:World)(h:Zfr w0 G a n cap zs):
  Calls prog 21 #[.pointer (some ⟨G,0,none⟩)] w0 λe w'=>∃ad m c Q,e=.returned (.slice ad m c)/\1<=m/\m<=6/\TqO w0.heap.size w' ad m c Q/\Zqm Q/\ZG G a n cap zs w0 w':=by
 obtain⟨i0,hi,hz0,hz1,hz2⟩:=info_parts ZAH;have hlt:=ZdC h;have HH:=J h;clear h;go_enter func21,ntmps21
 go_wp2_with fail
 refine(Zbo G a n cap zs 6 _ (by omega) (by omega) (ZaY HH.out _)).mono ?_;rintro e w2 ⟨x,hx0,hx6,rfl,hd⟩;have HST:=J (ZuK HH.out hd);obtain⟨i,rfl⟩:∃i:Nat,x=i:=⟨x.toNat,by omega⟩;clear hd;go_wp2
 go_loopw [3,4] (λov iv wr=>∃(i m c:Nat) (ad:Option Addr) (Q:List Tq),iv=I i/\ov=.slice ad m c/\i+m<=6/\Hid (TqO w0.heap.size wr ad m c Q)/\Hid (Zqm Q)/\Hid (ZG G a n cap zs w0 wr)) (λ_ iv _=>(Zi iv).toNat)
 case atStart=>exact⟨i+1,0,0,_,[],by go_num,rfl,by omega,J HST.out.1,J (λq hq=>by cases hq),J HST.out.2⟩
 case round=>
  obtain⟨i,m,c,ad,Q,rfl,rfl,him,HO,HOK,HD⟩:=hrel;obtain⟨WR,rfl⟩:∃WR,WR=wr:=⟨_,rfl⟩;by_cases hi0:0<i
  ·have hii:(0:Int)<(i:Int):=by omega
   have HJ:=J (show TJ G a n cap zs w0 WR.heap.size ad m c Q WR from⟨hlt,HD.out.2.size,HO.out,Zsq HO.out,HD.out⟩);have hsz:w0.heap.size<=WR.heap.size:=HD.out.2.size;have HLEN:Hid ((Q.flatMap tqV).length=m*10):=J (by rw[ZpR,HO.out.1]);have HSRC:=J (λhm=>ZBD HO.out hm);have HONE:=J (ZAL Q);have hm6:m<=5:=by omega
   go_wp2_with (first
    |(at_builtin;refine Zd8 (by rfl) (.tmp 14) (.tmp 15) 24 (by rfl) WR.heap.size 33 i0 (.agg #[.string ⟨#[]⟩,I 0,I 0,.slice none 0 0,I 0,I 0,.string ⟨#[]⟩,.string ⟨#[]⟩,.string ⟨#[]⟩,.slice none 0 0]) 10 144 underlying24 hi hz0 hz1 hz2 rfl (by decide) (.slice (some ⟨WR.heap.size,0,none⟩) 0 0) 0 [] (by rfl) (ZjD WR) ad m c (Q.flatMap tqV) (by rfl) HLEN.out HSRC.out HONE.out (by unfold maxLen;omega) (by omega) (by simp) ?_;intro a9 c9 w9 hown9 hgr9;rw[ZDE,List.nil_append]at hown9;have HC9:=J hown9;have hz9:WR.heap.size<=w9.heap.size:=(by have h9:=hgr9.size;simp at h9;omega);have HJ9:=J (Zjx (Zju HJ.out ((Ze _ _).alloc (Zb _) _)) hgr9 (λk hk=>by cases hk;exact Zb _));clear hown9 hgr9;rw[ZDE])
    |(go_at_call 41;refine(Zts G a n cap zs m _ (by omega) HJ9.out.2.2.2.2.1).mono ?_;rintro e w5 ⟨q,rfl,hok,hrow,hd⟩;rw[show(tqV q).toArray=#[.string q.x.nm,I q.x.kd,I q.x.bs,.slice q.am q.x.ms.length q.cm,I q.x.mn,I q.x.mx,.string q.x.lo,.string q.x.hi,.string q.x.pt,.slice q.ae q.x.en.length q.ce] from rfl];have hz5:WR.heap.size<=w5.heap.size:=ZDA hz9 hd.2.size;have HJ5:=J (ZpO HJ9.out hd);have HC5:=J (Zbv HC9.out hd.2 (λk hk e=>by cases hk;have h1:=(HC9.out.lt G e).1;omega));have HF5:=J hrow;have HOK5:=J hok;clear hok hrow hd)
    |(at_builtin;refine wpList_append_own _ rfl (.tmp 16) (.tmp 21) 24 rfl WR.heap.size 33 i0 (.agg #[.string ⟨#[]⟩,I 0,I 0,.slice none 0 0,I 0,I 0,.string ⟨#[]⟩,.string ⟨#[]⟩,.string ⟨#[]⟩,.slice none 0 0]) 10 144 underlying24 hi hz0 hz1 hz2 rfl (by decide) _ _ _ rfl (HC5.out.alloc _) ⟨w5.heap.size,0,none⟩ 1 1 (tqV q) rfl rfl (λj u hj=>ZzV w5 q j u hj) (ZsM _) (by unfold maxLen;omega) (by omega) (by simp;omega) ?_;intro v2 w7 hown2 hgrow2 _;obtain⟨ad2,c2',hv2⟩:=Zdp hown2;rw[hv2]at hown2 ⊢;clear hv2;have HJ7:=J (Zjx (Zju HJ5.out ((Ze _ _).alloc (Zb _) _)) hgrow2 (λk hk=>(HC5.out.lt k hk).1));have HF7:Hid (TqR w9.heap.size w7 q):=J ⟨Zbv (HF5.out.1.alloc _) hgrow2 (Zjf HF5.out.1 HC5.out (by decide)),Zbv (HF5.out.2.alloc _) hgrow2 (Zjf HF5.out.2 HC5.out (by decide))⟩;have HO7:=J hown2;have hz7:WR.heap.size<=w7.heap.size:=(by have h9:=hgrow2.size;simp at h9;omega);clear hown2 hgrow2))
   have HN7:Hid (TqO w0.heap.size w7 ad2 (m+1) c2' (Q++[q])):=J (Zx4 HJ7.out.2.2.1 HO7.out hsz HF7.out (ZDA hsz hz9));have HK7:Hid (Zqm (Q++[q])):=J (Zrl HOK.out HOK5.out);refine(Zgy HN7.out HK7.out (by omega) w7 (ZlX HN7.out)).mono ?_;rintro e w8 ⟨B,rfl,-,hb8⟩;have HJ8:=J (Zju HJ7.out hb8);have HN8:=J (ZAb HN7.out hb8);clear hb8;cases B
   ·go_wp2_with fail
    refine(Zdj G a n cap zs 40 _ (by omega) (by omega) HJ8.out.2.2.2.2.1).mono ?_;rintro e w10 ⟨x,rfl,hd⟩;have HJ10:=J (ZpO HJ8.out hd);have HN10:=J (Zs5 hlt HN8.out hd);clear hd;cases x
    ·go_wp2
     go_roundw
     case rel=>exact⟨i-1,m,c,ad,Q,by go_num,rfl,by omega,J HJ10.out.2.2.1,HOK,J HJ10.out.2.2.2.2⟩
     case measure=>simp[Zi];omega
    ·go_wp2
     go_roundw
     case rel=>exact⟨i-1,m+1,c2',ad2,Q++[q],by go_num,rfl,by omega,HN10,HK7,J HJ10.out.2.2.2.2⟩
     case measure=>simp[Zi];omega
   ·go_wp2
    go_roundw
    case rel=>exact⟨i-1,m+1,c2',ad2,Q++[q],by go_num,rfl,by omega,HN8,HK7,J HJ8.out.2.2.2.2⟩
    case measure=>simp[Zi];omega
  ·have hie:i=0:=by omega
   subst hie;have hsz:w0.heap.size<=WR.heap.size:=HD.out.2.size;by_cases hm0:m=0
   ·subst hm0;go_wp2;go_ret;refine⟨_,1,1,[⟨tyN ⟨#[116,48]⟩ 1,none,0,none,0⟩],rfl,Zb _,by omega,⟨rfl,?_,λq hq=>?_⟩,λq hq=>?_,⟨ZaY HD.out.1 _,ZaP HD.out.2 (ZEn WR _ _)⟩⟩
    ·exact⟨rfl,.inr ⟨WR.heap.size,1,(tqV ⟨tyN ⟨#[116,48]⟩ 1,none,0,none,0⟩).toArray,rfl,hsz,Zz WR _,Zb _,by unfold maxLen;omega,rfl,rfl⟩⟩
    ·rw[List.mem_singleton]at hq;subst hq;exact⟨ZEo _ _ _ _,ZEo _ _ _ _⟩
    ·rw[List.mem_singleton]at hq;subst hq;exact⟨by show 2<=4000;omega,Zx _,Zx _,Zx _,⟨Zx _,λm hm=>by cases hm⟩,⟨Zx _,λe he=>by cases he⟩,⟨Int.le_refl 0,by show(0:Int)<=100;omega⟩,⟨by show(1:Int)<=1;omega,by show(1:Int)<=10;omega⟩⟩
   ·have hm1:((m:Int)==0)=false:=(by rw[ZDU];omega);go_wp2;go_ret;exact⟨ad,m,c,Q,rfl,by omega,by omega,HO.out,HOK.out,HD.out⟩
theorem ZlJ{B:Nat}{G:Nat}{a:Option Addr}{n cap:Nat}{zs:List Int}{w w1:World}{ad:Option Addr}{m c:Nat}{Q:List Tq}(h:TqO B w ad m c Q)(hd:ZG G a n cap zs w w1)(hG:G<B):TqO B w1 ad m c Q:=Zkk h (Zsq h) hd.2 (λk hk=>by cases hk;exact .inr hG)
theorem Zpe{B:Nat}{w:World}{ad:Option Addr}{m c:Nat}{Q:List Tq}(h:TqO B w ad m c Q)(hk:Zqm Q)(hm:m<=1000)(n:Int)(s:ZB)(hs:s.size<=4000):Calls prog 10 #[.slice ad m c,I n,.string s] w (ZT (vaO (tqL Q) n s) w):=
 Zhz (tqL Q) m ad c n s w (by unfold tqL;rw[ZDD];exact h.1) (Zjp hk (by rw[h.1];exact hm)) (Zgy h hk hm) hs (ZlX h)
theorem Zr0(G:Nat)(a:Option Addr)(n cap:Nat)(zs:List Int)(B:Nat)(ad:Option Addr)(m c:Nat)(Q:List Tq)(k:Int)(w0:World)(h:Zfr w0 G a n cap zs)(hQ:TqO B w0 ad m c Q)(hk:Zqm Q)(hm:m<=1000)(hG:G<B):
  Calls prog 26 #[.pointer (some ⟨G,0,none⟩),.slice ad m c,I k] w0 (VdA G a n cap zs w0):=by
 have HH:=J h;have HQ:=J hQ;have HK:=J hk;clear h hQ hk;go_enter func26,ntmps26
 go_wp2_with fail
 refine(Zkd G a n cap zs _ HH.out).mono ?_;rintro e w1 ⟨s0,hs0,rfl,hd⟩;have HD:=J hd;clear hd;go_wp2_with fail
 go_loopw [7,8] (λsv iv wr=>∃(i:Nat) (s:ZB),iv=I i/\i<=8/\sv=.string s/\s.size<=100/\Hid (ZG G a n cap zs w0 wr)) (λ_ iv _=>8-(Zi iv).toNat)
 case atStart=>exact⟨0,s0,rfl,by omega,rfl,hs0,HD⟩
 case round=>
  obtain⟨i,s,rfl,hi8,rfl,hs,HDr⟩:=hrel;by_cases hlt:i<8
  ·have hii:(i:Int)<8:=by omega
   have CV:=J (Zpe (ZlJ HQ.out HDr.out hG) HK.out hm k s (by omega));unfold ZT Zf0 at CV;obtain⟨T,hT⟩:=ZX ((vaO (tqL Q) k s).getD ⟨#[]⟩);obtain⟨ok,hok⟩:=ZX ((vaO (tqL Q) k s).isSome);rw[hT,hok]at CV;clear hT hok;go_wp2_with fail
   refine ZM CV.out ?_;rintro w3 hb3;have HD3:=J (ZjV HDr.out hb3);clear hb3 CV;cases ok
   ·go_wp2_with fail
    refine(Zkd G a n cap zs _ HD3.out.1).mono ?_;rintro e w4 ⟨s4,hs4,rfl,hd⟩;have HD4:=J (Zaj HD3.out hd);clear hd;go_wp2
    go_roundw
    case rel=>exact⟨i+1,s4,by go_num,by omega,rfl,hs4,HD4⟩
    case measure=>simp[Zi];omega
   ·go_wp2;go_ret;exact⟨s,hs,rfl,HD3.out⟩
  ·have hii:¬(i:Int)<8:=by omega
   go_wp2;go_ret;exact⟨s,hs,rfl,HDr.out⟩
def DsA(w:World)(e:Ending)(w':World):Prop:=∃(B:Nat) (ad:Option Addr) (m c:Nat) (Q:List Tq) (k:Int) (s t:ZB),e=.returned (.tuple #[.slice ad m c,I k,.string s,.string t])/\(1<=m/\m<=6)/\TqO B w' ad m c Q/\Zqm Q/\(-1000<=k/\k<=1000)/\s.size<=100/\t.size<=300/\ZL w w'
theorem Zhy{G:Nat}{a:Option Addr}{n cap:Nat}{zs:List Int}{w w1 w2:World}(h:Below G w w1)(hd:ZG G a n cap zs w1 w2)(hG:G<=w1.heap.size):Below G w w2:=
 h.grown hd.2 hG (λk hk=>by cases hk;exact Zb _)
theorem ZyU(a:Option Addr)(n cap:Nat)(zs:List Int)(w:World)(hl:zs.length=n)(hz:∀x∈zs,0<=x/\x<=255)(hn:n<=1048576)(hs:Zpw w a zs w.heap.size):
  Calls prog 18 #[.slice a n cap] w (DsA w):=by
 have HS:=J hs;have HL:=J hl;have HZ:=J hz;clear hs hl hz;go_enter func18,ntmps18
 go_wp2_with fail
 refine ZM (ZAx a n cap zs w HL.out HZ.out hn HS.out) ?_;rintro w1 ⟨hrd,hb1⟩;have HRD:=J hrd;have HB1:=J hb1;clear hrd hb1;go_wp2_with fail
 refine(ZqU w.heap.size a n cap zs _ HRD.out).mono ?_;rintro e w2 ⟨ad,m,c,Q,rfl,hm1,hm6,ho,hok,hd⟩;have HO2:=J ho;have HK2:=J hok;have HD2:=J hd;have hG1:w.heap.size<w1.heap.size:=ZdC HRD.out;clear ho hok hd;go_wp2_with fail
 refine(Zbo w.heap.size a n cap zs (m:Int) _ (by omega) (by omega) HD2.out.1).mono ?_;rintro e w3 ⟨k,hk0,hk1,rfl,hd⟩;have HO3:=J (ZlJ HO2.out hd hG1);have HD3:=J (Zaj HD2.out hd);clear hd;go_wp2_with fail
 refine(Zr0 w.heap.size a n cap zs w1.heap.size ad m c Q k _ HD3.out.1 HO3.out HK2.out (by omega) hG1).mono ?_;rintro e w4 ⟨s,hs,rfl,hd⟩;have HO4:=J (ZlJ HO3.out hd hG1);have HD4:=J (Zaj HD3.out hd);clear hd;go_wp2_with fail
 refine(Zdj w.heap.size a n cap zs 2 _ (by omega) (by omega) HD4.out.1).mono ?_;rintro e w5 ⟨o,rfl,hd⟩;have HO5:=J (ZlJ HO4.out hd hG1);have HD5:=J (Zaj HD4.out hd);clear hd;cases o
 ·go_wp2_with fail
  refine(Zr0 w.heap.size a n cap zs w1.heap.size ad m c Q k _ HD5.out.1 HO5.out HK2.out (by omega) hG1).mono ?_;rintro e w6 ⟨t,ht,rfl,hd⟩;have HO6:=J (ZlJ HO5.out hd hG1);have HD6:=J (Zaj HD5.out hd);clear hd;go_wp2;refine bodyPost_ret (v:=.tuple #[.slice ad m c,I k,.string s,.string t]) (by simp[results,results18,go_sem]) rfl ⟨w1.heap.size,ad,m,c,Q,k,s,t,rfl,⟨hm1,hm6⟩,HO6.out,HK2.out,⟨by omega,by omega⟩,hs,by omega,Zhy HB1.out HD6.out (by omega)⟩
 ·have hz1:¬9223372036854775807<1+s.size:=by omega
  have hz2:¬9223372036854775807<1+s.size+1:=by omega
  go_wp2;refine bodyPost_ret (v:=.tuple #[.slice ad m c,I k,.string s,.string (⟨#[32]⟩++s++⟨#[32]⟩)]) (by simp[results,results18,go_sem]) rfl ⟨w1.heap.size,ad,m,c,Q,k,s,_,rfl,⟨hm1,hm6⟩,HO5.out,HK2.out,⟨by omega,by omega⟩,hs,?_,Zhy HB1.out HD5.out (by omega)⟩;simp only[Z5];show 1+s.size+1<=300;omega
end
end Go.Proofs.YtcdnilpdohknfaaGreatDoor
