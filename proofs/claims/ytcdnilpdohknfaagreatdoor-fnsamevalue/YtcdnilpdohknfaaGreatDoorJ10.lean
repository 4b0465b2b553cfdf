import Derived.Test.YtcdnilpdohknfaaGreatDoorJ8
import Derived.Lib.OthersKept
import Derived.Lib.IndexBytes
import Derived.Laws.RangeAny
import Derived.WalkSmall
import Derived.Test.YtcdnilpdohknfaaGreatDoorJ7
import Derived.Lib.LaidIn
import Derived.Lib.LaidU8T
set_option linter.unusedVariables false
set_option linter.unusedSimpArgs false
set_option maxRecDepth 100000
set_option maxHeartbeats 16000000
namespace Go.Proofs.YtcdnilpdohknfaaGreatDoor
open Tryz
section
open Go.RowKit Go.Joins
def DX(w w':World)(y mo d h mi s:Int)(g:Bool)(z:Int):Prop:=ZpL w' w.heap.size y mo d h mi s g z/\ZL w w'
section
variable {w w1 w2:World} {y mo d h mi s:Int} {g:Bool} {z:Int}
theorem Zgx(x:DX w w1 y mo d h mi s g z)(k:ZL w1 w2):DX w w2 y mo d h mi s g z:=⟨ZbI x.1 k,x.2.trans (k.mono x.2.size)⟩
theorem Zc8(x:DX w w1 y mo d h mi s g z):DX w w1.drew y mo d h mi s g z:=Zgx x ⟨rfl,rfl,rfl,Zb _,λ_ _=>rfl⟩
theorem ZdE(x:DX w w1 y mo d h mi s g z):DX w w1 y mo d h mi s g z/\w1.cell? ⟨w.heap.size,0,none⟩=some (I y)/\w1.cell? ⟨w.heap.size,1,none⟩=some (I mo)/\w1.cell? ⟨w.heap.size,2,none⟩=some (I d)/\w1.cell? ⟨w.heap.size,3,none⟩=some (I h)/\w1.cell? ⟨w.heap.size,4,none⟩=some (I mi)/\w1.cell? ⟨w.heap.size,5,none⟩=some (I s)/\w1.cell? ⟨w.heap.size,6,none⟩=some (.bool g)/\w1.cell? ⟨w.heap.size,7,none⟩=some (I z):=⟨x,x.1.2⟩
end
theorem Zh5{y mo d h mi s:Int}{g:Bool}{z:Int}(x:Z8 y mo d h mi s g z=true):(1<=y/\y<=9999)/\(1<=mo/\mo<=12)/\(1<=d/\d<=dim y mo)/\(0<=h/\h<=23)/\(0<=mi/\mi<=59)/\(0<=s/\s<=59)/\(-840<=z/\z<=840):=by
 simp only[Z8,inB,ZW,Z6]at x;exact⟨x.1,x.2.1,x.2.2.1,x.2.2.2.1,x.2.2.2.2.1,x.2.2.2.2.2.1,x.2.2.2.2.2.2.1⟩
theorem ZyC(a:ZB):a++(⟨#[]⟩:ZB)=a:=by
 apply ByteArray.ext;simp
theorem ZlV(y mo d h mi s:Int)(g:Bool)(z:Int)(w:World):Calls prog 45 #[.agg #[I y,I mo,I d,I h,I mi,I s,.bool g,I z]] w λe w'=>e=.returned (.string (dtB y mo d h mi s g z))/\ZL w w':=by
 cases hd:Z8 y mo d h mi s g z
 ·go_enter func45,ntmps45
  go_wp2_with fail
  refine ZM (ZbN y mo d h mi s g z _) ?_;rintro w1 hb1;rw[hd];have HB1:=J (Za4 hb1);clear hb1;go_wp2;go_ret;exact⟨ZdJ (by simp[dtB,hd]),HB1.out⟩
 ·obtain⟨⟨y0,y1⟩,⟨m0,m1⟩,⟨d0,d1⟩,⟨h0,h1⟩,⟨i0,i1⟩,⟨s0,s1⟩,⟨z0,z1⟩⟩:=Zh5 hd;have d2:d<=31:=by have:=ZfJ y mo;omega
  have HV:Hid (dtB y mo d h mi s g z=Zs2 y mo d++(Zg7 84++(ZbS h mi++(Zg7 58++(Zio s++Zcq g z))))):=J (by rw[dtB,Zd hd]);have hsz:∀n,(Zio n).size=2:=Zfc;have q1:IntKind.i64.wrap (y.tdiv 100)=y/100:=by rw[Int.tdiv_eq_ediv_of_nonneg (by omega),ZY];omega
  have q2:y.tmod 100=y%100:=Int.tmod_eq_emod_of_nonneg (by omega);have q3:IntKind.i64.wrap (y.tmod 100)=y%100:=by rw[q2,ZY];omega
  have Q1:=J q1;have Q2:=J q2;have Q3:=J q3;clear q1 q2 q3;go_enter func45,ntmps45
  go_wp2_with fail
  refine ZM (ZbN y mo d h mi s g z _) ?_;rintro w1 hb1;rw[hd];have HX:Hid (DX w w1 y mo d h mi s g z):=⟨ZbI (Zcl w y mo d h mi s g z _) hb1,Za4 hb1⟩;clear hb1 hd;have hS0:=ZdE (Zc8 HX.out);go_wp2_with fail
  go_cut [3] (λv3 wx=>∃T:ZB,v3=.string T/\T.size<=30/\Hid (T=Zs2 y mo d++(Zg7 84++(ZbS h mi++(Zg7 58++Zio s))))/\Hid (DX w wx y mo d h mi s g z))
  case first=>
   go_region_held3 (λw'=>DX w w' y mo d h mi s g z/\w'.cell? ⟨w.heap.size,0,none⟩=some (I y)/\w'.cell? ⟨w.heap.size,1,none⟩=some (I mo)/\w'.cell? ⟨w.heap.size,2,none⟩=some (I d)/\w'.cell? ⟨w.heap.size,3,none⟩=some (I h)/\w'.cell? ⟨w.heap.size,4,none⟩=some (I mi)/\w'.cell? ⟨w.heap.size,5,none⟩=some (I s)/\w'.cell? ⟨w.heap.size,6,none⟩=some (.bool g)/\w'.cell? ⟨w.heap.size,7,none⟩=some (I z)) (first|assumption|exact ZdE HY.out) (first|(go_at_call 77;refine ZM (Zyf _ _ (by first|omega|(rw[Q1.out];omega)|(rw[Q3.out];omega)|(rw[Q2.out];omega)) (by first|omega|(rw[Q1.out];omega)|(rw[Q3.out];omega)|(rw[Q2.out];omega))) ?_;rintro wn hbn;(first|(replace HY:=J (Zgx HY.out hbn))|(have HY:=J (Zgx (Zc8 HX.out) hbn)));clear hbn))
   all_goals
    go_wp2_with fail
    go_meet
    refine⟨_,rfl,?_,J ?_,HY⟩
    ·simp only[Z5,hsz];decide
    ·first
      |(rw[Q1.out,Q3.out];simp only[Zs2,Zg8,ZbS,Zg7,ZDO])
      |(rw[Q1.out,Q2.out];simp only[Zs2,Zg8,ZbS,Zg7,ZDO])
  case rest=>
   obtain⟨T,rfl,hTs,HTT,HY⟩:=hcut;cases g
   ·obtain⟨-,k0,k1,k2,k3,k4,k5,k6,k7⟩:=ZdE HY.out;go_wp2;go_ret;exact⟨ZdJ (by rw[HV.out,HTT.out,show Zcq false z=⟨#[]⟩ from rfl,ZyC]),HY.out.2⟩
   ·rcases(show z=0\/z<0\/0<z by omega) with hz|hz|hz
    ·subst hz;obtain⟨-,k0,k1,k2,k3,k4,k5,k6,k7⟩:=ZdE HY.out;go_wp2;go_ret;exact⟨ZdJ (by rw[HV.out,HTT.out];simp only[Zcq,ZQ,if_false,if_true,Zg7,ZDO]),HY.out.2⟩
    ·obtain⟨u,rfl⟩:∃u,z = -u:=⟨-z,by omega⟩;have u0:0<u:=(by omega);have u1:u<=840:=(by omega);have e0:(-u==0)=false:=(by simp;omega);have hS1:=ZdE (Zc8 HY.out);obtain⟨-,k0,k1,k2,k3,k4,k5,k6,k7⟩:=ZdE HY.out;have p1:IntKind.i64.wrap (u.tdiv 60)=u/60:=(by rw[Int.tdiv_eq_ediv_of_nonneg (by omega),ZY];omega);have p2:u.tmod 60=u%60:=Int.tmod_eq_emod_of_nonneg (by omega);have p3:IntKind.i64.wrap (u.tmod 60)=u%60:=(by rw[p2,ZY];omega);have P0:Hid (IntKind.i64.wrap u=u):=J (by rw[ZY];omega);have P4:Hid (IntKind.i64.wrap (u%60)=u%60):=J (by rw[ZY];omega);have P1:=J p1;have P2:=J p2;have P3:=J p3;clear p1 p2 p3;have b1:¬9223372036854775807<T.size+1:=(by omega);have b2:¬9223372036854775807<T.size+1+2:=(by omega);have b3:¬9223372036854775807<T.size+1+2+1:=(by omega);have b4:¬9223372036854775807<T.size+1+2+1+2:=(by omega);go_wp2_with fail
     go_region_held3 (λw'=>DX w w' y mo d h mi s true (-u)/\w'.cell? ⟨w.heap.size,0,none⟩=some (I y)/\w'.cell? ⟨w.heap.size,1,none⟩=some (I mo)/\w'.cell? ⟨w.heap.size,2,none⟩=some (I d)/\w'.cell? ⟨w.heap.size,3,none⟩=some (I h)/\w'.cell? ⟨w.heap.size,4,none⟩=some (I mi)/\w'.cell? ⟨w.heap.size,5,none⟩=some (I s)/\w'.cell? ⟨w.heap.size,6,none⟩=some (.bool true)/\w'.cell? ⟨w.heap.size,7,none⟩=some (I (-u))) (first|assumption|exact ZdE HW.out) (first|(go_at_call 77;refine ZM (Zyf _ _ (by first|omega|(simp only[P0.out,P1.out,P3.out];omega)|(simp only[P0.out,P1.out,P2.out,P4.out];omega)) (by first|omega|(simp only[P0.out,P1.out,P3.out];omega)|(simp only[P0.out,P1.out,P2.out,P4.out];omega))) ?_;rintro wn hbn;(first|(replace HW:=J (Zgx HW.out hbn))|(have HW:=J (Zgx (Zc8 HY.out) hbn)));clear hbn))
     all_goals
      go_wp2;go_ret;refine⟨ZdJ ?_,HW.out.2⟩;rw[HV.out,HTT.out];try simp only[P0.out,P1.out,P3.out]
      try simp only[P0.out,P1.out,P2.out,P4.out]
      simp only[Zcq,ZQ,if_false];rw[Za (by omega),Zd (by omega)];simp only[ZbS,Zg7,ZDO,Int.neg_neg]
    ·have e0:(z==0)=false:=(by simp;omega);have e1:¬z<0:=(by omega);have hS1:=ZdE (Zc8 HY.out);obtain⟨-,k0,k1,k2,k3,k4,k5,k6,k7⟩:=ZdE HY.out;have p1:IntKind.i64.wrap (z.tdiv 60)=z/60:=(by rw[Int.tdiv_eq_ediv_of_nonneg (by omega),ZY];omega);have p2:z.tmod 60=z%60:=Int.tmod_eq_emod_of_nonneg (by omega);have p3:IntKind.i64.wrap (z.tmod 60)=z%60:=(by rw[p2,ZY];omega);have P0:Hid (IntKind.i64.wrap z=z):=J (by rw[ZY];omega);have P4:Hid (IntKind.i64.wrap (z%60)=z%60):=J (by rw[ZY];omega);have P1:=J p1;have P2:=J p2;have P3:=J p3;clear p1 p2 p3;have b1:¬9223372036854775807<T.size+1:=(by omega);have b2:¬9223372036854775807<T.size+1+2:=(by omega);have b3:¬9223372036854775807<T.size+1+2+1:=(by omega);have b4:¬9223372036854775807<T.size+1+2+1+2:=(by omega);go_wp2_with fail
     go_region_held3 (λw'=>DX w w' y mo d h mi s true z/\w'.cell? ⟨w.heap.size,0,none⟩=some (I y)/\w'.cell? ⟨w.heap.size,1,none⟩=some (I mo)/\w'.cell? ⟨w.heap.size,2,none⟩=some (I d)/\w'.cell? ⟨w.heap.size,3,none⟩=some (I h)/\w'.cell? ⟨w.heap.size,4,none⟩=some (I mi)/\w'.cell? ⟨w.heap.size,5,none⟩=some (I s)/\w'.cell? ⟨w.heap.size,6,none⟩=some (.bool true)/\w'.cell? ⟨w.heap.size,7,none⟩=some (I z)) (first|assumption|exact ZdE HW.out) (first|(go_at_call 77;refine ZM (Zyf _ _ (by first|omega|(simp only[P0.out,P1.out,P3.out];omega)|(simp only[P0.out,P1.out,P2.out,P4.out];omega)) (by first|omega|(simp only[P0.out,P1.out,P3.out];omega)|(simp only[P0.out,P1.out,P2.out,P4.out];omega))) ?_;rintro wn hbn;(first|(replace HW:=J (Zgx HW.out hbn))|(have HW:=J (Zgx (Zc8 HY.out) hbn)));clear hbn))
     all_goals
      go_wp2;go_ret;refine⟨ZdJ ?_,HW.out.2⟩;rw[HV.out,HTT.out];try simp only[P0.out,P1.out,P3.out]
      try simp only[P0.out,P1.out,P2.out,P4.out]
      simp only[Zcq,ZQ,if_false];rw[Za (by omega),Za (by omega)];simp only[ZbS,Zg7,ZDO,Int.neg_neg]
end
section
open Go.RowKit
def rns(s:ZB):Option (List Int):=if s.size<=20000 then Z9 s.data.toList else none
def ZF(o:Option (List Int)):List Int:=o.getD []
theorem ZkQ{w:World}{B:Nat}{e:TypeId}{v:Value}{n:Nat}{xs:List Value}(h:w.ownsRow B e 1 v n xs):∃ad cap,v=.slice ad n cap:=by
 rcases h.2 with ⟨rfl,rfl⟩|⟨g,cap,cur,rfl,_⟩
 ·exact⟨_,_,rfl⟩
 ·exact⟨_,_,rfl⟩
theorem ZmH{w wr w2:World}{o:Obj}{e:TypeId}{ad:Option Addr}{n c:Nat}{xs:List Value}(hb:ZL w wr)(hown:wr.ownsRow w.heap.size e 1 (.slice ad n c) n xs)
  (hg:(wr.alloc o).grownBy w2 (Value.slice ad n c).ownBlock):ZL w w2:=by
 have h2:ZL w (wr.alloc o):=hb.alloc hb.size o;exact h2.grown hg h2.size (λk hk=>(hown.lt k hk).1)
theorem Zqk(w:World)(v:Value)(t:TypeId)(j:Nat)(u:Value)(hj:[v][j]?=some u):(w.alloc (.cells #[v] t)).cell? ((⟨w.heap.size,0,none⟩:Addr).add j)=some u:=by
 have h0:j=0:=by
  rcases Nat.eq_zero_or_pos j with h|h
  ·exact h
  ·rw[List.getElem?_eq_none (by simp;omega)]at hj;simp at hj
 subst h0;simp at hj;subst hj;simp[Addr.add]
theorem Znt(k:IntKind)(n:Int):∀u∈[Value.int k n],u.oneCell'=true:=by
 intro u hu;simp at hu;subst hu;rfl
def ZpG(s cur:ZB)(w wr:World)(acc:List Int)(ad:Option Addr)(c:Nat):Prop:=
 wr.ownsRow w.heap.size 2 1 (.slice ad acc.length c) acc.length (acc.map (Value.int .i64))/\ZL w wr/\
  Z9 s.data.toList=(Z9 cur.data.toList).map (acc++·)/\acc.length+cur.size<=s.size/\cur.size<=s.size
theorem ZuC(s:ZB)(w:World):ZpG s s w (w.alloc (.cells #[] 2)) [] (some ⟨w.heap.size,0,none⟩) 0:=
 ⟨World.ownsRow_made (base:=w.heap.size) (e:=2) (size:=1) w #[] 0 (Zb _) (Zx _) rfl,(Ze _ _).alloc (Zb _) _,by simp,by simp,Zb _⟩
theorem Zn3{s:ZB}(h:0<s.size):s.data.toList≠[]:=by
 intro e;have:=Zn List.length e;rw[ZDL]at this;exact absurd h (by show ¬0<s.data.size;rw[this];simp)
theorem Zoz(s:ZB)(a:Nat):(s.extract a s.size).data.toList=s.data.toList.drop a:=Lib.extract_to_end s a
theorem Zw5{s cur:ZB}{w wr:World}{acc:List Int}{ad:Option Addr}{c:Nat}(h:ZpG s cur w wr acc ad c)(h0:0<cur.size)(hz:(rn cur).2=0):Z9 s.data.toList=none:=by
 have hd:Lib.decodeL cur.data.toList=(65533,1):=by
  by_cases e:Lib.decodeL cur.data.toList=(65533,1)
  ·exact e
  ·have hw:=Lib.decodeL_width cur.data.toList;rw[rn,rnF,Za e]at hz;simp at hz;omega
 rw[h.2.2.1,Zb7 (Zn3 h0) hd];rfl
theorem Zx1{s cur:ZB}{w wr w2:World}{acc:List Int}{ad ad2:Option Addr}{c c2:Nat}{o:Obj}{r k:Int}(h:ZpG s cur w wr acc ad c)(h0:0<cur.size)(hr:(rn cur).1=r)(hk:(rn cur).2=k)(hz:k≠0)
  (hown:w2.ownsRow w.heap.size 2 1 (.slice ad2 (acc.length+1) c2) (acc.length+1) (acc.map (Value.int .i64)++[I r])) (hgr:(wr.alloc o).grownBy w2 (Value.slice ad acc.length c).ownBlock):
  ZpG s (cur.extract k.toNat cur.size) w w2 (acc++[r]) ad2 c2:=by
 obtain⟨h1,h2,h3,h4,h5⟩:=h;have hne:Lib.decodeL cur.data.toList≠(65533,1):=λe=>by rw[rn,rnF,Zd e]at hk;exact hz hk.symm
 have hw:=Lib.decodeL_width cur.data.toList;have hl:=Lib.decodeL_le cur.data.toList (Zn3 h0);rw[ZDL]at hl;rw[rn,rnF,Za hne]at hr hk;have ek:k.toNat=(Lib.decodeL cur.data.toList).2:=by rw[<-hk];simp
 have hsz:(cur.extract k.toNat cur.size).size=cur.size-(Lib.decodeL cur.data.toList).2:=by rw[ByteArray.size_extract,ek];omega
 have hl':(Lib.decodeL cur.data.toList).2<=cur.size:=hl;refine⟨?_,ZmH h2 h1 hgr,?_,?_,?_⟩
 ·rw[show(acc++[r]).length=acc.length+1 by simp,show(acc++[r]).map (Value.int .i64)=acc.map (Value.int .i64)++[I r] by simp];exact hown
 ·rw[h3,ZbA (Zn3 h0) hne,Zoz,ek,<-hr];cases Z9 (cur.data.toList.drop (Lib.decodeL cur.data.toList).2)<;>simp
 ·rw[hsz];simp;omega
 ·rw[hsz];omega
theorem ZBt{s cur:ZB}{w wr:World}{acc:List Int}{ad:Option Addr}{c:Nat}(h:ZpG s cur w wr acc ad c)(h0:cur.size=0):Z9 s.data.toList=some acc:=by
 have:cur.data.toList=[]:=by
  apply List.length_eq_zero_iff.1;rw[ZDL];exact h0
 rw[h.2.2.1,this,Zbs];simp
theorem ZBx{s:ZB}(h:0<s.size):0<=(rn s).2/\(rn s).2<=s.size/\0<=(rn s).1/\(rn s).1<=1114111:=by
 have hl:=Lib.decodeL_le s.data.toList (Zn3 h);have hr:=Lib.decodeL_rune s.data.toList;rw[ZDL]at hl;have hl':(Lib.decodeL s.data.toList).2<=s.size:=hl;rw[rn,rnF];split
 ·simp
 ·simp;omega
def ZqM:Value->Nat|.string s=>s.size|_=>0
theorem Znl{s:ZB}(h:s.size=0):s.toList.isEmpty=true:=by
 rw[Lib.toList_data,List.isEmpty_iff];apply List.length_eq_zero_iff.1;rw[ZDL];exact h
theorem Zle(s:ZB)(r k:Int)(w:World)(hs:s.size<=1048576)(h0:0<s.size)(hr:(rn s).1=r)(hk:(rn s).2=k):
  Calls prog 100 #[.string s] w λe w'=>e=.returned (.tuple #[I r,I k])/\w'=w:=by
 rw[<-hr,<-hk];exact ZAt s w hs h0
theorem Zjo{s:ZB}(h:¬s.size<=20000):rns s=none:=by rw[rns,Za h]
theorem ZfK{s:ZB}(h:s.size<=20000):rns s=Z9 s.data.toList:=by rw[rns,Zd h]
def Znk(s:ZB)(w:World)(e:Ending)(w':World):Prop:=
 ∃ad c,e=.returned (.tuple #[.slice ad (ZF (rns s)).length c,.bool (rns s).isSome])/\w'.ownsRow w.heap.size 2 1 (.slice ad (ZF (rns s)).length c) (ZF (rns s)).length ((ZF (rns s)).map (Value.int .i64))/\ZL w w'
theorem Zeb{s:ZB}{w w':World}(h:rns s=none)(hb:ZL w w'):Znk s w (.returned (.tuple #[.slice none 0 0,.bool false])) w':=by
 refine⟨none,0,?_,?_,hb⟩
 ·rw[h];rfl
 ·rw[h];exact ZEo _ _ _ _
theorem ZhY{s:ZB}{w w':World}{acc:List Int}{ad:Option Addr}{c:Nat}(h:rns s=some acc)(ho:w'.ownsRow w.heap.size 2 1 (.slice ad acc.length c) acc.length (acc.map (Value.int .i64)))(hb:ZL w w'):
  Znk s w (.returned (.tuple #[.slice ad acc.length c,.bool true])) w':=by
 refine⟨ad,c,?_,?_,hb⟩
 ·rw[h];rfl
 ·rw[h];exact ho
theorem ZqP(s:ZB)(w:World)(hs:s.size<=1048576):
  Calls prog 55 #[.string s] w (Znk s w):=by
 by_cases hlong:s.size<=20000
 ·have hl:¬(20000:Int)<(s.size:Int):=by omega
  obtain⟨i0,hi,hz0,hz1,hz2⟩:=info_parts ZvX;have HS:=J (ZuC s w);have HRS:=J (ZfK hlong);go_enter func55,ntmps55
  go_wp2
  go_loopw [0,4] (λt v wr=>∃(cur:ZB) (acc:List Int) (ad:Option Addr) (c:Nat),t=.string cur/\v=.slice ad acc.length c/\ZpG s cur w wr acc ad c) (λt _ _=>ZqM t)
  case atStart=>exact⟨s,[],_,_,rfl,rfl,HS.out⟩
  case round=>
   obtain⟨cur,acc,ad,c,rfl,rfl,hrel⟩:=hrel;have HR:=J hrel;have hal:=hrel.2.2.2.1;have hcs:=hrel.2.2.2.2;have hsz:=hrel.2.1.size;clear hrel;by_cases h0:0<cur.size
   ·have hem:=ZeP h0;obtain⟨p1,p2,p3,p4⟩:=ZBx h0;obtain⟨r,hr⟩:=ZX ((rn cur).1);obtain⟨k,hk⟩:=ZX ((rn cur).2);rw[hr]at p3 p4;rw[hk]at p1 p2;have HRr:=J hr;have HKk:=J hk;clear hr hk;by_cases hk0:k=0
    ·subst hk0;go_wp2_with (go_at_call 100;refine Zc (Zle cur r 0 _ (by omega) h0 HRr.out HKk.out) ?_)
     go_ret2;exact Zeb (by rw[HRS.out];exact Zw5 HR.out h0 HKk.out) HR.out.2.1
    ·have hkb:(k==0)=false:=(by simpa using hk0);have HK0:=J hk0;clear hk0;go_wp2_with (first|(go_at_call 100;refine Zc (Zle cur r k _ (by omega) h0 HRr.out HKk.out) ?_)|(at_builtin;refine wpList_append_own _ rfl (.tmp 20) (.tmp 22) 30 rfl w.heap.size 2 i0 (I 0) 1 8 underlying30 hi hz0 hz1 hz2 rfl (by decide) _ _ _ rfl (HR.out.1.alloc _) ⟨_,0,none⟩ 1 1 [I r] rfl rfl (λj u hj=>Zqk _ _ _ j u hj) (Znt _ _) (by unfold maxLen;omega) (by omega) (by simp;omega) ?_;intro v2 w2 hown2 hgrow2 _;obtain⟨ad2,c2,hv2⟩:=ZkQ hown2;rw[hv2]at hown2 ⊢;clear hv2;have P2:=J (Zx1 HR.out h0 HRr.out HKk.out HK0.out hown2 hgrow2);clear hown2 hgrow2))
     go_roundw
     case rel=>exact⟨_,acc++[r],ad2,c2,rfl,by simp,P2.out⟩
     case measure=>
      have h1:=HK0.out;have h2:0<k:=(by omega);simp[ZqM,ByteArray.size_extract];omega
   ·have hz:cur.size=0:=(by omega);have hem:=Znl hz;go_wp2;go_ret2;exact ZhY (by rw[HRS.out];exact ZBt HR.out hz) HR.out.1 HR.out.2.1
 ·have hl:(20000:Int)<(s.size:Int):=by omega
  go_enter func55,ntmps55
  go_wp2;go_ret2;exact Zeb (Zjo hlong) (Ze _ _)
def ZlU(s:ZB)(K:Nat)(w wr:World)(pos:Nat)(acc:List Int)(ad:Option Addr)(c:Nat):Prop:=
 wr.heap[K]?=some (.stringIter s pos)/\wr.ownsRow (K+1) 2 1 (.slice ad acc.length c) acc.length (acc.map (Value.int .i64))/\ZL w wr/\
  Z9 s.data.toList=(Z9 (s.data.toList.drop pos)).map (acc++·)/\acc.length<=pos/\pos<=s.size/\(Z9 (s.data.toList.drop pos)).isSome=true/\w.heap.size<=K/\K<wr.heap.size
theorem ZtF{s:ZB}{w w1:World}(hb:ZL w w1)(hv:(Z9 s.data.toList).isSome=true):ZlU s w1.heap.size w (w1.iter s 0) 0 [] none 0:=by
 have hsz:(w1.iter s 0).heap.size=w1.heap.size+1:=by simp[World.iter]
 refine⟨World.iter_heap w1 s 0,ZEo _ _ _ _,hb.alloc hb.size _,by simp,Zx _,Zx _,hv,hb.size,by omega⟩
theorem Zr8{s:ZB}{pos:Nat}(h:pos<s.size):s.data.toList.drop pos≠[]:=by
 intro e;have:=Zn List.length e;rw[ZDC,ZDL]at this;have h':pos<s.data.size:=h;simp at this;omega
theorem ZsO{s:ZB}{K:Nat}{w wr:World}{pos:Nat}{acc:List Int}{ad:Option Addr}{c:Nat}(h:ZlU s K w wr pos acc ad c)(hp:pos<s.size):Utf8.decode s pos≠(65533,1)/\pos+(Utf8.decode s pos).2<=s.size/\1<=(Utf8.decode s pos).2/\(Utf8.decode s pos).1<=1114111:=by
 obtain⟨_,_,_,_,_,_,hv,_,_⟩:=h;have hne:=Zr8 hp;rw[<-Lib.decodeL_drop];have hw:=Lib.decodeL_width (s.data.toList.drop pos);have hl:=Lib.decodeL_le _ hne;have hr:=Lib.decodeL_rune (s.data.toList.drop pos);rw[ZDC,ZDL]at hl;have hp':pos<s.data.size:=hp;refine⟨λe=>(by rw[Zb7 hne e]at hv;cases hv),?_,hw,hr⟩;show pos+_<=s.data.size;omega
theorem Znn{s:ZB}{K:Nat}{w wr:World}{pos:Nat}{acc:List Int}{ad:Option Addr}{c:Nat}(h:ZlU s K w wr pos acc ad c)(p':Nat):
  (wr.iterAt K s p').heap[K]?=some (.stringIter s p')/\(wr.iterAt K s p').ownsRow (K+1) 2 1 (.slice ad acc.length c) acc.length (acc.map (Value.int .i64))/\ZL w (wr.iterAt K s p')/\(wr.iterAt K s p').heap.size=wr.heap.size:=
 ⟨Lib.iterAt_heap wr K s pos p' h.1,ownsRow_iterAt h.2.1 (Nat.lt_succ_self K) s p',Lib.below_iterAt h.2.2.1 h.2.2.2.2.2.2.2.1 s p',Lib.iterAt_size wr K s p'⟩
theorem Zw3{s:ZB}{K:Nat}{w wr wi w2:World}{pos:Nat}{acc:List Int}{ad ad2:Option Addr}{c c2:Nat}{o:Obj}{r k:Nat}(h:ZlU s K w wr pos acc ad c)(hp:pos<s.size)(hr:Utf8.decode s pos=(r,k))(hwi:wr.iterAt K s (pos+k)=wi)
  (hown:w2.ownsRow (K+1) 2 1 (.slice ad2 (acc.length+1) c2) (acc.length+1) (acc.map (Value.int .i64)++[I (r:Int)])) (hgr:(wi.alloc o).grownBy w2 (Value.slice ad acc.length c).ownBlock):
  ZlU s K w w2 (pos+k) (acc++[(r:Int)]) ad2 c2:=by
 obtain⟨m1,m2,m3,m4⟩:=Znn h (pos+k);obtain⟨g1,g2,g3,g4⟩:=ZsO h hp;obtain⟨h1,h2,h3,h4,h5,h6,h7,h8,h9⟩:=h;rw[hwi]at m1 m2 m3 m4;rw[hr]at g1 g2 g3 g4;have hne:=Zr8 hp;have hd:Lib.decodeL (s.data.toList.drop pos)=(r,k):=by rw[Lib.decodeL_drop,hr]
 have hstep:=ZbA hne (by rw[hd];exact g1);rw[hd,List.drop_drop]at hstep;have hba:ZL w (wi.alloc o):=m3.alloc (by omega) o;have hasz:(wi.alloc o).heap.size=wi.heap.size+1:=by simp
 have hlt2:∀q,(Value.slice ad acc.length c).ownBlock=some q->K+1<=q:=λq hq=>(m2.lt q hq).1
 have hKa:(wi.alloc o).heap[K]?=some (.stringIter s (pos+k)):=by rw[Below.heap_alloc wi o K (by omega)];exact m1
 refine⟨?_,?_,hba.grown hgr (by omega) (λq hq=>by have:=hlt2 q hq;omega),?_,?_,g2,?_,h8,?_⟩
 ·rw[hgr.block K (by omega) (λe=>by have:=hlt2 K e.symm;omega)];exact hKa
 ·rw[show(acc++[(r:Int)]).length=acc.length+1 by simp,show(acc++[(r:Int)]).map (Value.int .i64)=acc.map (Value.int .i64)++[I (r:Int)] by simp];exact hown
 ·rw[h4,hstep];cases Z9 (s.data.toList.drop (pos+k))<;>simp
 ·have g3':1<=k:=g3;simp;omega
 ·rw[hstep]at h7;cases hh:Z9 (s.data.toList.drop (pos+k)) with
  |none=>rw[hh]at h7;cases h7
  |some x=>rfl
 ·have:=hgr.size;omega
theorem ZAj{s:ZB}{K:Nat}{w wr:World}{pos:Nat}{acc:List Int}{ad:Option Addr}{c:Nat}(h:ZlU s K w wr pos acc ad c)(hp:¬pos<s.size):Z9 s.data.toList=some acc:=by
 have:s.data.toList.drop pos=[]:=List.drop_eq_nil_of_le (by rw[ZDL];show s.size<=pos;omega);rw[h.2.2.2.1,this,Zbs];simp
theorem Zqi{w:World}{B B':Nat}{e:TypeId}{v:Value}{n:Nat}{xs:List Value}(h:w.ownsRow B e 1 v n xs)(hB:B'<=B):w.ownsRow B' e 1 v n xs:=by
 refine⟨h.1,?_⟩;rcases h.2 with hn|⟨g,cap,cur,hv,hb,rest⟩
 ·exact .inl hn
 ·exact .inr ⟨g,cap,cur,hv,by omega,rest⟩
def Ztz(w:World):Prop:=Lib.Utf8Tabs (ZEX.g 3) (ZEX.g 4) w
theorem Zrz(s:ZB)(w:World)(hs:s.size<=1048576)(hT:Ztz w):
  Calls prog 79 #[.string s] w (Znk s w):=by
 have hs63:s.size<=9223372036854775807:=by omega
 have cV:Calls prog 121 #[.string s] w _:=Any.utf8_ValidString ZEW s w hs63 hT;rw[ZgR s.data.toList.length s.data.toList (Zb _)]at cV;by_cases hlong:s.size<=20000
 ·have hl:¬(20000:Int)<(s.size:Int):=by omega
  have HRS:=J (ZfK hlong);cases hV:(Z9 s.data.toList).isSome
  ·rw[hV]at cV;have HN:=J (show rns s=none by rw[HRS.out];cases hh:Z9 s.data.toList with|none=>rfl|some x=>rw[hh]at hV;cases hV);clear hV;go_enter func79,ntmps79
   go_wp2_with (go_at_call 121;refine cV.mono ?_;rintro e w1 ⟨rfl,hb1⟩)
   go_ret2;exact Zeb HN.out hb1
  ·rw[hV]at cV;obtain⟨i0,hi,hz0,hz1,hz2⟩:=info_parts ZvX;have HV:=J hV;clear hV;go_enter func79,ntmps79
   go_wp2_with (go_at_call 121;refine cV.mono ?_;rintro e w1 ⟨rfl,hb1⟩;have HS:=J (ZtF hb1 HV.out);clear hb1)
   go_loopw [4] (λv wr=>∃(pos:Nat) (acc:List Int) (ad:Option Addr) (c:Nat),v=.slice ad acc.length c/\ZlU s w1.heap.size w wr pos acc ad c) (λ_ wr=>s.size-wr.iterPos w1.heap.size)
   case atStart=>exact⟨0,[],none,0,rfl,HS.out⟩
   case round=>
    obtain⟨pos,acc,ad,c,rfl,hrel⟩:=hrel;have HR:=J hrel;have hit:=hrel.1;have hal:=hrel.2.2.2.2.1;have hps:=hrel.2.2.2.2.2.1;have hwK:=hrel.2.2.2.2.2.2.2.1;have hKr:=hrel.2.2.2.2.2.2.2.2;have hip:=J (iterPos_of hit);clear hrel;by_cases hp:pos<s.size
    ·obtain⟨g1,g2,g3,g4⟩:=ZsO HR.out hp;have hnx:=λty=>Lib.run_next_any_at (P:=prog) wr w1.heap.size s pos ty hit hp
     obtain⟨r,k,hrk⟩:∃r k,Utf8.decode s pos=(r,k):=⟨_,_,rfl⟩;obtain⟨wi,hwi⟩:=ZX (wr.iterAt w1.heap.size s (pos+k));obtain⟨m1,m2,m3,m4⟩:=Znn HR.out (pos+k);simp only[hrk,hwi]at hnx;rw[hwi]at m1 m2 m3 m4;rw[hrk]at g1 g2 g3 g4;simp only at g2 g3 g4;have M2:=J m2;have hwsz:w1.heap.size<wi.heap.size:=(by omega);have HRK:=J hrk;have HWI:=J hwi;have G2:=J g2;have G3:=J g3;have g5:(r:Int)<=1114111:=(by omega);clear hit m1 m2 m3 m4 hrk hwi g1 g2 g3;go_wp2_with (at_builtin;refine wpList_append_own _ rfl (.tmp 20) (.tmp 23) 30 rfl (w1.heap.size+1) 2 i0 (I 0) 1 8 underlying30 hi hz0 hz1 hz2 rfl (by decide) _ _ _ rfl (M2.out.alloc _) ⟨_,0,none⟩ 1 1 [I (r:Int)] rfl rfl (λj u hj=>Zqk _ _ _ j u hj) (Znt _ _) (by unfold maxLen;omega) (by omega) (by simp;omega) ?_;intro v2 w2 hown2 hgrow2 _;obtain⟨ad2,c2,hv2⟩:=ZkQ hown2;rw[hv2]at hown2 ⊢;clear hv2;have P2:=J (Zw3 HR.out hp HRK.out HWI.out hown2 hgrow2);clear hown2 hgrow2)
     go_roundw
     case rel=>exact⟨pos+k,acc++[(r:Int)],ad2,c2,by simp,P2.out⟩
     case measure=>
      have e1:=iterPos_of P2.out.1;have e2:=hip.out;have e3:=G2.out;have e4:=G3.out;rw[e1,e2];omega
    ·have hnx:=λty=>Lib.run_next_end_at (P:=prog) wr w1.heap.size s pos ty hit hp
     clear hit;go_wp2;go_ret2;exact ZhY (by rw[HRS.out];exact ZAj HR.out hp) (Zqi HR.out.2.1 (by omega)) HR.out.2.2.1
 ·have hl:(20000:Int)<(s.size:Int):=by omega
  clear cV;go_enter func79,ntmps79
  go_wp2;go_ret2;exact Zeb (Zjo hlong) (Ze _ _)
def ZgG(r:Int):Bool:=decide (r=9\/r=10\/r=13\/(32<=r/\r<=55295)\/(57344<=r/\r<=65533)\/(65536<=r/\r<=1114111))
theorem ZAN{r:Int}(h:r=9\/r=10\/r=13\/(32<=r/\r<=55295)\/(57344<=r/\r<=65533)\/(65536<=r/\r<=1114111)):true=ZgG r:=(Zh h).symm
theorem ZzF{r:Int}(h:¬(r=9\/r=10\/r=13\/(32<=r/\r<=55295)\/(57344<=r/\r<=65533)\/(65536<=r/\r<=1114111))):false=ZgG r:=(Zg h).symm
theorem Zlm(r:Int):r<9\/r=9\/r=10\/(11<=r/\r<=12)\/r=13\/(14<=r/\r<=31)\/(32<=r/\r<=55295)\/(55296<=r/\r<=57343)\/(57344<=r/\r<=65533)\/(65534<=r/\r<=65535)\/(65536<=r/\r<=1114111)\/1114112<=r:=by omega
theorem ZzS(r:Int)(w:World):Calls prog 56 #[I r] w λe w'=>e=.returned (.bool (ZgG r))/\w'=w:=by
 rcases Zlm r with h|h|h|⟨h,h'⟩|h|⟨h,h'⟩|⟨h,h'⟩|⟨h,h'⟩|⟨h,h'⟩|⟨h,h'⟩|⟨h,h'⟩|h
 all_goals
  try subst h
  go_enter func56,ntmps56
  go_wp2;go_ret;exact⟨Zo (by first|decide|exact ZAN (by omega)|exact ZzF (by omega)|(rw[Bool.eq_iff_iff];simp only[ZgG,ZDI,ZW,Z6,ZEd,true_iff,false_iff,iff_true,iff_false,ZN];omega)),rfl⟩
theorem Zzj(r:Int)(w:World):Calls prog 80 #[I r] w λe w'=>e=.returned (.bool (ZgG r))/\w'=w:=by
 rcases Zlm r with h|h|h|⟨h,h'⟩|h|⟨h,h'⟩|⟨h,h'⟩|⟨h,h'⟩|⟨h,h'⟩|⟨h,h'⟩|⟨h,h'⟩|h
 all_goals
  try subst h
  go_enter func80,ntmps80
  go_wp2;go_ret;exact⟨Zo (by first|decide|exact ZAN (by omega)|exact ZzF (by omega)|(rw[Bool.eq_iff_iff];simp only[ZgG,ZDI,ZW,Z6,ZEd,true_iff,false_iff,iff_true,iff_false,ZN];omega)),rfl⟩
def ZD(s:ZB):Bool:=(rns s).isSome&&(ZF (rns s)).all ZgG
theorem ZhU{s:ZB}(h:(rns s).isSome=false):ZD s=false:=by simp[ZD,h]
theorem ZiR{s:ZB}{L:List Int}{k:Nat}(hL:ZF (rns s)=L)(hk:k<L.length)(hb:ZgG (L[k]?.getD 0)=false):ZD s=false:=by
 have:(ZF (rns s)).all ZgG=false:=by
  rw[hL,List.all_eq_false];exact⟨L[k],ZD3 hk,by rw[Zv hk]at hb;simpa using hb⟩
 simp[ZD,this]
theorem Zit{s:ZB}{L:List Int}(hs:(rns s).isSome=true)(hL:ZF (rns s)=L)(h:∀j,j<L.length->ZgG (L[j]?.getD 0)=true):ZD s=true:=by
 have:(ZF (rns s)).all ZgG=true:=by
  rw[hL,ZDP];intro x hx;obtain⟨k,hk,rfl⟩:=List.mem_iff_getElem.1 hx;have:=h k hk;rw[Zv hk]at this;exact this
 simp[ZD,this,hs]
theorem Ziw{w:World}{B n c:Nat}{ad:Option Addr}{e:TypeId}{xs:List Int}(hx:xs.length=n)(h:w.ownsRow B e 1 (.slice ad n c) n (xs.map (Value.int .i64))):ZcZ .i64 w ad xs w.heap.size:=by
 intro hne;rcases h.2 with ⟨hv,h0⟩|⟨g,cap,cur,hv,hB,hg,rest⟩
 ·exact absurd (List.length_eq_zero_iff.1 (by omega)) hne
 ·simp only[ZDG]at hv;obtain⟨rfl,_,rfl⟩:=hv;refine⟨g,0,rfl,(h.lt g rfl).2,λj hj=>?_⟩;rw[ZDE,h.cellAt j (by omega)];simp[Zv hj]
theorem ZiF:∀(f:Nat) (l:List UInt8),l.length<=f->∀x,Z9 l=some x->x.length<=l.length
 |0,l,hf,x,hx=>by
  have:l=[]:=List.length_eq_zero_iff.1 (by omega);subst this;rw[Zbs]at hx;cases hx;exact Zb _
 |f+1,l,hf,x,hx=>by
  by_cases h:l=[]
  ·subst h;rw[Zbs]at hx;cases hx;exact Zb _
  ·by_cases hb:Lib.decodeL l=(65533,1)
   ·rw[Zb7 h hb]at hx;cases hx
   ·have hl:0<l.length:=List.length_pos_iff.2 h;have hw:=Lib.decodeL_width l;rw[ZbA h hb]at hx;cases hy:Z9 (l.drop (Lib.decodeL l).2) with
    |none=>rw[hy]at hx;cases hx
    |some y=>
     rw[hy]at hx;simp at hx;subst hx;have:=ZiF f (l.drop (Lib.decodeL l).2) (by rw[ZDC];omega) y hy;rw[ZDC]at this;simp;omega
theorem Zoa(s:ZB):(ZF (rns s)).length<=20000:=by
 unfold rns;by_cases h:s.size<=20000
 ·rw[Zd h];cases hx:Z9 s.data.toList with
  |none=>simp[ZF]
  |some x=>
   have:=ZiF s.data.toList.length s.data.toList (Zb _) x hx;have e:s.data.toList.length=s.size:=ZDL;rw[e]at this;show x.length<=20000;omega
 ·rw[Za h];simp[ZF]
theorem ZgB(s:ZB)(L:List Int)(b:Bool)(w:World)(hs:s.size<=1048576)(hL:ZF (rns s)=L)(hb:(rns s).isSome=b):
  Calls prog 55 #[.string s] w λe w'=>∃ad c,e=.returned (.tuple #[.slice ad L.length c,.bool b])/\w'.ownsRow w.heap.size 2 1 (.slice ad L.length c) L.length (L.map (Value.int .i64))/\ZL w w':=by
 subst hL;subst hb;exact ZqP s w hs
theorem Zi5(s:ZB)(L:List Int)(b:Bool)(w:World)(hs:s.size<=1048576)(hT:Ztz w)(hL:ZF (rns s)=L)(hb:(rns s).isSome=b):
  Calls prog 79 #[.string s] w λe w'=>∃ad c,e=.returned (.tuple #[.slice ad L.length c,.bool b])/\w'.ownsRow w.heap.size 2 1 (.slice ad L.length c) L.length (L.map (Value.int .i64))/\ZL w w':=by
 subst hL;subst hb;exact Zrz s w hs hT
theorem ZrN(s:ZB)(w:World)(hs:s.size<=1048576):
  Calls prog 31 #[.string s] w λe w'=>e=.returned (.bool (ZD s))/\ZL w w':=by
 have hlen:=Zoa s;obtain⟨L,hL⟩:=ZX (ZF (rns s));rw[hL]at hlen;have HL:=J hL;clear hL;cases hb:(rns s).isSome
 ·have HB:=J hb;clear hb;go_enter func31,ntmps31
  go_wp2_with fail
  refine(ZgB s L false _ hs HL.out HB.out).mono ?_;rintro e wA ⟨ad,c,rfl,ho,hbA⟩;go_wp2;go_ret;exact⟨Zo (ZhU HB.out).symm,hbA⟩
 ·have HB:=J hb;clear hb;go_enter func31,ntmps31
  go_wp2_with fail
  refine(ZgB s L true _ hs HL.out HB.out).mono ?_;rintro e wA ⟨ad,c,rfl,ho,hbA⟩;have HR:=J (Ziw rfl ho);have HA:=J hbA;clear ho hbA;go_wp2
  go_loop [5] (λi=>∃k:Nat,k<=L.length/\i=I k/\∀j,j<k->ZgG (L[j]?.getD 0)=true) (λi=>L.length-(Zi i).toNat)
  case atStart=>exact⟨0,Zx _,rfl,λj h=>by omega⟩
  case round=>
   obtain⟨k,hk,rfl,hj⟩:=hrel;have HJ:=J hj;clear hj;by_cases hlt:k<L.length
   ·obtain⟨b,off,rfl,hbs,hc⟩:=ZiO HR.out k hlt;have hc1:=hc k hlt;obtain⟨r,hr⟩:=ZX (L[k]?.getD 0);rw[hr]at hc1;have HRr:=J hr;clear hr hc;cases hd:ZgG r
    ·go_wp2_with (go_at_call 56;refine Zc (ZzS _ _) ?_)
     go_ret;exact⟨Zo (ZiR HL.out hlt (by rw[HRr.out];exact hd)).symm,HA.out⟩
    ·go_wp2_with (go_at_call 56;refine Zc (ZzS _ _) ?_)
     go_round
     case rel=>
      refine⟨k+1,by omega,by go_num,λj h=>?_⟩;by_cases e:j=k
      ·subst e;rw[HRr.out];exact hd
      ·exact HJ.out j (by omega)
     case measure=>simp[Zi];omega
   ·go_wp2;go_ret;exact⟨Zo (Zit HB.out HL.out (λj h=>HJ.out j (by omega))).symm,HA.out⟩
theorem Zqh(s:ZB)(w:World)(hs:s.size<=1048576)(hT:Ztz w):
  Calls prog 49 #[.string s] w λe w'=>e=.returned (.bool (ZD s))/\ZL w w':=by
 have hlen:=Zoa s;obtain⟨L,hL⟩:=ZX (ZF (rns s));rw[hL]at hlen;have HL:=J hL;clear hL;cases hb:(rns s).isSome
 ·have HB:=J hb;clear hb;go_enter func49,ntmps49
  go_wp2_with fail
  refine(Zi5 s L false _ hs hT HL.out HB.out).mono ?_;rintro e wA ⟨ad,c,rfl,ho,hbA⟩;go_wp2;go_ret;exact⟨Zo (ZhU HB.out).symm,hbA⟩
 ·have HB:=J hb;clear hb;go_enter func49,ntmps49
  go_wp2_with fail
  refine(Zi5 s L true _ hs hT HL.out HB.out).mono ?_;rintro e wA ⟨ad,c,rfl,ho,hbA⟩;have HR:=J (Ziw rfl ho);have HA:=J hbA;clear ho hbA;go_wp2
  go_loop [16] (λi=>∃k:Nat,k<=L.length/\i=I k/\∀j,j<k->ZgG (L[j]?.getD 0)=true) (λi=>L.length-(Zi i).toNat)
  case atStart=>exact⟨0,Zx _,rfl,λj h=>by omega⟩
  case round=>
   obtain⟨k,hk,rfl,hj⟩:=hrel;have HJ:=J hj;clear hj;by_cases hlt:k<L.length
   ·obtain⟨b,off,rfl,hbs,hc⟩:=ZiO HR.out k hlt;have hc1:=hc k hlt;obtain⟨r,hr⟩:=ZX (L[k]?.getD 0);rw[hr]at hc1;have HRr:=J hr;clear hr hc;cases hd:ZgG r
    ·go_wp2_with (go_at_call 80;refine Zc (Zzj _ _) ?_)
     go_ret;exact⟨Zo (ZiR HL.out hlt (by rw[HRr.out];exact hd)).symm,HA.out⟩
    ·go_wp2_with (go_at_call 80;refine Zc (Zzj _ _) ?_)
     go_round
     case rel=>
      refine⟨k+1,by omega,by go_num,λj h=>?_⟩;by_cases e:j=k
      ·subst e;rw[HRr.out];exact hd
      ·exact HJ.out j (by omega)
     case measure=>simp[Zi];omega
   ·go_wp2;go_ret;exact⟨Zo (Zit HB.out HL.out (λj h=>HJ.out j (by omega))).symm,HA.out⟩
theorem Zdh:∀(f:Nat) (l:List UInt8),l.length<=f->∀x,Z9 l=some x->x.length<=l.length
 |0,l,hf,x,hx=>by
  have:l=[]:=List.length_eq_zero_iff.1 (by omega);subst this;rw[Zbs]at hx;cases hx;exact Zb _
 |f+1,l,hf,x,hx=>by
  by_cases h:l=[]
  ·subst h;rw[Zbs]at hx;cases hx;exact Zb _
  ·by_cases hb:Lib.decodeL l=(65533,1)
   ·rw[Zb7 h hb]at hx;cases hx
   ·have hl:0<l.length:=List.length_pos_iff.2 h;have hw:=Lib.decodeL_width l;rw[ZbA h hb]at hx;cases hy:Z9 (l.drop (Lib.decodeL l).2) with
    |none=>rw[hy]at hx;cases hx
    |some y=>
     rw[hy]at hx;simp at hx;subst hx;have:=Zdh f (l.drop (Lib.decodeL l).2) (by rw[ZDC];omega) y hy;rw[ZDC]at this;simp;omega
theorem Zb0(s:ZB):(ZF (rns s)).length<=20000:=by
 unfold rns;by_cases h:s.size<=20000
 ·rw[Zd h];cases hx:Z9 s.data.toList with
  |none=>simp[ZF]
  |some x=>
   have:=Zdh s.data.toList.length s.data.toList (Zb _) x hx;have e:s.data.toList.length=s.size:=ZDL;rw[e]at this;show x.length<=20000;omega
 ·rw[Za h];simp[ZF]
theorem Zdg(s:ZB)(L:List Int)(b:Bool)(w:World)(hs:s.size<=1048576)(hL:ZF (rns s)=L)(hb:(rns s).isSome=b):
  Calls prog 55 #[.string s] w λe w'=>∃ad c,e=.returned (.tuple #[.slice ad L.length c,.bool b])/\w'.ownsRow w.heap.size 2 1 (.slice ad L.length c) L.length (L.map (Value.int .i64))/\ZL w w':=by
 subst hL;subst hb;exact ZqP s w hs
theorem Zdd(s:ZB)(L:List Int)(b:Bool)(w:World)(hs:s.size<=1048576)(hT:Ztz w)(hL:ZF (rns s)=L)(hb:(rns s).isSome=b):
  Calls prog 79 #[.string s] w λe w'=>∃ad c,e=.returned (.tuple #[.slice ad L.length c,.bool b])/\w'.ownsRow w.heap.size 2 1 (.slice ad L.length c) L.length (L.map (Value.int .i64))/\ZL w w':=by
 subst hL;subst hb;exact Zrz s w hs hT
theorem Zdi{w:World}{B n c:Nat}{ad:Option Addr}{e:TypeId}{xs:List Int}(hx:xs.length=n)(h:w.ownsRow B e 1 (.slice ad n c) n (xs.map (Value.int .i64))):ZcZ .i64 w ad xs w.heap.size:=by
 intro hne;rcases h.2 with ⟨hv,h0⟩|⟨g,cap,cur,hv,hB,hg,rest⟩
 ·exact absurd (List.length_eq_zero_iff.1 (by omega)) hne
 ·simp only[ZDG]at hv;obtain⟨rfl,_,rfl⟩:=hv;refine⟨g,0,rfl,(h.lt g rfl).2,λj hj=>?_⟩;rw[ZDE,h.cellAt j (by omega)];simp[Zv hj]
theorem Zo3{w w':World}(h:Ztz w)(hb:ZL w w'):Ztz w':=by
 refine⟨λc hc=>?_,λi hi=>⟨?_,?_⟩⟩
 ·exact(hb.cell (p:=⟨_,c,none⟩) (World.block_lt_of_cell? w _ (h.1 c hc))).trans (h.1 c hc)
 ·exact(hb.cell (p:=⟨_,2*i,none⟩) (World.block_lt_of_cell? w _ (h.2 i hi).1)).trans (h.2 i hi).1
 ·exact(hb.cell (p:=⟨_,2*i+1,none⟩) (World.block_lt_of_cell? w _ (h.2 i hi).2)).trans (h.2 i hi).2
def sgn(n:Int):Int:=if n<0 then -1 else if 0<n then 1 else 0
def ZrM(g1 g2:Bool)(n:Int):Int:=if g1=g2 then sgn n else if n < -50400 then -1 else if 50400<n then 1 else 2
def ZdX(a0 a1 a2 a3 a4 a5:Int)(a6:Bool)(a7:Int)(b0 b1 b2 b3 b4 b5:Int)(b6:Bool)(b7:Int):Int:=if Z8 a0 a1 a2 a3 a4 a5 a6 a7=true/\Z8 b0 b1 b2 b3 b4 b5 b6 b7=true then ZrM a6 b6 (Ze4 a0 a1 a2 a3 a4 a5 a7-Ze4 b0 b1 b2 b3 b4 b5 b7) else 3
theorem Zeg{w w1:World}{a0 a1 a2 a3 a4 a5:Int}{a6:Bool}{a7:Int}{b0 b1 b2 b3 b4 b5:Int}{b6:Bool}{b7:Int}{T U:TypeId}
  (h:Below ((w.alloc (.cells #[I a0,I a1,I a2,I a3,I a4,I a5,.bool a6,I a7] T)).alloc (.cells #[I b0,I b1,I b2,I b3,I b4,I b5,.bool b6,I b7] U)).heap.size ((w.alloc (.cells #[I a0,I a1,I a2,I a3,I a4,I a5,.bool a6,I a7] T)).alloc (.cells #[I b0,I b1,I b2,I b3,I b4,I b5,.bool b6,I b7] U)) w1):
  ZpL w1 w.heap.size a0 a1 a2 a3 a4 a5 a6 a7/\ZpL w1 (w.heap.size+1) b0 b1 b2 b3 b4 b5 b6 b7/\ZL w w1:=by
 have h1:=Zcl w a0 a1 a2 a3 a4 a5 a6 a7 T;have h2:=Zcl (w.alloc (.cells #[I a0,I a1,I a2,I a3,I a4,I a5,.bool a6,I a7] T)) b0 b1 b2 b3 b4 b5 b6 b7 U;rw[show(w.alloc (.cells #[I a0,I a1,I a2,I a3,I a4,I a5,.bool a6,I a7] T)).heap.size=w.heap.size+1 by simp]at h2;exact⟨ZbI (ZbI h1 ((Ze _ _).alloc (Zb _) _)) h,ZbI h2 h,Zp (((Ze _ _).alloc (Zb _) _).alloc (by simp) _) h⟩
theorem Zzl(w:World)(a0 a1 a2 a3 a4 a5:Int)(a6:Bool)(a7:Int)(b0 b1 b2 b3 b4 b5:Int)(b6:Bool)(b7:Int)(T U:TypeId):
  ZpL ((w.alloc (.cells #[I a0,I a1,I a2,I a3,I a4,I a5,.bool a6,I a7] T)).alloc (.cells #[I b0,I b1,I b2,I b3,I b4,I b5,.bool b6,I b7] U)) w.heap.size a0 a1 a2 a3 a4 a5 a6 a7/\ZpL ((w.alloc (.cells #[I a0,I a1,I a2,I a3,I a4,I a5,.bool a6,I a7] T)).alloc (.cells #[I b0,I b1,I b2,I b3,I b4,I b5,.bool b6,I b7] U)) (w.heap.size+1) b0 b1 b2 b3 b4 b5 b6 b7/\ZL w ((w.alloc (.cells #[I a0,I a1,I a2,I a3,I a4,I a5,.bool a6,I a7] T)).alloc (.cells #[I b0,I b1,I b2,I b3,I b4,I b5,.bool b6,I b7] U)):=Zeg (Ze _ _)
theorem ZBB{g:Nat}{w:World}(h:Zjk g w)(o p:Obj):Zjk g ((w.alloc o).alloc p):=Zfe (Zfe h o) p
theorem Zvy(n:Int)(w:World):Calls prog 217 #[I n] w λe w'=>e=.returned (I (sgn n))/\w'=w:=by
 by_cases h1:n<0
 ·go_enter func217,ntmps217
  go_wp2;go_ret;exact⟨Za0 (by unfold sgn;split<;>(try split)<;>omega),rfl⟩
 ·by_cases h2:0<n;all_goals
   go_enter func217,ntmps217
   go_wp2;go_ret;exact⟨Za0 (by unfold sgn;split<;>(try split)<;>omega),rfl⟩
theorem ZBI(n:Int)(w:World):Calls prog 251 #[I n] w λe w'=>e=.returned (.bool false)/\w'=w:=by
 go_enter func251,ntmps251
 go_wp2;go_ret;exact⟨rfl,rfl⟩
theorem Zv6(n:Int)(w:World):Calls prog 212 #[I n,I 0] w λe w'=>e=.returned (I (sgn n))/\w'=w:=by
 by_cases h1:n<0
 ·go_enter func212,ntmps212
  go_wp2_with (go_at_call 251;refine Zc (ZBI _ _) ?_)
  go_ret;exact⟨Za0 (by unfold sgn;split<;>(try split)<;>omega),rfl⟩
 ·by_cases h2:0<n;all_goals
   go_enter func212,ntmps212
   go_wp2_with (go_at_call 251;refine Zc (ZBI _ _) ?_)
   go_ret;exact⟨Za0 (by unfold sgn;split<;>(try split)<;>omega),rfl⟩
theorem ZwI(a0 a1 a2 a3 a4 a5:Int)(a6:Bool)(a7:Int)(b0 b1 b2 b3 b4 b5:Int)(b6:Bool)(b7:Int)(w:World)(ra:Rt a0 a1 a2 a3 a4 a5 a6 a7)(rb:Rt b0 b1 b2 b3 b4 b5 b6 b7):Calls prog 177 #[.agg #[I a0,I a1,I a2,I a3,I a4,I a5,.bool a6,I a7],.agg #[I b0,I b1,I b2,I b3,I b4,I b5,.bool b6,I b7]] w λe w'=>e=.returned (I (ZrM a6 b6 (Ze4 a0 a1 a2 a3 a4 a5 a7-Ze4 b0 b1 b2 b3 b4 b5 b7)))/\ZL w w':=by
 have HA:=J ra;have HB:=J rb;have sa:=Zko ra;have sb:=Zko rb;clear ra rb;have h2:=Zzl w a0 a1 a2 a3 a4 a5 a6 a7 b0 b1 b2 b3 b4 b5 b6 b7 78 78;have HXa:=J h2.1;have HXb:=J h2.2.1;have HBc:=J h2.2.2;obtain⟨k0,k1,k2,k3,k4,k5,k6,k7,k8⟩:=h2.1;obtain⟨l0,l1,l2,l3,l4,l5,l6,l7,l8⟩:=h2.2.1;clear h2 k0 l0;have WG:=J (show IntKind.i64.wrap (Ze4 a0 a1 a2 a3 a4 a5 a7-Ze4 b0 b1 b2 b3 b4 b5 b7)=Ze4 a0 a1 a2 a3 a4 a5 a7-Ze4 b0 b1 b2 b3 b4 b5 b7 from Zjg (by omega) (by omega));go_enter func177,ntmps177
 go_wp2_with fail
 go_cut [5] (λv wx=>v=I (Ze4 a0 a1 a2 a3 a4 a5 a7-Ze4 b0 b1 b2 b3 b4 b5 b7)/\ZL w wx/\ZpL wx w.heap.size a0 a1 a2 a3 a4 a5 a6 a7/\ZpL wx (w.heap.size+1) b0 b1 b2 b3 b4 b5 b6 b7)
 case first=>
  go_region_with (go_at_call 216;refine ZM (Zya _ _ _ _ _ _ _ _ _ (by first|exact HA.out|exact HB.out)) ?_;rintro wn hbn;(first|replace hbn:=Zfw hbn|skip);replace HBc:=J (Zp HBc.out hbn);replace HXa:=J (ZbI HXa.out hbn);replace HXb:=J (ZbI HXb.out hbn);clear k1 k2 k3 k4 k5 k6 k7 k8 l1 l2 l3 l4 l5 l6 l7 l8 hbn;obtain⟨k0,k1,k2,k3,k4,k5,k6,k7,k8⟩:=HXa.out;obtain⟨l0,l1,l2,l3,l4,l5,l6,l7,l8⟩:=HXb.out;clear k0 l0)
  all_goals
   go_wp2_with fail
   go_meet
   exact⟨by first|rfl|rw[WG.out],by first|exact HBc.out|exact Zcp HBc.out,HXa.out,HXb.out⟩
 case rest=>
  obtain⟨rfl,hb,hx1,hx2⟩:=hcut;clear k1 k2 k3 k4 k5 k6 k7 k8 l1 l2 l3 l4 l5 l6 l7 l8 HBc HXa HXb;have HBc:=J hb;obtain⟨k0,k1,k2,k3,k4,k5,k6,k7,k8⟩:=hx1;obtain⟨l0,l1,l2,l3,l4,l5,l6,l7,l8⟩:=hx2;clear k0 l0 hb;obtain⟨n,hn⟩:=ZX (Ze4 a0 a1 a2 a3 a4 a5 a7-Ze4 b0 b1 b2 b3 b4 b5 b7);rw[hn];have HN:=J hn;clear hn sa sb WG;cases a6<;>cases b6
  all_goals
   by_cases q1:n < -50400
   ·go_wp2_with (go_at_call 217;refine Zc (Zvy _ _) ?_)
    go_ret;exact⟨Za0 (by rw[HN.out];simp only[ZrM,if_true,if_false,reduceCtorEq,ZN,ZQ];try (split<;>first|omega|(split<;>omega))),by first|exact HBc.out|exact Zcp HBc.out|exact Zau HBc.out _⟩
   ·by_cases q2:50400<n;all_goals
     go_wp2_with (go_at_call 217;refine Zc (Zvy _ _) ?_)
     go_ret;exact⟨Za0 (by rw[HN.out];simp only[ZrM,if_true,if_false,reduceCtorEq,ZN,ZQ];try (split<;>first|omega|(split<;>omega))),by first|exact HBc.out|exact Zcp HBc.out|exact Zau HBc.out _⟩
theorem ZBE(a0 a1 a2 a3 a4 a5:Int)(a6:Bool)(a7:Int)(w:World)(r:Rt a0 a1 a2 a3 a4 a5 a6 a7)(ht:Zjk 3 w):Calls prog 211 #[.agg #[I a0,I a1,I a2,I a3,I a4,I a5,.bool a6,I a7]] w λe w'=>e=.returned (I (Ze4 a0 a1 a2 a3 a4 a5 a7))/\ZL w w':=by
 have q:=ZrT a0 a1 a2 a3 a4 a5 a6 a7 w ht;simp only[Zte,Zut r,if_true]at q;exact q
theorem ZmM{n:Nat}{w wn:World}(h:Below (w.drewN n).heap.size (w.drewN n) wn):ZL w wn:=⟨h.os,h.tape,h.output,h.size,h.block⟩
theorem Zp1(a0 a1 a2 a3 a4 a5:Int)(a6:Bool)(a7:Int)(b0 b1 b2 b3 b4 b5:Int)(b6:Bool)(b7:Int)(w:World):Calls prog 131 #[.agg #[I a0,I a1,I a2,I a3,I a4,I a5,.bool a6,I a7],.agg #[I b0,I b1,I b2,I b3,I b4,I b5,.bool b6,I b7]] w λe w'=>e=.returned (I (ZdX a0 a1 a2 a3 a4 a5 a6 a7 b0 b1 b2 b3 b4 b5 b6 b7))/\ZL w w':=by
 cases ha:Z8 a0 a1 a2 a3 a4 a5 a6 a7
 ·go_enter func131,ntmps131
  go_wp2_with fail
  refine ZM (ZbN a0 a1 a2 a3 a4 a5 a6 a7 _) ?_;rintro w1 hb1;obtain⟨hx1,hx2,hb⟩:=Zeg hb1;have HBc:=J hb;clear hb1 hx1 hx2 hb;go_wp2;go_ret;exact⟨Za0 (by simp[ZdX,ha]),HBc.out⟩
 ·cases hb:Z8 b0 b1 b2 b3 b4 b5 b6 b7
  ·go_enter func131,ntmps131
   go_wp2_with fail
   refine ZM (ZbN a0 a1 a2 a3 a4 a5 a6 a7 _) ?_;rintro w1 hb1;obtain⟨hx1,hx2,hbb⟩:=Zeg hb1;have HBc:=J hbb;obtain⟨l0,l1,l2,l3,l4,l5,l6,l7,l8⟩:=hx2;clear hb1 hx1 hbb l0;go_wp2_with fail
   refine ZM (ZbN b0 b1 b2 b3 b4 b5 b6 b7 _) ?_;rintro w2 hb2;replace HBc:=J (Zp HBc.out hb2);clear hb2;go_wp2;go_ret;exact⟨Za0 (by simp[ZdX,hb]),HBc.out⟩
  ·have HA:=J (Zpf ha);have HB:=J (Zpf hb);go_enter func131,ntmps131
   go_wp2_with fail
   refine ZM (ZbN a0 a1 a2 a3 a4 a5 a6 a7 _) ?_;rintro w1 hb1;obtain⟨hx1,hx2,hbb⟩:=Zeg hb1;have HBc:=J hbb;have HXa:=J hx1;have HXb:=J hx2;obtain⟨l0,l1,l2,l3,l4,l5,l6,l7,l8⟩:=hx2;clear hb1 hx1 hbb l0;go_wp2_with fail
   refine ZM (ZbN b0 b1 b2 b3 b4 b5 b6 b7 _) ?_;rintro w2 hb2;replace HBc:=J (Zp HBc.out hb2);replace HXa:=J (ZbI HXa.out hb2);replace HXb:=J (ZbI HXb.out hb2);clear hb2 l1 l2 l3 l4 l5 l6 l7 l8;obtain⟨k0,k1,k2,k3,k4,k5,k6,k7,k8⟩:=HXa.out;obtain⟨l0,l1,l2,l3,l4,l5,l6,l7,l8⟩:=HXb.out;clear k0 l0;have hv:ZdX a0 a1 a2 a3 a4 a5 a6 a7 b0 b1 b2 b3 b4 b5 b6 b7=ZrM a6 b6 (Ze4 a0 a1 a2 a3 a4 a5 a7-Ze4 b0 b1 b2 b3 b4 b5 b7):=by simp[ZdX,ha,hb]
   have HV:=J hv;clear hv;go_wp2_with fail
   try go_quiet (fail)
   try go_wp2_with fail
   refine ZM (ZwI a0 a1 a2 a3 a4 a5 a6 a7 b0 b1 b2 b3 b4 b5 b6 b7 _ HA.out HB.out) ?_;rintro w3 hbn
   (first|replace hbn:=ZmM hbn|skip)
   replace HBc:=J (Zp HBc.out hbn);clear hbn;go_wp2;go_ret;exact⟨Za0 (by rw[HV.out]),HBc.out⟩
theorem Zp7(a0 a1 a2 a3 a4 a5:Int)(a6:Bool)(a7:Int)(b0 b1 b2 b3 b4 b5:Int)(b6:Bool)(b7:Int)(w:World)(ht:Zjk 3 w):Calls prog 174 #[.agg #[I a0,I a1,I a2,I a3,I a4,I a5,.bool a6,I a7],.agg #[I b0,I b1,I b2,I b3,I b4,I b5,.bool b6,I b7]] w λe w'=>e=.returned (I (ZdX a0 a1 a2 a3 a4 a5 a6 a7 b0 b1 b2 b3 b4 b5 b6 b7))/\ZL w w':=by
 have HTc:=J (ZBB ht (.cells #[I a0,I a1,I a2,I a3,I a4,I a5,.bool a6,I a7] 78) (.cells #[I b0,I b1,I b2,I b3,I b4,I b5,.bool b6,I b7] 78));clear ht;cases ha:Z8 a0 a1 a2 a3 a4 a5 a6 a7
 ·go_enter func174,ntmps174
  go_wp2_with fail
  refine ZM (Zcb a0 a1 a2 a3 a4 a5 a6 a7 _ HTc.out) ?_;rintro w1 hb1;obtain⟨hx1,hx2,hb⟩:=Zeg hb1;have HBc:=J hb;clear hb1 hx1 hx2 hb;go_wp2;go_ret;exact⟨Za0 (by simp[ZdX,ha]),HBc.out⟩
 ·cases hb:Z8 b0 b1 b2 b3 b4 b5 b6 b7
  ·go_enter func174,ntmps174
   go_wp2_with fail
   refine ZM (Zcb a0 a1 a2 a3 a4 a5 a6 a7 _ HTc.out) ?_;rintro w1 hb1;obtain⟨hx1,hx2,hbb⟩:=Zeg hb1;have HBc:=J hbb;replace HTc:=J (Zdt HTc.out hb1);obtain⟨l0,l1,l2,l3,l4,l5,l6,l7,l8⟩:=hx2;clear hb1 hx1 hbb l0;go_wp2_with fail
   refine ZM (Zcb b0 b1 b2 b3 b4 b5 b6 b7 _ HTc.out) ?_;rintro w2 hb2;replace HBc:=J (Zp HBc.out hb2);clear hb2;go_wp2;go_ret;exact⟨Za0 (by simp[ZdX,hb]),HBc.out⟩
  ·have HA:=J (Zpf ha);have HB:=J (Zpf hb);go_enter func174,ntmps174
   go_wp2_with fail
   refine ZM (Zcb a0 a1 a2 a3 a4 a5 a6 a7 _ HTc.out) ?_;rintro w1 hb1;obtain⟨hx1,hx2,hbb⟩:=Zeg hb1;have HBc:=J hbb;have HXa:=J hx1;have HXb:=J hx2;replace HTc:=J (Zdt HTc.out hb1);obtain⟨l0,l1,l2,l3,l4,l5,l6,l7,l8⟩:=hx2;clear hb1 hx1 hbb l0;go_wp2_with fail
   refine ZM (Zcb b0 b1 b2 b3 b4 b5 b6 b7 _ HTc.out) ?_;rintro w2 hb2;replace HBc:=J (Zp HBc.out hb2);replace HXa:=J (ZbI HXa.out hb2);replace HXb:=J (ZbI HXb.out hb2);replace HTc:=J (Zdt HTc.out hb2);clear hb2 l1 l2 l3 l4 l5 l6 l7 l8;obtain⟨k0,k1,k2,k3,k4,k5,k6,k7,k8⟩:=HXa.out;obtain⟨l0,l1,l2,l3,l4,l5,l6,l7,l8⟩:=HXb.out;clear k0 l0;have hv:ZdX a0 a1 a2 a3 a4 a5 a6 a7 b0 b1 b2 b3 b4 b5 b6 b7=ZrM a6 b6 (Ze4 a0 a1 a2 a3 a4 a5 a7-Ze4 b0 b1 b2 b3 b4 b5 b7):=by simp[ZdX,ha,hb]
   have HV:=J hv;have sa:=Zko HA.out;have sb:=Zko HB.out;have WG:=J (show IntKind.i64.wrap (Ze4 a0 a1 a2 a3 a4 a5 a7-Ze4 b0 b1 b2 b3 b4 b5 b7)=Ze4 a0 a1 a2 a3 a4 a5 a7-Ze4 b0 b1 b2 b3 b4 b5 b7 from Zjg (by omega) (by omega));clear hv;go_wp2_with fail
   go_cut [5] (λv wx=>v=I (Ze4 a0 a1 a2 a3 a4 a5 a7-Ze4 b0 b1 b2 b3 b4 b5 b7)/\ZL w wx/\ZpL wx w.heap.size a0 a1 a2 a3 a4 a5 a6 a7/\ZpL wx (w.heap.size+1) b0 b1 b2 b3 b4 b5 b6 b7)
   case first=>
    go_region_with (go_at_call 211;refine ZM (ZBE _ _ _ _ _ _ _ _ _ (by first|exact HA.out|exact HB.out) (by first|exact HTc.out|exact ZiU HTc.out)) ?_;rintro wn hbn;(first|replace hbn:=Zfw hbn|skip);replace HBc:=J (Zp HBc.out hbn);replace HXa:=J (ZbI HXa.out hbn);replace HXb:=J (ZbI HXb.out hbn);replace HTc:=J (Zdt HTc.out hbn);clear k1 k2 k3 k4 k5 k6 k7 k8 l1 l2 l3 l4 l5 l6 l7 l8 hbn;obtain⟨k0,k1,k2,k3,k4,k5,k6,k7,k8⟩:=HXa.out;obtain⟨l0,l1,l2,l3,l4,l5,l6,l7,l8⟩:=HXb.out;clear k0 l0)
    all_goals
     go_wp2_with fail
     go_meet
     exact⟨by first|rfl|rw[WG.out],by first|exact HBc.out|exact Zcp HBc.out,HXa.out,HXb.out⟩
   case rest=>
    obtain⟨rfl,hb1,hx1,hx2⟩:=hcut;clear k1 k2 k3 k4 k5 k6 k7 k8 l1 l2 l3 l4 l5 l6 l7 l8 HBc HXa HXb;have HBc:=J hb1;obtain⟨k0,k1,k2,k3,k4,k5,k6,k7,k8⟩:=hx1;obtain⟨l0,l1,l2,l3,l4,l5,l6,l7,l8⟩:=hx2;clear k0 l0 hb1;obtain⟨n,hn⟩:=ZX (Ze4 a0 a1 a2 a3 a4 a5 a7-Ze4 b0 b1 b2 b3 b4 b5 b7);have HV2:Hid (ZdX a0 a1 a2 a3 a4 a5 a6 a7 b0 b1 b2 b3 b4 b5 b6 b7=ZrM a6 b6 n):=(by rw[<-hn];exact HV.out);rw[hn];clear hn sa sb WG HV ha hb;cases a6<;>cases b6
    all_goals
     by_cases q1:n < -50400
     ·go_wp2_with (go_at_call 212;refine Zc (Zv6 _ _) ?_)
      go_ret;exact⟨Za0 (by rw[HV2.out];simp only[ZrM,if_true,if_false,reduceCtorEq,ZN,ZQ];try (split<;>first|omega|(split<;>omega))),by first|exact HBc.out|exact Zcp HBc.out|exact Zau HBc.out _⟩
     ·by_cases q2:50400<n;all_goals
       go_wp2_with (go_at_call 212;refine Zc (Zv6 _ _) ?_)
       go_ret;exact⟨Za0 (by rw[HV2.out];simp only[ZrM,if_true,if_false,reduceCtorEq,ZN,ZQ];try (split<;>first|omega|(split<;>omega))),by first|exact HBc.out|exact Zcp HBc.out|exact Zau HBc.out _⟩
end
section
open Go.RowKit Go.Joins
theorem Zq7(g:Bool)(z:Int):(Zcq g z).size<=6:=by
 unfold Zcq;split
 ·decide
 ·split
  ·decide
  ·split<;>rw[Z5,Zfh]<;>decide
theorem Zaa{P:Program}{W:World}{name:String}{k:IntKind}{zs:List Int}{g:Nat}{t e:TypeId}{n:Nat}(hg:P.globalNamed name=some g)(hty:(P.globals[g]?).map (·.type)=some t)(ht:P.underlying t=some (.array n e))(he:P.underlying e=some (.int k))(hce:P.cellsOf e=1)(hct:P.cellsOf t=n)
  (h:Lib.VarReads P W name (Lib.tabData k zs)):Lib.TabIs P W name k zs:=by
 obtain⟨g',t',cs,fuel,p,hg',ht',hvar,hd⟩:=h;obtain rfl:=Option.some.inj (hg.symm.trans hg');obtain rfl:=Option.some.inj (hty.symm.trans ht');have e:=Lib.cells_of_tab ht he hce hct hd;unfold Lib.TabIs;rw[hvar];congr 1;cases cs;simp at e;rw[e]
theorem ZxQ(y mo d h mi s:Int)(g:Bool)(z:Int)(w:World)(ht:Zjk 3 w)(htab:Lib.TabIs prog w "internal/strconv.uint64pow10" .u64 Lib.pow10Tab):Calls prog 126 #[.agg #[I y,I mo,I d,I h,I mi,I s,.bool g,I z]] w λe w'=>e=.returned (.string (dtB y mo d h mi s g z))/\ZL w w':=by
 have HM:=J (Zfe ht (.cells #[I y,I mo,I d,I h,I mi,I s,.bool g,I z] 78));have HT:=J htab;clear ht htab;cases hd:Z8 y mo d h mi s g z
 ·go_enter func126,ntmps126
  go_wp2_with fail
  refine ZM (Zcb y mo d h mi s g z _ HM.out) ?_;rintro w1 hb1;rw[hd];have HB1:=J (Za4 hb1);clear hb1;go_wp2;go_ret;exact⟨ZdJ (by simp[dtB,hd]),HB1.out⟩
 ·obtain⟨⟨y0,y1⟩,⟨m0,m1⟩,⟨d0,d1⟩,⟨h0,h1⟩,⟨i0,i1⟩,⟨s0,s1⟩,⟨z0,z1⟩⟩:=Zh5 hd;have d2:d<=31:=by have:=ZfJ y mo;omega
  have HV:Hid (dtB y mo d h mi s g z=Zs2 y mo d++(Zg7 84++(ZbS h mi++(Zg7 58++(Zio s++Zcq g z))))):=J (by rw[dtB,Zd hd]);have hsz:∀n,(Zio n).size=2:=Zfc;have hy4:∀n,(Zg8 n).size=4:=ZpP;have hc5:∀a b,(ZbS a b).size=5:=Zfh;have hZs:=Zq7 g z;obtain⟨Z,hZ⟩:=ZX (Zcq g z);rw[hZ]at hZs HV;have HZ:=J hZ;clear hZ;go_enter func126,ntmps126
  go_wp2_with fail
  refine ZM (Zcb y mo d h mi s g z _ HM.out) ?_;rintro w1 hb1;rw[hd];have HX:Hid (DX w w1 y mo d h mi s g z):=⟨ZbI (Zcl w y mo d h mi s g z _) hb1,Za4 hb1⟩;clear hb1 hd;have hS0:=ZdE (Zc8 HX.out);go_wp2_with fail
  go_cut [3] (λv3 wx=>∃T:ZB,v3=.string T/\T.size<=30/\Hid (T=Zs2 y mo d)/\Hid (DX w wx y mo d h mi s g z))
  case first=>
   go_region_held3 (λw'=>DX w w' y mo d h mi s g z/\w'.cell? ⟨w.heap.size,0,none⟩=some (I y)/\w'.cell? ⟨w.heap.size,1,none⟩=some (I mo)/\w'.cell? ⟨w.heap.size,2,none⟩=some (I d)/\w'.cell? ⟨w.heap.size,3,none⟩=some (I h)/\w'.cell? ⟨w.heap.size,4,none⟩=some (I mi)/\w'.cell? ⟨w.heap.size,5,none⟩=some (I s)/\w'.cell? ⟨w.heap.size,6,none⟩=some (.bool g)/\w'.cell? ⟨w.heap.size,7,none⟩=some (I z)) (first|assumption|exact ZdE HY.out) (first
    |(go_at_call_of 171 (Value.int .i64 4);refine ZM (ZBm y _ (by omega) (by omega) (ZcA HT.out (Zc8 HX.out).2)) ?_;rintro wn hbn;(have HY:=J (Zgx (Zc8 HX.out) hbn));clear hbn)
    |(go_at_call_of 171 (I mo);refine ZM (ZlC mo _ (by omega) (by omega) (ZcA HT.out HY.out.2)) ?_;rintro wn hbn;(replace HY:=J (Zgx HY.out hbn));clear hbn)
    |(go_at_call_of 171 (I d);refine ZM (ZlC d _ (by omega) (by omega) (ZcA HT.out HY.out.2)) ?_;rintro wn hbn;(replace HY:=J (Zgx HY.out hbn));clear hbn))
   all_goals
    go_wp2_with fail
    go_meet
    refine⟨_,rfl,?_,J ?_,HY⟩
    ·simp only[Z5,hsz,hy4];decide
    ·simp only[Zs2,Zg8,Zg7,ZDO]
  case rest=>
   obtain⟨T,rfl,hTs,HTT,HY⟩:=hcut;have b1:¬9223372036854775807<T.size+1:=by omega
   have b2:¬9223372036854775807<T.size+1+5:=by omega
   have b3:¬9223372036854775807<T.size+1+5+1:=by omega
   have b4:¬9223372036854775807<T.size+1+5+1+2:=by omega
   have b5:¬9223372036854775807<T.size+1+5+1+2+Z.size:=by omega
   have hS1:=ZdE (Zc8 HY.out);go_wp2_with fail
   go_region_held3 (λw'=>DX w w' y mo d h mi s g z/\w'.cell? ⟨w.heap.size,0,none⟩=some (I y)/\w'.cell? ⟨w.heap.size,1,none⟩=some (I mo)/\w'.cell? ⟨w.heap.size,2,none⟩=some (I d)/\w'.cell? ⟨w.heap.size,3,none⟩=some (I h)/\w'.cell? ⟨w.heap.size,4,none⟩=some (I mi)/\w'.cell? ⟨w.heap.size,5,none⟩=some (I s)/\w'.cell? ⟨w.heap.size,6,none⟩=some (.bool g)/\w'.cell? ⟨w.heap.size,7,none⟩=some (I z)) (first|assumption|exact ZdE HW.out) (first
    |(go_at_call 172;refine ZM (ZmB h mi _ (by omega) (by omega) (by omega) (by omega) (ZcA HT.out (Zc8 HY.out).2)) ?_;rintro wn hbn;(have HW:=J (Zgx (Zc8 HY.out) hbn));clear hbn)
    |(go_at_call 171;refine ZM (ZlC s _ (by omega) (by omega) (ZcA HT.out HW.out.2)) ?_;rintro wn hbn;(replace HW:=J (Zgx HW.out hbn));clear hbn)
    |(go_at_call 173;refine ZM (ZxO y mo d h mi s g z _ (by omega) (by omega) (ZcA HT.out HW.out.2)) ?_;rintro wn hbn;rw[HZ.out];(replace HW:=J (Zgx HW.out hbn));clear hbn))
   all_goals
    go_wp2;go_ret;refine⟨ZdJ ?_,HW.out.2⟩;rw[HV.out,HTT.out];simp only[Zg7,ZDO]
end
end Go.Proofs.YtcdnilpdohknfaaGreatDoor
