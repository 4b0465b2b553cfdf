import Derived.Test.YtcdnilpdohknfaaGreatDoorJ8
import Derived.OneCell
import Derived.Handy
import Derived.Test.YtcdnilpdohknfaaGreatDoorJ9
import Derived.Lib.OthersKept
set_option linter.unusedVariables false
set_option linter.unusedSimpArgs false
set_option maxRecDepth 100000
set_option maxHeartbeats 16000000
namespace Go.Proofs.YtcdnilpdohknfaaGreatDoor
open Tryz
section
open Go.RowKit
theorem ZBA(R g cap:Nat)(B:Nat)(w:World)(hgR:g<R)(hR:Rep w R 0 0 0 .nilIface (.slice (some ⟨g,0,none⟩) 6 cap))(ho:w.ownsRow B 9 1 (.slice (some ⟨g,0,none⟩) 6 cap) 6 ZpJ):
  Calls prog 115 #[.pointer (some ⟨R,0,none⟩),.func (.func 66) #[.pointer (some ⟨R,0,none⟩)] #[]] w λe w'=>e=.returned (.tuple #[])/\ZpA 1 0 R w w':=by
 obtain⟨r0,r1,r2,r3,r4⟩:=Zc5 hR;have f1:=Zd1 hR 1;have h1:=Zoo hR 1;have ho1:(w.setCell ⟨R,1,none⟩ (.int .i32 1)).ownsRow B 9 1 (.slice (some ⟨g,0,none⟩) 6 cap) 6 ZpJ:=ownsRow_setCell_other ho (by
  intro e;have e2:some g=some R:=e;injection e2 with e2
  omega) _
 have C1:=J (ZBg R g cap B _ h1 ho1);have CL:=J (Zvw ⟨R,0,none⟩ 0 _ (Zc5 h1).1);have CK:=J (Zz7 ⟨R,1,none⟩ w r1 f1);have hnot:∀(x:Bool) (w:World),(Op.unary .not (.bool x)).run prog w=.ok (.bool (!x)) w:=λ_ _=>rfl
 clear hR ho h1 ho1 r0 r1 r2 r3 r4 f1
 go_enter_defers func115,ntmps115
 go_wp2_with (first|(go_at_call 147;refine Zc CK.out ?_)|(go_at_call 114;refine Zc CL.out ?_)|(go_at_call 66;refine ZM C1.out ?_;rintro w1 hq;have HQ:=J hq;clear hq))
 obtain⟨G,hG,hq1,hqT,hqb⟩:=HQ.out;have q0:=(Zc5 hq1).1;have q1:=(Zc5 (ZjX (Zj9 hq1) 1)).2.1;have z0:=Zd1 hq1 0;have z1:=Zd1 (ZjX (Zj9 hq1) 1) 1;refine leaves_cons (f:=149) (args:=#[.pointer (some ⟨R,0,none⟩),.bool true]) (by simp) (by simp[go_sem]) ?_;refine(Zxg ⟨R,0,none⟩ _ .returning _ q0 z0).mono ?_;rintro e u' w'' ⟨rfl,rfl,rfl⟩;refine leaves_cons (f:=148) (args:=#[.pointer (some ⟨R,1,none⟩)]) (by simp[settle]) (by simp[go_sem]) ?_;refine(ZuG ⟨R,1,none⟩ _ _ q1 z1).mono ?_;rintro e u' w'' ⟨rfl,rfl,rfl⟩;have HD:=Zpx HQ.out;simp[Leaves,settle,results,results115];exact HD
theorem ZDd(R g cap:Nat)(B:Nat)(w:World)(hgR:g<R)(hR:Rep w R 0 0 0 .nilIface (.slice (some ⟨g,0,none⟩) 6 cap))(ho:w.ownsRow B 9 1 (.slice (some ⟨g,0,none⟩) 6 cap) 6 ZpJ):
  Calls prog 65 #[.pointer (some ⟨R,0,none⟩),.func (.func 66) #[.pointer (some ⟨R,0,none⟩)] #[]] w λe w'=>e=.returned (.tuple #[])/\ZpA 1 0 R w w':=by
 have CL:=J (Zvw ⟨R,0,none⟩ 0 w (Zc5 hR).1);have CS:=J (ZBA R g cap B w hgR hR ho);have hnot:∀(x:Bool) (w:World),(Op.unary .not (.bool x)).run prog w=.ok (.bool (!x)) w:=λ_ _=>rfl
 clear hR ho;go_enter func65,ntmps65
 go_wp2_with (first|(go_at_call 114;refine Zc CL.out ?_)|(go_at_call 115;refine ZM CS.out ?_;rintro w1 hq;have HQ:=J hq;clear hq))
 go_end0
 exact⟨rfl,HQ.out⟩
theorem Zz5(R g cap:Nat)(B:Nat)(s:ZB)(w:World)(hs:s.size<=1048576)(hgR:g<R)(hR:Rep w R 0 0 0 .nilIface (.slice (some ⟨g,0,none⟩) 6 cap))(ho:w.ownsRow B 9 1 (.slice (some ⟨g,0,none⟩) 6 cap) 6 ZpJ):
  Calls prog 38 #[.pointer (some ⟨R,0,none⟩),.string s] w λe w'=>e=.returned (.string ⟨(reB s.data.toList).toArray⟩)/\Below R w w':=by
 have hl:=Zsf hR;have CS:=J (ZDd R g cap B w hgR hR ho);have hme:∀(G:Nat) (w:World),(Go.method (prog.types.size+Made.depth) 174 (.pointer (some ⟨G,0,none⟩)) "Replace").run prog w=.ok (333,.pointer (some ⟨G,0,none⟩)) w:=λ_ _=>by kernel_rfl
 have hmf:∀(fn:Fn) (first cap:Array Value) (w:World),(Instr.makeFunc fn first cap).run prog w=.ok (.func fn first cap) w:=λ_ _ _ _=>rfl
 clear hR ho;go_enter func38,ntmps38
 go_wp2_with (first|(go_at_call 65;refine ZM CS.out ?_;rintro w1 hq;obtain⟨G,hG,hq1,hqT,hqb⟩:=hq;have r3:=(Zc5 hq1).2.2.2.1;unfold ZB1 at r3;have CB:=J (ZBN G s w1 hs hqT);have HB:=J hqb;have HL:=J (hqb.size);clear hq1 hqT hqb)|(go_at_call 333;refine ZM CB.out ?_;rintro w2 hb2;have HB2:=J (HB.out.trans (hb2.mono (Nat.le_of_lt (ZDy hl HL.out))));clear hb2))
 go_ret;exact⟨rfl,HB2.out⟩
theorem ZwW(c:UInt8):blB c=true↔c.toNat=32\/c.toNat=9\/c.toNat=10\/c.toNat=13:=by
 rw[<-Zz6];unfold blR;simp;omega
theorem ZqT(c:UInt8)(w:World):Calls prog 101 #[.int .u8 c.toNat] w λe w'=>e=.returned (.bool (blB c))/\w'=w:=by
 obtain⟨b,hb⟩:=ZX (blB c);have hc:(c.toNat:Int)<256:=by have:=c.toNat_lt;omega
 have hc0:(0:Int)<=(c.toNat:Int):=by omega
 have hi:=ZwW c;rw[hb]at hi ⊢;go_enter func101,ntmps101
 by_cases h1:(c.toNat:Int)=32
 ·have:b=true:=hi.2 (by omega);subst this;clear hi hb;have e1:((c.toNat:Int)==32)=true:=by simpa using h1
  go_wp2;go_ret;exact⟨rfl,rfl⟩
 ·have e1:((c.toNat:Int)==32)=false:=by simpa using h1
  by_cases h2:(c.toNat:Int)=9
  ·have:b=true:=hi.2 (by omega);subst this;clear hi hb;have e2:((c.toNat:Int)==9)=true:=by simpa using h2
   go_wp2;go_ret;exact⟨rfl,rfl⟩
  ·have e2:((c.toNat:Int)==9)=false:=by simpa using h2
   by_cases h3:(c.toNat:Int)=10
   ·have:b=true:=hi.2 (by omega);subst this;clear hi hb;have e3:((c.toNat:Int)==10)=true:=(by simpa using h3);go_wp2;go_ret;exact⟨rfl,rfl⟩
   ·have e3:((c.toNat:Int)==10)=false:=(by simpa using h3);by_cases h4:(c.toNat:Int)=13
    ·have:b=true:=hi.2 (by omega);subst this;clear hi hb;have e4:((c.toNat:Int)==13)=true:=(by simpa using h4);go_wp2;go_ret;exact⟨rfl,rfl⟩
    ·have e4:((c.toNat:Int)==13)=false:=(by simpa using h4);have:b=false:=by
      cases b
      ·rfl
      ·have:=hi.1 rfl;omega
     subst this;clear hi hb;go_wp2;go_ret;exact⟨rfl,rfl⟩
theorem Zs4(s:ZB)(w:World)(hs:s.size<=1048576):
  Calls prog 102 #[.string s,I 1] w (ZA0 s w):=by
 obtain⟨cap,w1,hcv,hbf,hb1⟩:=ZnH w s;have HBF:=J hbf;have HB1:=J hb1;clear hbf hb1;go_enter func102,ntmps102
 go_wp2_with fail
 go_loopw [6] (λv6 wr=>∃i:Nat,i<=s.size/\v6=I i/\Hid (Zuq wr w.heap.size (Zir s.data.toList i))/\Hid (ZL w wr)) (λv6 _=>s.size-(Zi v6).toNat)
 case atStart=>exact⟨0,Zx _,rfl,J (by rw[Zk4];exact HBF.out),HB1⟩
 case round=>
  obtain⟨i,hi,rfl,HR,HB⟩:=hrel;by_cases hlt:i<s.size
  ·have hii:(i:Int)<(s.size:Int):=by omega
   have hi0:(0:Int)<=(i:Int):=by omega
   have hat:=Zv7 s i hlt;obtain⟨c,hc⟩:=ZX (s[i]);rw[hc]at hat;have HAT:=J hat;have HN:=J (ZlB hat);have bc:=Zhk HR.out (ZhB hat);have bf:=ZgH HR.out (j:=i) (by rw[ZfL];simpa using hlt);clear hat hc;have CB:=J (ZqT c wr);cases hx:blB c
   ·have HM:Hid (Zir s.data.toList (i+1)=Zir s.data.toList i):=J (by
     rw[HN.out,hx];apply List.ext_getElem?;intro j;by_cases e:i=j
     ·subst e;rw[ZhB HAT.out,List.getElem?_set_self (by rw[ZfL];simpa using hlt)];rfl
     ·rw[List.getElem?_set_ne e])
    rw[hx]at CB;clear HN hx;go_wp2_with (go_at_call 101;refine Zc CB.out ?_)
    go_roundw
    case rel=>exact⟨i+1,by omega,by go_num,J (by rw[HM.out];exact HR.out),HB⟩
    case measure=>simp[Zi];omega
   ·have HS:=J (ZmT HR.out i 32);rw[hx,Zd rfl]at HN;rw[hx]at CB;rw[<-HN.out]at HS;have HB2:=J (HB.out.setCell (p:=⟨w.heap.size,i,none⟩) (Zb _) (.int .u8 32));clear HN hx;go_wp2_with (go_at_call 101;refine Zc CB.out ?_)
    go_roundw
    case rel=>exact⟨i+1,by omega,by go_num,HS,HB2⟩
    case measure=>simp[Zi];omega
  ·have e:i=s.size:=by omega
   subst e;have hii:¬(s.size:Int)<(s.size:Int):=by omega
   have hml:Zir s.data.toList s.size=reB s.data.toList:=by
    have:=Znb s.data.toList;simpa using this
   have hbf:=HR.out;rw[hml]at hbf;have hl:(reB s.data.toList).length=s.size:=by simp[reB]
   have hcv2:=Zn1 hbf cap;rw[hl]at hcv2;clear hml hl hbf;go_wp2;go_ret;exact⟨rfl,HB.out⟩
end
section
open Go.RowKit Go.Joins
def tI(X:Rx)(j:Nat):Int:=trI X.K X.A X.B j
theorem Zfy{X:Rx}{j f:Nat}(h:trX X j=some f):tI X j=f:=by unfold tI trI;unfold trX at h;rw[h]
theorem Zvp(x y:Int)(w:World)(h:min x 2001=y):Calls prog 263 #[I x] w λe w'=>e=.returned (I y)/\w'=w:=by
 have H:=J h;clear h;go_enter func263,ntmps263
 go_wp2;all_goals
  go_ret;exact⟨ZgF (by rw[<-H.out]<;>omega),rfl⟩
theorem ZfX(w:World)(o1 o2:Obj)(q:Nat)(v0 v1:Value):ZL w (((((w.alloc o1).alloc o2).drewN q).setCell ⟨w.heap.size+1,0,none⟩ v0).setCell ⟨w.heap.size+1,1,none⟩ v1):=by
 refine Below.setCell (Below.setCell ?_ (by simp) _) (by simp) _;exact(((Ze _ _).alloc (Zb _) _).alloc (by simp) _).trans ((Za8 _ _).mono (by simp;omega))
section
variable (X:Rx) (k:Nat) (a:Option Addr) (c:Nat) (ad:Option Addr) (cp:Nat) (w:World)
theorem Zq3(hk:k<=120)(hr:ZdV w a k (tI X) (wtX X) w.heap.size)(h2:X.K k=3\/X.K k=4)
  (hno:k<=1\/X.B k≠(k:Int)-1\/tI X (k-1)=0\/X.A k≠tI X (k-1)-1) (htb:1<k->0<=tI X (k-1)/\tI X (k-1)<=120):
  Calls prog 224 #[.slice a k c,.agg #[I (X.K k),.bool (X.NT k),.slice ad (X.NR k) cp,I (X.A k),I (X.B k),I (X.MN k),I (X.MX k)]] w λe w'=>e=.returned (.tuple #[.agg #[I 0,I 0],.bool false])/\ZL w w':=by
 obtain⟨kd,hkd⟩:=ZX (X.K k);obtain⟨pa,hpa⟩:∃x,X.A k=x:=⟨_,rfl⟩;obtain⟨pb,hpb⟩:∃x,X.B k=x:=⟨_,rfl⟩;obtain⟨t,ht⟩:∃x,tI X (k-1)=x:=⟨_,rfl⟩;rw[hkd]at h2 ⊢;rw[hpb,ht,hpa]at hno;rw[ht]at htb;rw[hpa,hpb];have HR:=J hr;have HT:=J ht;clear hr hkd hpa hpb ht;by_cases q1:k<=1
 ·have q2:(k:Int)-1<1:=by omega
  clear hno htb;rcases h2 with rfl|rfl
  all_goals
   go_enter func224,ntmps224
   go_wp2;go_big_quiet (fail)
   go_wp2;exact bodyPost_ret (v:=.tuple #[.agg #[I 0,I 0],.bool false]) (by simp[results,results224,go_sem]) rfl ⟨rfl,ZfX _ _ _ _ _ _⟩
 ·obtain⟨b,off,rfl,hbs,hc⟩:=HR.out (by omega);have c1:=(hc (k-1) (by omega)).1;rw[HT.out]at c1;have q2:decide ((k:Int)-1<1)=false:=by simp;omega
  have q3:(k:Int)-1<(k:Int):=by omega
  have q4:(0:Int)<=(k:Int)-1:=by omega
  have q5:((k:Int)-1).toNat=k-1:=by omega
  obtain⟨tb0,tb1⟩:=htb (by omega);have hw:IntKind.i64.wrap (t-1)=t-1:=by rw[ZY];omega
  clear hc htb;by_cases p1:pb=(k:Int)-1
  ·have p1b:(pb != (k:Int)-1)=false:=by simp;omega
   subst p1;by_cases p2:t=0
   ·subst p2;clear hno;rcases h2 with rfl|rfl
    all_goals
     go_enter func224,ntmps224
     go_wp2;go_big_quiet (fail)
     go_wp2;exact bodyPost_ret (v:=.tuple #[.agg #[I 0,I 0],.bool false]) (by simp[results,results224,go_sem]) rfl ⟨rfl,ZfX _ _ _ _ _ _⟩
   ·have p2b:(t==0)=false:=(by simpa using p2);have p3:pa≠t-1:=by
     rcases hno with h|h|h|h
     ·omega
     ·exact absurd rfl h
     ·exact absurd h p2
     ·exact h
    have p3b:(pa != t-1)=true:=(by simpa using p3);clear hno;rcases h2 with rfl|rfl
    all_goals
     go_enter func224,ntmps224
     go_wp2;go_big_quiet (fail)
     go_wp2;exact bodyPost_ret (v:=.tuple #[.agg #[I 0,I 0],.bool false]) (by simp[results,results224,go_sem]) rfl ⟨rfl,ZfX _ _ _ _ _ _⟩
  ·have p1b:(pb != (k:Int)-1)=true:=by simpa using p1
   clear hno;rcases h2 with rfl|rfl
   all_goals
    go_enter func224,ntmps224
    go_wp2;go_big_quiet (fail)
    go_wp2;exact bodyPost_ret (v:=.tuple #[.agg #[I 0,I 0],.bool false]) (by simp[results,results224,go_sem]) rfl ⟨rfl,ZfX _ _ _ _ _ _⟩
end
def sgE:List UInt8:=[46,92,63,42,43,123,125,40,41,124,91,93,45,94]
def ZmO(c:Int):Nd:=⟨2,false,[(c,c)],0,0,0,0⟩
def emN:Nd:=⟨1,false,[],0,0,0,0⟩
def ZAr:Nd:=⟨2,true,[(10,10),(13,13)],0,0,0,0⟩
def sqN(a b:Int):Nd:=⟨3,false,[],a,b,0,0⟩
def orN(a b:Int):Nd:=⟨4,false,[],a,b,0,0⟩
def cnN(a mn mx:Int):Nd:=⟨5,false,[],a,0,mn,mx⟩
def clN(nt:Bool)(L:List (Int×Int)):Nd:=⟨2,nt,L,0,0,0,0⟩
def esP:List Int->Option (Int×List Int)
 |[]=>none
 |c::r=>if c=110 then some (10,r) else if c=114 then some (13,r) else if c=116 then some (9,r) else if isS sgE c=true then some (c,r) else none
def inP:List Int->Option (Int×List Int)
 |[]=>none
 |c::r=>if c=92 then esP r else if isS sgI c=true then none else some (c,r)
def ltR(c:Int):List (Int×Int):=
 if c=100\/c=68 then [(48,57)] else if c=119\/c=87 then [(48,57),(65,90),(95,95),(97,122)] else if c=115\/c=83 then [(9,10),(13,13),(32,32)] else []
def Zvu(c:Int):Bool:=decide (65<=c/\c<=90)
def bsP:List Int->List Nd->Option (List Int×List Nd)
 |[],X=>none
 |c::r,X=>if 0<(ltR c).length then some (r,X++[clN (Zvu c) (ltR c)]) else match esP (c::r) with
  |none=>none
  |some (d,r')=>some (r',X++[ZmO d])
def brF:Nat->List Int->List (Int×Int)->Option (List Int×List (Int×Int))
 |0,_,_=>none
 |f+1,u,L=>if u.head?=some 93 then some (u.tail,L) else match inP u with
  |none=>none
  |some (a,u1)=>if u1.head?=some 45 then (match inP u1.tail with
    |none=>none
    |some (b,u2)=>brF f u2 (L++[(a,b)]))
   else brF f u1 (L++[(a,a)])
def brP(u:List Int)(X:List Nd):Option (List Int×List Nd):=match brF (u.length+1) (if u.head?=some 94 then u.tail else u) [] with
 |none=>none
 |some (r,L)=>some (r,X++[clN (decide (u.head?=some 94)) L])
def dgB(c:Int):Bool:=decide (48<=c/\c<=57)
def nm2(n:Int):List Int->Int×List Int
 |[]=>(n,[])
 |d::r=>if dgB d=true then (n*10+(d-48),r) else (n,d::r)
theorem ZwY(n:Int)(r:List Int):(nm2 n r).2.length<=r.length:=by
 cases r with
 |nil=>exact Zb _
 |cons d r=>
  rw[nm2];split
  ·simp
  ·exact Zb _
def nmP:List Int->Option (Int×List Int)
 |[]=>none
 |c::r=>if dgB c=true then (if c=48 then some (0,r) else some (nm2 (c-48) r)) else none
def lmP(u:List Int):Option ((Int×Int)×List Int):=match nmP u with
 |none=>none
 |some (n,r)=>if r.head?=some 125 then some ((n,n),r.tail) else if r.head?=some 44 then (if r.tail.head?=some 125 then some ((n,-1),r.tail.tail) else match nmP r.tail with
   |none=>none
   |some (m,r2)=>if r2.head?=some 125 then some ((n,m),r2.tail) else none)
  else none
def ctP(u:List Int):Option (Option (Int×Int)×List Int):=
 if u.head?=some 63 then some (some (0,1),u.tail) else if u.head?=some 42 then some (some (0,-1),u.tail) else if u.head?=some 43 then some (some (1,-1),u.tail) else
 if u.head?=some 123 then (match lmP u.tail with
  |none=>none
  |some (m,r)=>some (some m,r))
 else some (none,u)
def rwE(u:List Int):Bool:=decide (u=[]\/u.head?=some 124\/u.head?=some 41)
mutual
def rdC:Nat->List Int->List Nd->Option (List Int×List Nd)
 |0,_,_=>none
 |f+1,u,X=>match rdR f u X with
  |none=>none
  |some (u1,X1)=>ZjR f u1 X1
def ZjR:Nat->List Int->List Nd->Option (List Int×List Nd)
 |0,_,_=>none
 |f+1,u,X=>if u.head?=some 124 then (match rdR f u.tail X with
  |none=>none
  |some (u1,X1)=>ZjR f u1 (X1++[orN ((X.length:Int)-1) ((X1.length:Int)-1)])) else some (u,X)
def rdR:Nat->List Int->List Nd->Option (List Int×List Nd)
 |0,_,_=>none
 |f+1,u,X=>if rwE u=true then some (u,X++[emN]) else match rdP f u X with
  |none=>none
  |some (u1,X1)=>Zik f u1 X1
def Zik:Nat->List Int->List Nd->Option (List Int×List Nd)
 |0,_,_=>none
 |f+1,u,X=>if rwE u=true then some (u,X) else match rdP f u X with
  |none=>none
  |some (u1,X1)=>Zik f u1 (X1++[sqN ((X.length:Int)-1) ((X1.length:Int)-1)])
def rdP:Nat->List Int->List Nd->Option (List Int×List Nd)
 |0,_,_=>none
 |f+1,u,X=>match rdA f u X with
  |none=>none
  |some (u1,X1)=>match ctP u1 with
   |none=>none
   |some (none,u2)=>some (u2,X1)
   |some (some m,u2)=>some (u2,X1++[cnN ((X1.length:Int)-1) m.1 m.2])
def rdA:Nat->List Int->List Nd->Option (List Int×List Nd)
 |0,_,_=>none
 |f+1,[],X=>none
 |f+1,c::r,X=>if c=40 then (match rdC f r X with
   |none=>none
   |some (u1,X1)=>if u1.head?=some 41 then some (u1.tail,X1) else none)
  else if c=91 then brP r X else if c=46 then some (r,X++[ZAr]) else if c=92 then bsP r X else if isS sgO c=true then none else some (r,X++[ZmO c])
end
def Sh(u:List Int)(X:List Nd)(u':List Int)(X':List Nd)(a b:Nat):Prop:=(∃Y,X'=X++Y)/\u'.length<=u.length/\X'.length+2*u'.length+b<=X.length+2*u.length+a
theorem Sh.trans{u u1 u2:List Int}{X X1 X2:List Nd}{a b a' b':Nat}(h:Sh u X u1 X1 a b)(k:Sh u1 X1 u2 X2 a' b'):Sh u X u2 X2 (a+a') (b+b'):=by
 obtain⟨⟨Y,h0⟩,h2,h3⟩:=h;obtain⟨⟨Z,h4⟩,h5,h6⟩:=k;exact⟨⟨Y++Z,by rw[h4,h0,List.append_assoc]⟩,by omega,by omega⟩
theorem Sh.le{u u1:List Int}{X X1:List Nd}{a b a' b':Nat}(h:Sh u X u1 X1 a b)(k:a+b'<=a'+b):Sh u X u1 X1 a' b':=⟨h.1,h.2.1,by have:=h.2.2;omega⟩
theorem Zf9{u u1:List Int}{X X1:List Nd}{a b:Nat}(h:Sh u X u1 X1 a b)(n:Nd):Sh u X u1 (X1++[n]) (a+1) b:=by
 obtain⟨⟨Y,h0⟩,h2,h3⟩:=h;exact⟨⟨Y++[n],by rw[h0,List.append_assoc]⟩,h2,by rw[ZDz,List.length_singleton];omega⟩
theorem Zm1(u:List Int)(X:List Nd):Sh u X u X 0 0:=⟨⟨[],by simp⟩,Zb _,Zb _⟩
theorem Zh4{u u':List Int}(X:List Nd){b:Nat}(h:u'.length+b<=u.length):Sh u X u' X 0 (2*b):=⟨⟨[],by simp⟩,by omega,by omega⟩
theorem ZvA:∀ {u:List Int} {c:Int} {r:List Int},esP u=some (c,r)->r.length+1<=u.length
 |[],c,r,h=>by cases h
 |d::u,c,r,h=>by
  rw[esP]at h;split at h
  ·cases h;simp
  ·split at h
   ·cases h;simp
   ·split at h
    ·cases h;simp
    ·split at h
     ·cases h;simp
     ·cases h
theorem ZiC:∀ {u:List Int} {c:Int} {r:List Int},inP u=some (c,r)->r.length+1<=u.length
 |[],c,r,h=>by cases h
 |d::u,c,r,h=>by
  rw[inP]at h;split at h
  ·have:=ZvA h;simp;omega
  ·split at h
   ·cases h
   ·cases h;simp
theorem ZdK(u:List Int):u.tail.length<=u.length:=by simp
theorem ZaH{u:List Int}{c:Int}(h:u.head?=some c):u=c::u.tail:=by
 cases u with
 |nil=>cases h
 |cons d u=>simp at h;subst h;rfl
theorem ZgJ{u:List Int}{c:Int}(h:u.head?=some c):u.tail.length+1=u.length:=by
 conv=>rhs;rw[ZaH h]
 simp
theorem ZsN:∀(f:Nat) {u:List Int} {L:List (Int×Int)} {r:List Int} {L':List (Int×Int)},brF f u L=some (r,L')->r.length<=u.length/\L'.length+r.length<=L.length+u.length
 |0,u,L,r,L',h=>by cases h
 |f+1,u,L,r,L',h=>by
  rw[brF]at h;split at h
  ·cases h;have:=ZdK u;omega
  ·split at h
   ·cases h
   ·rename_i a u1 e1;have h1:=ZiC e1;split at h
    ·split at h
     ·cases h
     ·rename_i b u2 e2;have h2:=ZiC e2;have h3:=ZdK u1;have:=ZsN f h;simp at this;omega
    ·have:=ZsN f h;simp at this;omega
theorem ZvL:∀ {u:List Int} {n:Int} {r:List Int},nmP u=some (n,r)->r.length+1<=u.length
 |[],n,r,h=>by cases h
 |c::u,n,r,h=>by
  rw[nmP]at h;split at h
  ·split at h
   ·cases h;simp
   ·have h1:=ZwY (c-48) u;have h2:nm2 (c-48) u=(n,r):=(by simpa using h);rw[h2]at h1;simp at h1 ⊢;omega
  ·cases h
theorem ZA5{u:List Int}{m:Int×Int}{r:List Int}(h:lmP u=some (m,r)):r.length+1<=u.length:=by
 unfold lmP at h;split at h
 ·cases h
 ·rename_i n r1 e1;have h1:=ZvL e1;have h2:=ZdK r1;split at h
  ·cases h;omega
  ·split at h
   ·split at h
    ·cases h;have h3:=ZdK r1.tail;omega
    ·split at h
     ·cases h
     ·rename_i m r2 e2;have h3:=ZvL e2;have h4:=ZdK r2;split at h
      ·cases h;omega
      ·cases h
   ·cases h
theorem Zvd{u:List Int}{m:Option (Int×Int)}{r:List Int}(h:ctP u=some (m,r)):(m=none/\r=u)\/(m≠none/\r.length+1<=u.length):=by
 unfold ctP at h;split at h
 ·rename_i e;cases h;have:=ZgJ e;exact .inr ⟨by simp,by omega⟩
 ·split at h
  ·rename_i e;cases h;have:=ZgJ e;exact .inr ⟨by simp,by omega⟩
  ·split at h
   ·rename_i e;cases h;have:=ZgJ e;exact .inr ⟨by simp,by omega⟩
   ·split at h
    ·rename_i e;split at h
     ·cases h
     ·rename_i m r e2;cases h;have h1:=ZA5 e2;have:=ZgJ e;exact .inr ⟨by simp,by omega⟩
    ·cases h;exact .inl ⟨rfl,rfl⟩
theorem ZB6{u:List Int}{X:List Nd}{u':List Int}{X':List Nd}(h:bsP u X=some (u',X')):Sh u X u' X' 1 2:=by
 cases u with
 |nil=>cases h
 |cons c r=>
  rw[bsP]at h;split at h
  ·cases h;exact(Zf9 (Zh4 (u:=c::u') (u':=u') X (b:=1) (by simp)) _).le (by omega)
  ·split at h
   ·cases h
   ·rename_i d r' e;cases h;exact(Zf9 (Zh4 (u:=c::r) X (b:=1) (ZvA e)) _).le (by omega)
theorem ZCC{u:List Int}{X:List Nd}{u':List Int}{X':List Nd}(h:brP u X=some (u',X')):Sh u X u' X' 1 0:=by
 unfold brP at h;split at h
 ·cases h
 ·rename_i r L e;cases h;have h1:=(ZsN _ e).1;have h2:=ZdK u;have h3:u'.length<=u.length:=by split at h1<;>omega
  exact(Zf9 (Zh4 (u:=u) X (b:=0) h3) _).le (by omega)
theorem Zet:∀(f:Nat),(∀ {u X u' X'},rdC f u X=some (u',X')->Sh u X u' X' 1 0)/\(∀ {u X u' X'},ZjR f u X=some (u',X')->Sh u X u' X' 0 0)/\(∀ {u X u' X'},rdR f u X=some (u',X')->Sh u X u' X' 1 0)/\
  (∀ {u X u' X'},Zik f u X=some (u',X')->Sh u X u' X' 0 0)/\(∀ {u X u' X'},rdP f u X=some (u',X')->Sh u X u' X' 0 1)/\(∀ {u X u' X'},rdA f u X=some (u',X')->Sh u X u' X' 0 1)
 |0=>by
  refine⟨λh=>?_,λh=>?_,λh=>?_,λh=>?_,λh=>?_,λh=>?_⟩
  ·rw[rdC]at h;cases h
  ·rw[ZjR]at h;cases h
  ·rw[rdR]at h;cases h
  ·rw[Zik]at h;cases h
  ·rw[rdP]at h;cases h
  ·rw[rdA]at h;cases h
 |f+1=>by
  obtain⟨iC,iCl,iR,iRl,iP,iA⟩:=Zet f;refine⟨λ {u X u' X'} h=>?_,λ {u X u' X'} h=>?_,λ {u X u' X'} h=>?_,λ {u X u' X'} h=>?_,λ {u X u' X'} h=>?_,λ {u X u' X'} h=>?_⟩
  ·rw[rdC]at h;split at h
   ·cases h
   ·rename_i u1 X1 e;exact((iR e).trans (iCl h)).le (by omega)
  ·rw[ZjR]at h;split at h
   ·rename_i e0;split at h
    ·cases h
    ·rename_i u1 X1 e;have h1:=ZgJ e0;have h2:=(Zh4 (u:=u) (u':=u.tail) X (b:=1) (by omega)).trans (Zf9 (iR e) (orN ((X.length:Int)-1) ((X1.length:Int)-1)));exact(h2.trans (iCl h)).le (by omega)
   ·cases h;exact Zm1 _ _
  ·rw[rdR]at h;split at h
   ·cases h;exact(Zf9 (Zm1 _ _) _).le (by omega)
   ·split at h
    ·cases h
    ·rename_i u1 X1 e;exact((iP e).trans (iRl h)).le (by omega)
  ·rw[Zik]at h;split at h
   ·cases h;exact Zm1 _ _
   ·split at h
    ·cases h
    ·rename_i u1 X1 e;exact((Zf9 (iP e) (sqN ((X.length:Int)-1) ((X1.length:Int)-1))).trans (iRl h)).le (by omega)
  ·rw[rdP]at h;split at h
   ·cases h
   ·rename_i u1 X1 e;have h1:=iA e;split at h
    ·cases h
    ·rename_i u2 e2;cases h;rcases Zvd e2 with ⟨-,rfl⟩|⟨h9,-⟩
     ·exact h1
     ·exact absurd rfl h9
    ·rename_i m u2 e2;cases h;rcases Zvd e2 with ⟨h9,-⟩|⟨-,h9⟩
     ·cases h9
     ·exact(h1.trans (Zf9 (Zh4 (u:=u1) X1 (b:=1) h9) (cnN ((X1.length:Int)-1) m.1 m.2))).le (by omega)
  ·cases u with
   |nil=>rw[rdA]at h;cases h
   |cons c r=>
    have hc:Sh (c::r) X r X 0 2:=(Zh4 (u:=c::r) (u':=r) X (b:=1) (by simp)).le (by omega);rw[rdA]at h;split at h
    ·split at h
     ·cases h
     ·rename_i u1 X1 e;split at h
      ·rename_i e2;cases h;have h2:=ZgJ e2;exact((hc.trans (iC e)).trans (Zh4 (u:=u1) (u':=u1.tail) _ (b:=1) (by omega))).le (by omega)
      ·cases h
    ·split at h
     ·exact(hc.trans (ZCC h)).le (by omega)
     ·split at h
      ·cases h;exact(Zf9 hc ZAr).le (by omega)
      ·split at h
       ·exact(hc.trans (ZB6 h)).le (by omega)
       ·split at h
        ·cases h
        ·cases h;exact(Zf9 hc (ZmO c)).le (by omega)
end
section
open Go.RowKit
theorem Zbz:∀(l:List UInt8) (c:UInt8),(∀b∈l,b.toNat<128)->128<=c.toNat->Lib.indexByte l c = -1
 |[],_,_,_=>rfl
 |b::l,c,h,hc=>by
  have h0:=h b (ZDH ..);have hne:(b==c)=false:=beq_eq_false_iff_ne.2 (λe=>by rw[e]at h0;omega);have ih:=Zbz l c (λd hd=>h d (ZDN _ hd)) hc;unfold Lib.indexByte;rw[hne,ih];rfl
theorem Zgk(r:Int)(h:128<=r)(hv:Lib.validRune r=true):(∃a b:UInt8,Utf8.encode r=⟨#[a,b]⟩/\128<=b.toNat)\/(∃a b c:UInt8,Utf8.encode r=⟨#[a,b,c]⟩/\128<=c.toNat)\/(∃a b c d:UInt8,Utf8.encode r=⟨#[a,b,c,d]⟩/\128<=d.toNat):=by
 have hv2:Utf8.valid r=true:=by
  unfold Lib.validRune at hv;unfold Utf8.valid;simp at hv ⊢;omega
 have hb:∀n:Nat,128<=(UInt8.ofNat (0x80+n%64)).toNat:=λn=>by
  rw[UInt8.toNat_ofNat'];omega
 unfold Utf8.encode;simp only[hv2,if_true];rw[Za (by omega)];by_cases h1:r.toNat<0x800
 ·rw[Zd h1];exact .inl ⟨_,_,rfl,hb _⟩
 ·rw[Za h1];by_cases h2:r.toNat<0x10000
  ·rw[Zd h2];exact .inr (.inl ⟨_,_,_,rfl,hb _⟩)
  ·rw[Za h2];exact .inr (.inr ⟨_,_,_,_,rfl,hb _⟩)
theorem ZbP(r:Int)(w:World):(convert 21 9 (.int .i32 r)).run prog w=.ok (.string (Utf8.encode r)) w:=by kernel_rfl
theorem ZbO(x:UInt8):(x.toNat:Int).toNat.toUInt8=x:=by simp
def Zbn(w:World)(e:Ending)(w':World):Prop:=e=.returned (I (-1))/\ZL w w'
theorem ZAe(w:World):Calls prog 119 #[.string ⟨#[46,92,63,42,43,123,125,40,41,124,91,93]⟩,.int .i32 65533] w (Zbn w):=by
 go_enter func119,ntmps119
 go_wp2_with fail
 go_loopw [] (λwr=>∃pos:Nat,pos<=12/\Hid (wr.heap[w.heap.size]?=some (.stringIter ⟨#[46,92,63,42,43,123,125,40,41,124,91,93]⟩ pos))/\Hid (ZL w wr)) (λwr=>match wr.heap[w.heap.size]? with|some (.stringIter _ p)=>12-p|_=>0)
 case atStart=>exact⟨0,by omega,J (World.iter_heap w _ 0),J ((Ze _ _).alloc (Zb _) _)⟩
 case round=>
  obtain⟨pos,hp,HI,HB⟩:=hrel;by_cases hlt:pos<12
  ·have hlt':pos<(⟨#[46,92,63,42,43,123,125,40,41,124,91,93]⟩:ZB).size:=hlt;have ha:((⟨#[46,92,63,42,43,123,125,40,41,124,91,93]⟩:ZB)[pos]'hlt').toNat<128:=by
    rcases(show pos=0\/pos=1\/pos=2\/pos=3\/pos=4\/pos=5\/pos=6\/pos=7\/pos=8\/pos=9\/pos=10\/pos=11 by omega) with e|e|e|e|e|e|e|e|e|e|e|e<;>subst e<;>(first|(show _<_;decide)|exact ZDY rfl)
   have hnx:=λty=>Lib.run_next_ascii_at (P:=prog) wr w.heap.size ⟨#[46,92,63,42,43,123,125,40,41,124,91,93]⟩ pos ty HI.out hlt' ha
   obtain⟨x,hx⟩:∃x:Nat,((⟨#[46,92,63,42,43,123,125,40,41,124,91,93]⟩:ZB)[pos]'hlt').toNat=x:=⟨_,rfl⟩;rw[hx]at hnx ha;have e1:((x:Int)==65533)=false:=by
    have:¬(x:Int)=65533:=by omega
    simpa using this
   have HI2:=J (Lib.iterAt_heap wr w.heap.size _ pos (pos+1) HI.out);have HB2:=J (Lib.below_iterAt HB.out (k:=w.heap.size) (Zb _) ⟨#[46,92,63,42,43,123,125,40,41,124,91,93]⟩ (pos+1));clear hx;go_wp2
   go_roundw
   case rel=>exact⟨pos+1,by omega,HI2,HB2⟩
   case measure=>rw[HI2.out,HI.out];simp;omega
  ·have hnx:=λty=>Lib.run_next_end_at (P:=prog) wr w.heap.size ⟨#[46,92,63,42,43,123,125,40,41,124,91,93]⟩ pos ty HI.out (λh9=>hlt h9)
   go_wp2;go_ret;exact⟨rfl,HB.out⟩
theorem Zvb(r:Int)(w:World)(h:128<=r)(h2:r<=1114111)(hv:Lib.validRune r=true)(he:r≠65533)(a b:UInt8)(hN:Utf8.encode r=⟨#[a,b]⟩)(hb:128<=b.toNat):Calls prog 119 #[.string ⟨#[46,92,63,42,43,123,125,40,41,124,91,93]⟩,.int .i32 r] w (Zbn w):=by
 have CV:=J (ZFc r w);rw[hv]at CV;have hcv:=ZbP r;rw[hN]at hcv;have hnot:∀(x:Bool) (w:World),(Op.unary .not (.bool x)).run prog w=.ok (.bool (!x)) w:=λ_ _=>rfl
 have h0:(0:Int)<=r:=by omega
 have h1:¬r<128:=by omega
 have e1:(r==65533)=false:=by simpa using he
 have hne:(((⟨#[46,92,63,42,43,123,125,40,41,124,91,93]⟩:ZB)[1]'(by decide)).toNat:Int)≠(((⟨#[a,b]⟩:ZB)[1]'(Zb 2)).toNat:Int):=by
  have e1:((⟨#[46,92,63,42,43,123,125,40,41,124,91,93]⟩:ZB)[1]'(by decide)).toNat<128:=by decide
  have e2:128<=((⟨#[a,b]⟩:ZB)[1]'(Zb 2)).toNat:=hb;omega
 have hne2:((((⟨#[46,92,63,42,43,123,125,40,41,124,91,93]⟩:ZB)[1]'(by decide)).toNat:Int) != (((⟨#[a,b]⟩:ZB)[1]'(Zb 2)).toNat:Int))=true:=by
  rw[bne_iff_ne];exact hne
 go_enter func119,ntmps119
 go_wp2_with (go_at_call 155;refine Zc CV.out ?_)
 go_step3
 go_wp2
 go_loopw [9] (λv9 wr=>v9=I 1/\wr=w) (λ_ _=>0)
 case atStart=>exact⟨rfl,rfl⟩
 case round=>
  obtain⟨rfl,rfl⟩:=hrel;go_wp2
  go_step3
  go_wp2
  go_region
  go_wp2;go_region_with (go_at_call 154;refine(ZE5 _ _ _).mono ?_;rintro e w9 ⟨he9,h9⟩;have e9:e=.returned (I (-1)):=he9.trans (by rw[Zbz _ _ (by decide) (by rw[ZbO];exact hb)]);rw[e9,h9];clear he9 e9 h9)
  all_goals (go_wp2;rw[ZEq];go_ret;exact⟨rfl,(((Ze _ _).drew).drew)⟩)
theorem ZtM(r:Int)(w:World)(h:128<=r)(h2:r<=1114111)(hv:Lib.validRune r=true)(he:r≠65533)(a b c:UInt8)(hN:Utf8.encode r=⟨#[a,b,c]⟩)(hb:128<=c.toNat):Calls prog 119 #[.string ⟨#[46,92,63,42,43,123,125,40,41,124,91,93]⟩,.int .i32 r] w (Zbn w):=by
 have CV:=J (ZFc r w);rw[hv]at CV;have hcv:=ZbP r;rw[hN]at hcv;have hnot:∀(x:Bool) (w:World),(Op.unary .not (.bool x)).run prog w=.ok (.bool (!x)) w:=λ_ _=>rfl
 have h0:(0:Int)<=r:=by omega
 have h1:¬r<128:=by omega
 have e1:(r==65533)=false:=by simpa using he
 have hne:(((⟨#[46,92,63,42,43,123,125,40,41,124,91,93]⟩:ZB)[2]'(by decide)).toNat:Int)≠(((⟨#[a,b,c]⟩:ZB)[2]'(Zb 3)).toNat:Int):=by
  have e1:((⟨#[46,92,63,42,43,123,125,40,41,124,91,93]⟩:ZB)[2]'(by decide)).toNat<128:=by decide
  have e2:128<=((⟨#[a,b,c]⟩:ZB)[2]'(Zb 3)).toNat:=hb;omega
 have hne2:((((⟨#[46,92,63,42,43,123,125,40,41,124,91,93]⟩:ZB)[2]'(by decide)).toNat:Int) != (((⟨#[a,b,c]⟩:ZB)[2]'(Zb 3)).toNat:Int))=true:=by
  rw[bne_iff_ne];exact hne
 go_enter func119,ntmps119
 go_wp2_with (go_at_call 155;refine Zc CV.out ?_)
 go_step3
 go_wp2
 go_loopw [9] (λv9 wr=>v9=I 2/\wr=w) (λ_ _=>0)
 case atStart=>exact⟨rfl,rfl⟩
 case round=>
  obtain⟨rfl,rfl⟩:=hrel;go_wp2
  go_step3
  go_wp2
  go_region
  go_wp2;go_region_with (go_at_call 154;refine(ZE5 _ _ _).mono ?_;rintro e w9 ⟨he9,h9⟩;have e9:e=.returned (I (-1)):=he9.trans (by rw[Zbz _ _ (by decide) (by rw[ZbO];exact hb)]);rw[e9,h9];clear he9 e9 h9)
  all_goals (go_wp2;rw[ZEq];go_ret;exact⟨rfl,(((Ze _ _).drew).drew)⟩)
theorem Zux(r:Int)(w:World)(h:128<=r)(h2:r<=1114111)(hv:Lib.validRune r=true)(he:r≠65533)(a b c d:UInt8)(hN:Utf8.encode r=⟨#[a,b,c,d]⟩)(hb:128<=d.toNat):Calls prog 119 #[.string ⟨#[46,92,63,42,43,123,125,40,41,124,91,93]⟩,.int .i32 r] w (Zbn w):=by
 have CV:=J (ZFc r w);rw[hv]at CV;have hcv:=ZbP r;rw[hN]at hcv;have hnot:∀(x:Bool) (w:World),(Op.unary .not (.bool x)).run prog w=.ok (.bool (!x)) w:=λ_ _=>rfl
 have h0:(0:Int)<=r:=by omega
 have h1:¬r<128:=by omega
 have e1:(r==65533)=false:=by simpa using he
 have hne:(((⟨#[46,92,63,42,43,123,125,40,41,124,91,93]⟩:ZB)[3]'(by decide)).toNat:Int)≠(((⟨#[a,b,c,d]⟩:ZB)[3]'(Zb 4)).toNat:Int):=by
  have e1:((⟨#[46,92,63,42,43,123,125,40,41,124,91,93]⟩:ZB)[3]'(by decide)).toNat<128:=by decide
  have e2:128<=((⟨#[a,b,c,d]⟩:ZB)[3]'(Zb 4)).toNat:=hb;omega
 have hne2:((((⟨#[46,92,63,42,43,123,125,40,41,124,91,93]⟩:ZB)[3]'(by decide)).toNat:Int) != (((⟨#[a,b,c,d]⟩:ZB)[3]'(Zb 4)).toNat:Int))=true:=by
  rw[bne_iff_ne];exact hne
 go_enter func119,ntmps119
 go_wp2_with (go_at_call 155;refine Zc CV.out ?_)
 go_step3
 go_wp2
 go_loopw [9] (λv9 wr=>v9=I 3/\wr=w) (λ_ _=>0)
 case atStart=>exact⟨rfl,rfl⟩
 case round=>
  obtain⟨rfl,rfl⟩:=hrel;go_wp2
  go_step3
  go_wp2
  go_region
  go_wp2;go_region_with (go_at_call 154;refine(ZE5 _ _ _).mono ?_;rintro e w9 ⟨he9,h9⟩;have e9:e=.returned (I (-1)):=he9.trans (by rw[Zbz _ _ (by decide) (by rw[ZbO];exact hb)]);rw[e9,h9];clear he9 e9 h9)
  all_goals (go_wp2;rw[ZEq];go_ret;exact⟨rfl,(((Ze _ _).drew).drew)⟩)
theorem Zzp(c:Int)(w:World)(h:128<=c)(hc:chB c=true):Calls prog 119 #[.string ⟨#[46,92,63,42,43,123,125,40,41,124,91,93]⟩,.int .i32 c] w (Zbn w):=by
 have h2:=Zbl hc;by_cases he:c=65533
 ·subst he;exact ZAe w
 ·have hv:Lib.validRune c=true:=by unfold Lib.validRune;simp;omega
  rcases Zgk c h hv with ⟨a,b,hN,hb⟩|⟨a,b,d,hN,hb⟩|⟨a,b,d,f,hN,hb⟩
  ·exact Zvb c w h (by omega) hv he a b hN hb
  ·exact ZtM c w h (by omega) hv he a b d hN hb
  ·exact Zux c w h (by omega) hv he a b d f hN hb
theorem Zxq{c:Int}(h:128<=c):isS sgO c=false:=by
 unfold isS sgO;simp;omega
theorem ZwN(c:Int)(h0:0<=c)(h1:c<128):decide (0<=Lib.indexByte sgO c.toNat.toUInt8)=isS sgO c:=by
 obtain⟨k,rfl⟩:∃k:Nat,c=k:=⟨c.toNat,by omega⟩;have hk:k<128:=by omega
 have hall:∀k:Fin 128,decide (0<=Lib.indexByte sgO ((k.val:Int)).toNat.toUInt8)=isS sgO (k.val:Int):=by decide +kernel
 exact hall ⟨k,hk⟩
theorem Zy0(c:Int)(w:World)(hc:chB c=true):Calls prog 303 #[I c,.string ⟨#[46,92,63,42,43,123,125,40,41,124,91,93]⟩] w λe w'=>e=.returned (.bool (isS sgO c))/\ZL w w':=by
 have h2:=Zbl hc;have hw:IntKind.i32.wrap c=c:=by rw[IntKind.wrap_i32];omega
 by_cases h:c<128
 ·have C:=J (ZEZ ⟨#[46,92,63,42,43,123,125,40,41,124,91,93]⟩ c w (by omega) h);rw[show(⟨#[46,92,63,42,43,123,125,40,41,124,91,93]⟩:ZB).data.toList=sgO from rfl,ZwN c (by omega) h]at C;go_enter func303,ntmps303
  go_wp2_with (go_at_call 72;refine Zc C.out ?_)
  go_ret;exact⟨rfl,Ze _ _⟩
 ·have HS:=J (Zxq (c:=c) (by omega));have C:=J (Zzp c w (by omega) hc);have CR:Hid (Calls prog 72 #[.string ⟨#[46,92,63,42,43,123,125,40,41,124,91,93]⟩,.int .i32 c] w λe w'=>e=.returned (.bool false)/\ZL w w'):=J (by
   go_enter func72,ntmps72
   go_wp2_with (go_at_call 119;refine ZM C.out ?_;rintro w2 hb2;have HB:=J hb2;clear hb2)
   go_ret;exact⟨rfl,HB.out⟩)
  go_enter func303,ntmps303
  go_wp2_with (go_at_call 72;refine ZM CR.out ?_;rintro w2 hb2;have HB:=J hb2;clear hb2)
  go_ret;exact⟨Zo HS.out.symm,HB.out⟩
theorem Zni:∀l:List UInt8,Zw (l.dropWhile (·==48))=Zw l
 |[]=>rfl
 |c::l=>by
  by_cases h:c=48
  ·subst h;have e:(List.dropWhile (·==(48:UInt8)) (48::l))=List.dropWhile (·==48) l:=by simp[List.dropWhile_cons]
   rw[e,Zni l,Zb1,show dgt 48=0 from rfl];omega
  ·have e:(List.dropWhile (·==(48:UInt8)) (c::l))=c::l:=by simp[List.dropWhile_cons,h]
   rw[e]
theorem ZhT:∀l:List UInt8,Zev (l.dropWhile (·==48))
 |[]=>λc l h=>by simp at h
 |c::l=>by
  by_cases h:c=48
  ·subst h;have e:(List.dropWhile (·==(48:UInt8)) (48::l))=List.dropWhile (·==48) l:=by simp[List.dropWhile_cons]
   rw[e];exact ZhT l
  ·have e:(List.dropWhile (·==(48:UInt8)) (c::l))=c::l:=by simp[List.dropWhile_cons,h]
   rw[e];intro d m hd;have:d=c:=(List.cons.inj hd).1.symm;subst this;intro hc;exact h (UInt8.toNat_inj.1 hc)
theorem ZxP(t:ZB)(w:World)(hd:dgL t.data.toList):
  Calls prog 201 #[.string t,.string ⟨#[48]⟩] w λe w'=>∃u:ZB,u.size<=t.size/\Hid (dgL u.data.toList)/\Hid (Zw u.data.toList=Zw t.data.toList)/\Hid (Zev u.data.toList)/\e=.returned (.string u)/\w'=w:=by
 refine(ZE8 t 48 (by decide) w).mono λe w' ⟨he,hw⟩=>?_
 have hs:(Lib.trimLeftB t.data.toList 48).Sublist t.data.toList:=List.dropWhile_sublist _;refine⟨⟨(Lib.trimLeftB t.data.toList 48).toArray⟩,?_,J (λc hc=>hd c (hs.subset (by simpa using hc))),J (Zni t.data.toList),J (ZhT t.data.toList),he,hw⟩;have h1:=hs.length_le;have h2:t.data.toList.length=t.size:=by simp
 have h3:(⟨(Lib.trimLeftB t.data.toList 48).toArray⟩:ZB).size=(Lib.trimLeftB t.data.toList 48).length:=by show(Lib.trimLeftB t.data.toList 48).toArray.size=_;simp only[List.size_toArray]
 omega
def Zmu(t:ZB):Bool:=Lib.hasSuffix t.data.toList [48]
theorem ZoF(t:ZB)(h:t.size=0):Zmu t=false:=by
 have e:t.data.toList=[]:=by apply List.length_eq_zero_iff.1;simpa using h
 rw[Zmu,e];rfl
theorem ZiG(t:ZB)(h:0<t.size):Zmu t=decide ((t[t.size-1].toNat:Int)=48):=by
 have e:=Zf2 t h;rw[Zmu,Lib.hasSuffix,Bool.eq_iff_iff,List.isSuffixOf_iff_suffix,Z6];constructor
 ·rintro ⟨u,hu⟩;rw[e]at hu;have:=(List.append_inj' hu rfl).2;have h2:(48:UInt8)=t[t.size-1]:=by simpa using this
  rw[<-h2];rfl
 ·intro hz;refine⟨t.data.toList.take (t.size-1),?_⟩;have h2:(48:UInt8)=t[t.size-1]:=UInt8.toNat_inj.1 (by show(48:Nat)=_;omega)
  conv=>rhs;rw[e]
  rw[<-h2]
theorem ZrD(t:ZB)(w:World)(hs:t.size<=400):Calls prog 202 #[.string t,.string ⟨#[48]⟩] w λe w'=>e=.returned (.bool (Zmu t))/\w'=w:=
 ZE4 t ⟨#[48]⟩ w (by omega)
theorem ZxZ(t:ZB)(w:World)(hs:t.size<=400)(h0:0<t.size)(hz:Zmu t=true):Calls prog 203 #[.string t,.string ⟨#[48]⟩] w λe w'=>e=.returned (.string (t.extract 0 (t.size-1)))/\w'=w:=by
 refine(ZFa t ⟨#[48]⟩ w (by omega)).mono λe w' ⟨he,hw⟩=>⟨?_,hw⟩
 rw[he];have hl:t.data.toList.length=t.size:=by simp
 have e:(⟨(Lib.trimSuffix t.data.toList (⟨#[48]⟩:ZB).data.toList).toArray⟩:ZB)=t.extract 0 (t.size-1):=by
  apply Zdf;have e2:Lib.trimSuffix t.data.toList (⟨#[48]⟩:ZB).data.toList=t.data.toList.take (t.data.toList.length-1):=Zd hz;rw[ZaQ,e2,hl];simp
 rw[e]
theorem ZoY(t:ZB)(h0:0<t.size)(hn:Zev t.data.toList):Zev (t.extract 0 (t.size-1)).data.toList:=by
 have e:=Zf2 t h0;intro c l hc;have e1:(t.extract 0 (t.size-1)).data.toList=t.data.toList.take (t.size-1):=by rw[ZaQ];simp
 rw[e1]at hc;exact hn c (l++[t[t.size-1]]) (by rw[e,hc];rfl)
theorem Zss(n:Bool)(t:ZB)(c:Int)(w:World)(ht:t.size<=400)(hd:dgL t.data.toList)(hc0:0<=c)(hc1:c<=200):
  Calls prog 163 #[.bool n,.string t,I c] w λe w'=>e=.returned (Zil (Za5 n (Zw t.data.toList) c.toNat))/\ZL w w':=by
 obtain⟨v,hv⟩:=ZX (Zw t.data.toList);obtain⟨q,hq⟩:=ZX c.toNat;obtain⟨R,hR⟩:=ZX (Za5 n v q);rw[hv,hq,hR];have HV:=J hv;have HQ:=J hq;have HR:=J hR;have HD:=J hd;clear hv hq hR hd;go_enter func163,ntmps163
 go_wp2_with fail
 refine(ZxP t _ HD.out).mono ?_;rintro e w1 ⟨x,hx,HDX,HVX,HNX,rfl,rfl⟩;have hx4:x.size<=400:=by omega
 go_wp2
 go_loop [1,2] (λvt vc=>∃(u:ZB) (k:Nat),vt=.string u/\vc=I k/\u.size<=400/\k<=200/\Hid (dgL u.data.toList)/\Hid (Z7 (Zw u.data.toList) k=Z7 v q)/\Hid (Zev u.data.toList)) (λ_ vc=>(Zi vc).toNat)
 case atStart=>exact⟨x,c.toNat,rfl,by rw[show((c.toNat:Nat):Int)=c by omega],hx4,by omega,HDX,J (by rw[HVX.out,HV.out,HQ.out]),HNX⟩
 case round=>
  clear HD HV HQ HDX HVX HNX hx hx4;obtain⟨u,k,rfl,rfl,hu,hk,HDu,HVu,HNu⟩:=hrel;rcases(show k=0\/0<k by omega) with hk0|hk0
  ·subst hk0;have HLu:Hid (0=0\/u.size=0\/∀a b,u.data.toList=a++[b]->b.toNat≠48):=J (.inl rfl);rcases(show u.size=0\/0<u.size by omega) with hu0|hu0
   ·have HRE:Hid (R=(false,ByteArray.empty,0,true)):=J (HR.out.symm.trans (Zgb (ZbT n u 0 v q HDu.out HNu.out HLu.out HVu.out) hu0));have:=Zbb u hu0;subst this;have HC:=J (Zz w (.cells #[.bool false,.string ⟨#[]⟩,I 0] 136));go_wp2_with (fail)
    exact bodyPost_ret (v:=.tuple #[.agg #[.bool false,.string ⟨#[]⟩,I 0],.bool true]) (by simp[results,results163,go_sem]) rfl ⟨by rw[HRE.out];rfl,(Ze _ _).alloc (Zb _) _⟩
   ·have hue:=ZcC u hu0;have HF:=J (ZbT n u 0 v q HDu.out HNu.out HLu.out HVu.out);go_wp2_with (first|fail|fail)
    refine ZM (ZbZ n u 0 _ (by unfold maxLen;omega)) ?_;rintro w1 hb1;obtain⟨hx1,hx2,hbb⟩:=Za6 hb1;obtain⟨f0,f1,f2⟩:=Zcv hb1;have HB:=J hbb;obtain⟨a0,a1,a2,a3⟩:=hx1;obtain⟨b0,b1,b2,b3⟩:=hx2;have HC:=J (Zb8 hb1 (.bool false) (.string ⟨#[]⟩) (I 0));have HC2:=J (Zb8 hb1 (.bool n) (.string u) (I (0:Int)));clear hb1 hbb;cases hdb:ZP n u (0:Int)
    ·have HRE:Hid (R=(false,ByteArray.empty,0,false)):=J (HR.out.symm.trans (ZkR HF.out (by omega) hdb));go_wp2;obtain⟨c0,c1,c2⟩:=HC.out;exact bodyPost_ret (v:=ZJ) (by simp[ZJ,results,results163,go_sem,c0,c1,c2]) rfl ⟨by rw[HRE.out];rfl,Zat HB.out _ _ _⟩
    ·have HRE:Hid (R=(n,u,(0:Int),true)):=J (HR.out.symm.trans (ZhX HF.out (by omega) hdb));go_wp2;obtain⟨c0,c1,c2⟩:=HC2.out;exact bodyPost_ret (v:=.tuple #[.agg #[.bool n,.string u,I (0:Int)],.bool true]) (by simp[results,results163,go_sem,c0,c1,c2]) rfl ⟨by rw[HRE.out];rfl,Zat HB.out _ _ _⟩
  ·have hkk:(0:Int)<(k:Int):=by omega
   cases hz:Zmu u
   ·have HLu:Hid (k=0\/u.size=0\/∀a b,u.data.toList=a++[b]->b.toNat≠48):=J (by
     rcases(show u.size=0\/0<u.size by omega) with h|h
     ·exact .inr (.inl h)
     ·refine .inr (.inr (Zms u h ?_));rw[ZiG u h]at hz;simpa using hz)
    rcases(show u.size=0\/0<u.size by omega) with hu0|hu0
    ·have HRE:Hid (R=(false,ByteArray.empty,0,true)):=J (HR.out.symm.trans (Zgb (ZbT n u k v q HDu.out HNu.out HLu.out HVu.out) hu0));have:=Zbb u hu0;subst this;have HC:=J (Zz w (.cells #[.bool false,.string ⟨#[]⟩,I 0] 136));go_wp2_with ((go_at_call 202;refine Zc (ZrD _ _ hu) ?_))
     exact bodyPost_ret (v:=.tuple #[.agg #[.bool false,.string ⟨#[]⟩,I 0],.bool true]) (by simp[results,results163,go_sem]) rfl ⟨by rw[HRE.out];rfl,(Ze _ _).alloc (Zb _) _⟩
    ·have hue:=ZcC u hu0;have HF:=J (ZbT n u k v q HDu.out HNu.out HLu.out HVu.out);go_wp2_with (first|(go_at_call 202;refine Zc (ZrD _ _ hu) ?_)|fail)
     refine ZM (ZbZ n u k _ (by unfold maxLen;omega)) ?_;rintro w1 hb1;obtain⟨hx1,hx2,hbb⟩:=Za6 hb1;obtain⟨f0,f1,f2⟩:=Zcv hb1;have HB:=J hbb;obtain⟨a0,a1,a2,a3⟩:=hx1;obtain⟨b0,b1,b2,b3⟩:=hx2;have HC:=J (Zb8 hb1 (.bool false) (.string ⟨#[]⟩) (I 0));have HC2:=J (Zb8 hb1 (.bool n) (.string u) (I (k:Int)));clear hb1 hbb;cases hdb:ZP n u (k:Int)
     ·have HRE:Hid (R=(false,ByteArray.empty,0,false)):=J (HR.out.symm.trans (ZkR HF.out (by omega) hdb));go_wp2;obtain⟨c0,c1,c2⟩:=HC.out;exact bodyPost_ret (v:=ZJ) (by simp[ZJ,results,results163,go_sem,c0,c1,c2]) rfl ⟨by rw[HRE.out];rfl,Zat HB.out _ _ _⟩
     ·have HRE:Hid (R=(n,u,(k:Int),true)):=J (HR.out.symm.trans (ZhX HF.out (by omega) hdb));go_wp2;obtain⟨c0,c1,c2⟩:=HC2.out;exact bodyPost_ret (v:=.tuple #[.agg #[.bool n,.string u,I (k:Int)],.bool true]) (by simp[results,results163,go_sem,c0,c1,c2]) rfl ⟨by rw[HRE.out];rfl,Zat HB.out _ _ _⟩
   ·have hu0:0<u.size:=by
     rcases(show u.size=0\/0<u.size by omega) with h|h
     ·rw[ZoF u h]at hz;simp at hz
     ·exact h
    have hz2:(u[u.size-1].toNat:Int)=48:=by
     have:=hz;rw[ZiG u hu0]at this;simpa using this
    obtain⟨g1,g2⟩:=Zm8 u k v q hu0 hk0 HDu.out hz2 HVu.out;have G1:=J g1;have G2:=J g2;have G3:=J (ZoY u hu0 HNu.out);have HZ:=J hz;clear g1 g2 hz2;go_wp2_with (first|(go_at_call 202;refine Zc (ZrD _ _ hu) ?_)|(go_at_call 203;refine Zc (ZxZ _ _ hu hu0 HZ.out) ?_))
    go_round
    case rel=>exact⟨_,k-1,rfl,by go_num,by simp;omega,by omega,G1,G2,G3⟩
    case measure=>simp[Zi];omega
end
end Go.Proofs.YtcdnilpdohknfaaGreatDoor
