import Derived.Test.YtcdnilpdohknfaaGreatDoorJ11
import Derived.Deep.RegionLaw
set_option linter.unusedVariables false
set_option linter.unusedSimpArgs false
set_option maxRecDepth 100000
set_option maxHeartbeats 16000000
namespace Go.Proofs.YtcdnilpdohknfaaGreatDoor
open Tryz
section
open Go.RowKit
theorem Zj6:(prog.info? 9).map (λi=>(i.zero,i.size,i.bytes))=some (some (.string ByteArray.empty),1,16):=by kernel_rfl
theorem ZoW(ts:List (List UInt8))(t sep:List UInt8):Lib.join (ts++[t]) sep=if ts=[] then t else Lib.join ts sep++sep++t:=by
 match ts with
 |[]=>rw[Zd rfl];exact Lib.join_one t sep
 |x::r=>
  rw[Za (by simp),List.cons_append,Lib.join_cons,Lib.join_cons];unfold Lib.joinTail;simp
def Zip:List (List UInt8)->Nat
 |[]=>0
 |t::ts=>t.length+1+Zip ts
theorem Zgd(sep:List UInt8)(hs:sep.length=1):∀ts:List (List UInt8),(Lib.join ts sep).length<=Zip ts
 |[]=>by simp[Lib.join_nil,Zip]
 |[t]=>by rw[Lib.join_one];simp[Zip]
 |t::u::ts=>by
  have ih:=Zgd sep hs (u::ts);rw[Lib.join_cons]at ih ⊢;simp only[Lib.joinTail,List.map_cons,List.flatten_cons,ZDz,Zip]at ih ⊢;omega
theorem Zou:∀(l cur:List UInt8),Zip (wdB cur l)<=cur.length+l.length+1
 |[],cur=>by
  unfold wdB;by_cases h:cur=[]
  ·rw[Zd h];simp[Zip]
  ·rw[Za h];simp[Zip]
 |c::l,cur=>by
  rw[wdB];by_cases hb:blB c=true
  ·rw[Zd hb];have ih:=Zou l [];simp only[List.length_nil,ZDB]at ih ⊢;by_cases h:cur=[]
   ·rw[Zd h];omega
   ·rw[Za h];simp only[Zip];omega
  ·rw[Za hb];have ih:=Zou l (cur++[c]);simp only[ZDz,ZDB,List.length_nil]at ih ⊢;omega
theorem ZhC:∀(l:List (List UInt8)) (m:Nat),Zip (l.take m)<=Zip l
 |[],m=>by simp
 |t::l,0=>by simp[Zip]
 |t::l,m+1=>by
  have:=ZhC l m;rw[List.take_succ_cons];simp only[Zip];omega
theorem ZoE(sep:List UInt8)(ts:List (List UInt8))(m:Nat)(h:m<ts.length):Lib.join (ts.take (m+1)) sep=(if m=0 then [] else Lib.join (ts.take m) sep++sep)++ts[m]:=by
 rw[List.take_succ_eq_append_getElem h,ZoW];by_cases e:m=0
 ·subst e;simp
 ·rw[Za (by intro h9;rw[List.take_eq_nil_iff]at h9;rcases h9 with h9|h9;exact e h9;rw[h9]at h;simp at h),Za e]
def wsV(W:List (List UInt8)):List Value:=W.map λx => .string ⟨x.toArray⟩
theorem Zs7(W:List (List UInt8))(C:ZB):wsV W++[.string C]=wsV (W++[C.data.toList]):=by
 unfold wsV;rw[List.map_append];simp
def Zl5(s:ZB)(w wr:World)(k:Nat)(C:ZB)(m:Nat)(ad:Option Addr)(c:Nat):Prop:=
 ∃W:List (List UInt8),W.length=m/\((k<=s.size/\W++wdB C.data.toList (s.data.toList.drop k)=wdB [] s.data.toList)\/(k=s.size+1/\W=wdB [] s.data.toList))/\C.size<=k/\m<=k/\wr.ownsRow w.heap.size 9 1 (.slice ad m c) m (wsV W)/\ZL w wr
theorem ZuR(s:ZB)(w:World):Zl5 s w (w.alloc (.cells #[] 9)) 0 ⟨#[]⟩ 0 (some ⟨w.heap.size,0,none⟩) 0:=
 ⟨[],rfl,.inl ⟨Zx _,rfl⟩,Zx _,Zx _,World.ownsRow_made (base:=w.heap.size) (e:=9) (size:=1) w #[] 0 (Zb _) (Zx _) rfl,(Ze _ _).alloc (Zb _) _⟩
section
variable {s:ZB} {w wr:World} {k:Nat} {C:ZB} {m:Nat} {ad:Option Addr} {c:Nat}
theorem ZjY(h:k<s.size):s.data.toList.drop k=s[k]::s.data.toList.drop (k+1):=by
 have hl:k<s.data.toList.length:=by simpa using h
 rw[List.drop_eq_getElem_cons hl];rfl
theorem ZxN(h:Zl5 s w wr k C m ad c)(hk:k<s.size)(hc:blB s[k]=false):Zl5 s w wr (k+1) (C++s.extract k (k+1)) m ad c:=by
 obtain⟨W,h1,h2,h3,h4,h5,h6⟩:=h;have e:(C++s.extract k (k+1)).data.toList=C.data.toList++[s[k]]:=by
  have e1:(s.extract k (k+1)).data.toList=[s[k]]:=by
   rw[Lib.extract_data,ZjY hk];simp
  have e2:(C++s.extract k (k+1)).data.toList=C.data.toList++(s.extract k (k+1)).data.toList:=by simp[ByteArray.data_append]
  rw[e2,e1]
 refine⟨W,h1,.inl ⟨by omega,?_⟩,?_,by omega,h5,h6⟩
 ·rcases h2 with ⟨-,h2⟩|⟨h2,-⟩
  ·rw[e,<-h2,ZjY hk,wdB,Za (by rw[hc];simp)]
  ·omega
 ·have h8:=Z5 (a:=C) (b:=s.extract k (k+1));have h9:=ByteArray.size_extract (a:=s) (b:=k) (e:=k+1);omega
theorem Zvt(he:(∃h:k<s.size,blB s[k]=true)\/k=s.size)(W:List (List UInt8))(cur:List UInt8)
  (h2:(k<=s.size/\W++wdB cur (s.data.toList.drop k)=wdB [] s.data.toList)\/(k=s.size+1/\W=wdB [] s.data.toList)) (W':List (List UInt8)) (hW:W'=if cur=[] then W else W++[cur]):
  (k+1<=s.size/\W'++wdB [] (s.data.toList.drop (k+1))=wdB [] s.data.toList)\/(k+1=s.size+1/\W'=wdB [] s.data.toList):=by
 rcases he with ⟨h,hc⟩|rfl
 ·left;rcases h2 with ⟨-,h2⟩|⟨h2,-⟩
  ·refine⟨by omega,?_⟩;rw[<-h2,ZjY h,wdB,Zd hc,hW];by_cases e:cur=[]
   ·rw[Zd e,Zd e]
   ·rw[Za e,Za e];simp
  ·omega
 ·right;refine⟨rfl,?_⟩;rcases h2 with ⟨-,h2⟩|⟨h2,-⟩
  ·rw[List.drop_of_length_le (by simp)]at h2;rw[<-h2,hW];unfold wdB;by_cases e:cur=[]
   ·rw[Zd e,Zd e];simp
   ·rw[Za e,Za e]
  ·omega
theorem Zve(h:Zl5 s w wr k C m ad c)(he:(∃h:k<s.size,blB s[k]=true)\/k=s.size)(hC:C.data.toList=[]):Zl5 s w wr (k+1) ⟨#[]⟩ m ad c:=by
 obtain⟨W,h1,h2,h3,h4,h5,h6⟩:=h;exact⟨W,h1,Zvt he W _ h2 W (by rw[Zd hC]),Zx _,by omega,h5,h6⟩
theorem ZvW{wr2:World}{ad2:Option Addr}{c2:Nat}{W:List (List UInt8)}(h1:W.length=m)
  (h2:(k<=s.size/\W++wdB C.data.toList (s.data.toList.drop k)=wdB [] s.data.toList)\/(k=s.size+1/\W=wdB [] s.data.toList)) (h4:m<=k)
  (he:(∃h:k<s.size,blB s[k]=true)\/k=s.size) (hC:C.data.toList≠[]) (ho:wr2.ownsRow w.heap.size 9 1 (.slice ad2 (m+1) c2) (m+1) (wsV W++[.string C])) (hb:ZL w wr2):
  Zl5 s w wr2 (k+1) ⟨#[]⟩ (m+1) ad2 c2:=by
 refine⟨W++[C.data.toList],by simp[h1],Zvt he W _ h2 _ (by rw[Za hC]),Zx _,by omega,?_,hb⟩;rw[<-Zs7];exact ho
end
def ZAw(s:ZB)(w:World)(e:Ending)(w':World):Prop:=∃ad c,e=.returned (.slice ad (wdB [] s.data.toList).length c)/\w'.ownsRow w.heap.size 9 1 (.slice ad (wdB [] s.data.toList).length c) (wdB [] s.data.toList).length (wsV (wdB [] s.data.toList))/\ZL w w'
theorem Zji(C:ZB):C.toList.isEmpty=true↔C.data.toList=[]:=by
 rw[ZEr];simp
theorem Zmk(s:ZB)(w:World)(hs:s.size<=1048576):Calls prog 57 #[.string s] w (ZAw s w):=by
 obtain⟨i0,hi,hz0,hz1,hz2⟩:=info_parts Zj6;have hnot:∀(x:Bool) (w:World),(Op.unary .not (.bool x)).run prog w=.ok (.bool (!x)) w:=λ_ _=>rfl
 go_enter func57,ntmps57
 go_wp2
 go_loopw [3,4,5] (λv nm iv wr=>∃(k m:Nat) (C:ZB) (ad:Option Addr) (c:Nat),k<=s.size+1/\iv=I k/\nm=.string C/\v=.slice ad m c/\Zl5 s w wr k C m ad c) (λ_ _ iv _=>s.size+1-(Zi iv).toNat)
 case atStart=>exact⟨0,0,⟨#[]⟩,some ⟨w.heap.size,0,none⟩,0,Zx _,rfl,rfl,rfl,ZuR s w⟩
 case round=>
  obtain⟨k,m,C,ad,c,hk,rfl,rfl,rfl,hrel⟩:=hrel;have HR:=J hrel;obtain⟨W,h1,h2,h3,h4,h5,h6⟩:=hrel;have H1:=J h1;have H2:=J h2;have HO:=J h5;have HB:=J h6;have hsz:w.heap.size<=wr.heap.size:=h6.size;clear h1 h2 h5 h6;have hCm:C.size<=maxLen:=by unfold maxLen;omega
  by_cases hle:k<=s.size
  ·have hlei:(k:Int)<=(s.size:Int):=by omega
   have hk0:(0:Int)<=(k:Int):=by omega
   by_cases hlt:k<s.size
   ·have hlti:(k:Int)<(s.size:Int):=(by omega);have hk1:(k:Int)+1<=(s.size:Int):=(by omega);have hk5:(k:Int)<=k+1:=(by omega);have hk6:((k:Int)+1).toNat=k+1:=(by omega);have CB:=J (ZqT s[k] wr);obtain⟨b,hb⟩:=ZX (blB s[k]);have HBL:=J hb;rw[hb]at CB;clear hb;cases b
    ·have HM:=J (ZxN HR.out hlt HBL.out);go_wp2_with (go_at_call 101;refine Zc CB.out ?_)
     go_roundw
     case rel=>exact⟨k+1,m,_,ad,c,by omega,by go_num,rfl,rfl,HM.out⟩
     case measure=>simp[Zi];omega
    ·cases f2:C.toList.isEmpty
     ·have HC:Hid (C.data.toList≠[]):=J (λe=>by rw[(Zji C).2 e]at f2;cases f2);go_wp2_with (first|(go_at_call 101;refine Zc CB.out ?_)|(at_builtin;refine wpList_append_own _ rfl (.tmp 33) (.tmp 35) 31 rfl w.heap.size 9 i0 (.string ByteArray.empty) 1 16 underlying31 hi hz0 hz1 hz2 rfl (by decide) _ _ _ rfl (HO.out.alloc _) ⟨wr.heap.size,0,none⟩ 1 1 [.string C] rfl rfl (λj u hj=>Zf1 wr _ _ j u hj) (ZfN _) (by unfold maxLen;omega) (by omega) (by simp;omega) ?_;intro v2 w6 hown2 hgrow2 _;obtain⟨ad2,c2',hv2⟩:=Zdp hown2;rw[hv2]at hown2 ⊢;clear hv2;have HB6:=J (ZgO HB.out HO.out hgrow2);have HO6:=J hown2;clear hown2 hgrow2))
      go_roundw
      case rel=>exact⟨k+1,m+1,⟨#[]⟩,ad2,c2',by omega,by go_num,rfl,rfl,ZvW H1.out H2.out h4 (.inl ⟨hlt,HBL.out⟩) HC.out HO6.out HB6.out⟩
      case measure=>simp[Zi];omega
     ·have HM:=J (Zve HR.out (.inl ⟨hlt,HBL.out⟩) ((Zji C).1 f2));go_wp2_with (go_at_call 101;refine Zc CB.out ?_)
      go_roundw
      case rel=>exact⟨k+1,m,⟨#[]⟩,ad,c,by omega,by go_num,rfl,rfl,HM.out⟩
      case measure=>simp[Zi];omega
   ·have e:k=s.size:=(by omega);subst e;have hlti:¬(s.size:Int)<(s.size:Int):=(by omega);cases f2:C.toList.isEmpty
    ·have HC:Hid (C.data.toList≠[]):=J (λe=>by rw[(Zji C).2 e]at f2;cases f2);go_wp2_with (at_builtin;refine wpList_append_own _ rfl (.tmp 33) (.tmp 35) 31 rfl w.heap.size 9 i0 (.string ByteArray.empty) 1 16 underlying31 hi hz0 hz1 hz2 rfl (by decide) _ _ _ rfl (HO.out.alloc _) ⟨wr.heap.size,0,none⟩ 1 1 [.string C] rfl rfl (λj u hj=>Zf1 wr _ _ j u hj) (ZfN _) (by unfold maxLen;omega) (by omega) (by simp;omega) ?_;intro v2 w6 hown2 hgrow2 _;obtain⟨ad2,c2',hv2⟩:=Zdp hown2;rw[hv2]at hown2 ⊢;clear hv2;have HB6:=J (ZgO HB.out HO.out hgrow2);have HO6:=J hown2;clear hown2 hgrow2)
     go_roundw
     case rel=>exact⟨s.size+1,m+1,⟨#[]⟩,ad2,c2',by omega,by go_num,rfl,rfl,ZvW H1.out H2.out h4 (.inr rfl) HC.out HO6.out HB6.out⟩
     case measure=>simp[Zi]
    ·have HM:=J (Zve HR.out (.inr rfl) ((Zji C).1 f2));go_wp2
     go_roundw
     case rel=>exact⟨s.size+1,m,⟨#[]⟩,ad,c,by omega,by go_num,rfl,rfl,HM.out⟩
     case measure=>simp[Zi]
  ·have e:k=s.size+1:=by omega
   subst e;have hlei:¬((s.size+1:Nat):Int)<=(s.size:Int):=by omega
   go_wp2;go_ret;rcases H2.out with ⟨h2,-⟩|⟨-,h2⟩
   ·omega
   ·subst h2;refine⟨ad,c,?_,?_,HB.out⟩
    ·rw[H1.out];rfl
    ·rw[H1.out];exact HO.out
end
section
open Go.RowKit Go.Joins
section
variable (X:Rx) (k:Nat) (a:Option Addr) (c:Nat) (ad:Option Addr) (cp:Nat) (w:World)
theorem ZpD(hk:k<=120)(hr:ZdV w a k (tI X) (wtX X) w.heap.size)(h2:X.K k=3\/X.K k=4)(m:Nat)(hm:m+1<k)(hB:X.B k=(k:Int)-1)(hT:tI X (k-1)=(m:Int)+1)(hA:X.A k=m)(f z:Int)(hf:tI X m=f)(hz:min (wtX X m+wtX X (k-1)) 2001=z):
  Calls prog 224 #[.slice a k c,.agg #[I (X.K k),.bool (X.NT k),.slice ad (X.NR k) cp,I (X.A k),I (X.B k),I (X.MN k),I (X.MX k)]] w λe w'=>e=.returned (.tuple #[.agg #[I f,I z],.bool true])/\ZL w w':=by
 obtain⟨kd,hkd⟩:=ZX (X.K k);rw[hkd]at h2 ⊢;rw[hA,hB];obtain⟨b,off,rfl,hbs,hc⟩:=hr (by omega);obtain⟨c1,c2⟩:=hc (k-1) (by omega);obtain⟨c3,c4⟩:=hc m (by omega);have g1:=ZeQ X m;have g2:=Zi4 X m;have g3:=ZeQ X (k-1);have g4:=Zi4 X (k-1);obtain⟨x,hx⟩:=ZX (wtX X m);obtain⟨y,hy⟩:∃x,wtX X (k-1)=x:=⟨_,rfl⟩;rw[hf]at c3;rw[hT]at c1;rw[hx]at c4 g1 g2 hz;rw[hy]at c2 g3 g4 hz;have HZ:=J hz;have q2:decide ((k:Int)-1<1)=false:=by simp;omega
 have q3:(k:Int)-1<(k:Int):=by omega
 have q4:(0:Int)<=(k:Int)-1:=by omega
 have q10:(1:Int)<=(k:Int):=by omega
 have q5:((k:Int)-1).toNat=k-1:=by omega
 have q6:(m:Int)<(k:Int):=by omega
 have q7:(((m:Int)+1)==0)=false:=by simp;omega
 have q8:IntKind.i64.wrap ((m:Int)+1-1)=(m:Int):=by rw[ZY];omega
 have q9:IntKind.i64.wrap (x+y)=x+y:=by rw[ZY];omega
 clear hc hr hkd hf hT hx hy hz hA hB;rcases h2 with rfl|rfl
 all_goals
   go_enter func224,ntmps224
   go_wp2;go_big_quiet (fail)
   go_wp2
   go_region_held3 (λw'=>w'.cell? ⟨w.heap.size,3,none⟩=some (I (m:Int))/\w'.cell? ⟨b,off+m*2,none⟩=some (I f)/\w'.cell? ⟨b,off+m*2+1,none⟩=some (I x)/\w'.cell? ⟨b,off+(k-1)*2+1,none⟩=some (I y)) (first|assumption|(refine⟨?_,?_,?_,?_⟩<;>go_simp)) (first|(go_at_call 263;refine Zc (Zvp _ z _ HZ.out) ?_))
   all_goals
    go_wp2;exact bodyPost_ret (v:=.tuple #[.agg #[I f,I z],.bool true]) (by simp[results,results224,go_sem]) rfl ⟨rfl,ZfX _ _ _ _ _ _⟩
theorem Zqp(hk:k<=120)(h5:X.K k=5)(hno:k=0\/X.A k≠(k:Int)-1):
  Calls prog 224 #[.slice a k c,.agg #[I (X.K k),.bool (X.NT k),.slice ad (X.NR k) cp,I (X.A k),I (X.B k),I (X.MN k),I (X.MX k)]] w λe w'=>e=.returned (.tuple #[.agg #[I 0,I 0],.bool false])/\ZL w w':=by
 rw[h5];obtain⟨pa,hpa⟩:∃x,X.A k=x:=⟨_,rfl⟩;rw[hpa]at hno ⊢;clear h5 hpa;by_cases h0:k=0
 ·have q:(k:Int)-1<0:=by omega
  clear hno;go_enter func224,ntmps224
  go_wp2;exact bodyPost_ret (v:=.tuple #[.agg #[I 0,I 0],.bool false]) (by simp[results,results224,go_sem]) rfl ⟨rfl,((Ze _ _).alloc (Zb _) _).alloc (by simp) _⟩
 ·have q:¬(k:Int)-1<0:=by omega
  have p1:pa≠(k:Int)-1:=hno.resolve_left h0;have p1b:(pa != (k:Int)-1)=true:=by simpa using p1
  clear hno p1;go_enter func224,ntmps224
  go_wp2;exact bodyPost_ret (v:=.tuple #[.agg #[I 0,I 0],.bool false]) (by simp[results,results224,go_sem]) rfl ⟨rfl,((Ze _ _).alloc (Zb _) _).alloc (by simp) _⟩
theorem ZoB(hk:k<=120)(hr:ZdV w a k (tI X) (wtX X) w.heap.size)(h5:X.K k=5)(h0:1<=k)(hA:X.A k=(k:Int)-1)(hmn:0<=X.MN k/\X.MN k<=20/\X.MX k<=20/\-1<=X.MX k)(f z:Int)(hf:tI X (k-1)=f)(hz:min (wtX X (k-1)*muX X k) 2001=z):
  Calls prog 224 #[.slice a k c,.agg #[I (X.K k),.bool (X.NT k),.slice ad (X.NR k) cp,I (X.A k),I (X.B k),I (X.MN k),I (X.MX k)]] w λe w'=>e=.returned (.tuple #[.agg #[I f,I z],.bool true])/\ZL w w':=by
 rw[h5,hA];obtain⟨b,off,rfl,hbs,hc⟩:=hr (by omega);obtain⟨c1,c2⟩:=hc (k-1) (by omega);have g3:=ZeQ X (k-1);have g4:=Zi4 X (k-1);obtain⟨x,hx⟩:=ZX (wtX X (k-1));rw[hf]at c1;rw[hx]at c2 g3 g4 hz;obtain⟨mn,hmn'⟩:=ZX (X.MN k);obtain⟨mx,hmx'⟩:=ZX (X.MX k);have hmu:muX X k=max (max 1 (mn+1)) mx:=by unfold muX;rw[hmn',hmx']
 rw[hmn',hmx']at hmn ⊢;obtain⟨m0,m1,m2,m3⟩:=hmn;have e1:(if (1:Int)<mn+1 then mn+1 else 1)=mn+1:=by split<;>omega
 obtain⟨v,hv⟩:=ZX (if mn+1<mx then mx else mn+1);have hv1:max (max 1 (mn+1)) mx=v/\1<=v/\v<=21:=by rw[<-hv];split<;>omega
 have p0:=Int.mul_nonneg g3 (by omega:(0:Int)<=v);have p1:x*v<=2001*21:=Int.mul_le_mul g4 (by omega) (by omega) (by omega);rw[hmu,hv1.1]at hz;have hw1:IntKind.i64.wrap (mn+1)=mn+1:=by rw[ZY];omega
 have hw2:IntKind.i64.wrap (x*v)=x*v:=by rw[ZY];omega
 have HZ:=J hz;have q2:¬(k:Int)-1<0:=by omega
 have q3:(k:Int)-1<(k:Int):=by omega
 have q4:(0:Int)<=(k:Int)-1:=by omega
 have q10:(1:Int)<=(k:Int):=by omega
 have q5:((k:Int)-1).toNat=k-1:=by omega
 clear hc hr hf hx hz hA hmn' hmx' hmu hv1 h5;go_enter func224,ntmps224
 go_wp2
 go_region_held3 (λw'=>w'.cell? ⟨w.heap.size,5,none⟩=some (I mn)/\w'.cell? ⟨w.heap.size,6,none⟩=some (I mx)/\w'.cell? ⟨b,off+(k-1)*2,none⟩=some (I f)/\w'.cell? ⟨b,off+(k-1)*2+1,none⟩=some (I x)) (first|assumption|(refine⟨?_,?_,?_,?_⟩<;>go_simp)) (first|(go_at_call 263;refine Zc (Zvp _ z _ HZ.out) ?_))
 all_goals
  go_wp2;exact bodyPost_ret (v:=.tuple #[.agg #[I f,I z],.bool true]) (by simp[results,results224,go_sem]) rfl ⟨rfl,(((Ze _ _).alloc (Zb _) _).alloc (by simp) _).drew⟩
theorem Zoy(hk:k<=120)(h2:¬(X.K k=3\/X.K k=4))(h5:¬X.K k=5):
  Calls prog 224 #[.slice a k c,.agg #[I (X.K k),.bool (X.NT k),.slice ad (X.NR k) cp,I (X.A k),I (X.B k),I (X.MN k),I (X.MX k)]] w λe w'=>e=.returned (.tuple #[.agg #[I k,I 1],.bool true])/\ZL w w':=by
 obtain⟨kd,hkd⟩:=ZX (X.K k);rw[hkd]at h2 h5 ⊢;have n3:(kd==3)=false:=by simp;omega
 have n4:(kd==4)=false:=by simp;omega
 have n5:(kd==5)=false:=by simp;omega
 clear h2 h5 hkd;go_enter func224,ntmps224
 go_wp2;exact bodyPost_ret (v:=.tuple #[.agg #[I k,I 1],.bool true]) (by simp[results,results224,go_sem]) rfl ⟨rfl,((Ze _ _).alloc (Zb _) _).alloc (by simp) _⟩
end
section
variable (X:Rx) (k:Nat) (a:Option Addr) (c:Nat) (ad:Option Addr) (cp:Nat) (w:World)
theorem Zpb(hk:k<=120)(hr:ZdV w a k (tI X) (wtX X) w.heap.size)(hn:ZdO X k=true)(f:Nat)(h:trX X k=some f):
  Calls prog 224 #[.slice a k c,.agg #[I (X.K k),.bool (X.NT k),.slice ad (X.NR k) cp,I (X.A k),I (X.B k),I (X.MN k),I (X.MX k)]] w λe w'=>e=.returned (.tuple #[.agg #[I f,I (wtX X k)],.bool true])/\ZL w w':=by
 by_cases h2:X.K k=3\/X.K k=4
 ·have h2b:ZeA X.K k=true:=Zh h2;have ht:=h;unfold trX at ht;rw[Zh6 _ _ _ _ h2b]at ht;split at ht
  ·cases ht
  ·rename_i hnB;cases hr1:tr (ZeA X.K) (ZgD X.K) X.A X.B (k-1) with
   |none=>rw[hr1]at ht;cases ht
   |some q=>
    rw[hr1]at ht;dsimp only at ht;split at ht
    ·cases ht
    ·rename_i hcA;have hq:=Ziq _ _ _ _ hr1;have hw:=ZpU _ _ _ _ (muX X) h2b hnB hr1 hcA ht;exact ZpD X k a c ad cp w hk hr h2 (q-1) (by omega) (by omega) (by rw[Zfy (f:=q) hr1];omega) (by omega) f (wtX X k) (Zfy ht) hw.symm
 ·by_cases h5:X.K k=5
  ·have h2b:¬ZeA X.K k=true:=by unfold ZeA;simpa using h2
   have h5b:ZgD X.K k=true:=Zh h5;have ht:=h;unfold trX at ht;rw[Zh9 _ _ _ _ h2b h5b]at ht;split at ht
   ·cases ht
   ·rename_i hnA;have hw:=ZqA _ _ _ _ (muX X) h2b h5b hnA ht;exact ZoB X k a c ad cp w hk hr h5 (by omega) (by omega) (Zjz hn h5) f (wtX X k) (Zfy ht) hw.symm
  ·have h2b:¬ZeA X.K k=true:=by unfold ZeA;simpa using h2
   have h5b:¬ZgD X.K k=true:=by unfold ZgD;simpa using h5
   have hw:wtX X k=1:=ZlZ _ _ _ _ (muX X) h2b h5b;have ht:=h;unfold trX at ht;rw[Zic _ _ _ _ h2b h5b]at ht;obtain rfl:=Option.some.inj ht;rw[hw];exact Zoy X k a c ad cp w hk h2 h5
theorem Zo1(hk:k<=120)(hr:ZdV w a k (tI X) (wtX X) w.heap.size)(hs:∀j,j<k->(trX X j).isSome=true)(h:trX X k=none):
  Calls prog 224 #[.slice a k c,.agg #[I (X.K k),.bool (X.NT k),.slice ad (X.NR k) cp,I (X.A k),I (X.B k),I (X.MN k),I (X.MX k)]] w λe w'=>e=.returned (.tuple #[.agg #[I 0,I 0],.bool false])/\ZL w w':=by
 by_cases h2:X.K k=3\/X.K k=4
 ·have h2b:ZeA X.K k=true:=Zh h2;refine Zq3 X k a c ad cp w hk hr h2 ?_ ?_
  ·have ht:=h;unfold trX at ht;rw[Zh6 _ _ _ _ h2b]at ht;split at ht
   ·rename_i hnB;rcases hnB with e|e
    ·exact .inl (by omega)
    ·exact .inr (.inl e)
   ·rename_i hnB;cases hr1:tr (ZeA X.K) (ZgD X.K) X.A X.B (k-1) with
    |none=>
     have:=hs (k-1) (by omega);unfold trX at this;rw[hr1]at this;cases this
    |some q=>
     rw[hr1]at ht;dsimp only at ht;have hq:=Ziq _ _ _ _ hr1;have hT:tI X (k-1)=q:=Zfy hr1;split at ht
     ·rename_i hcA;rcases hcA with e|e
      ·exact .inr (.inr (.inl (by rw[hT];omega)))
      ·exact .inr (.inr (.inr (by rw[hT];exact e)))
     ·have:=hs (q-1) (by omega);unfold trX at this;rw[ht]at this;cases this
  ·intro h1;have hs1:=hs (k-1) (by omega);cases hr1:trX X (k-1) with
   |none=>rw[hr1]at hs1;cases hs1
   |some q=>
    have hq:=Ziq _ _ _ _ (show tr (ZeA X.K) (ZgD X.K) X.A X.B (k-1)=some q from hr1);rw[Zfy hr1];omega
 ·have h2b:¬ZeA X.K k=true:=by unfold ZeA;simpa using h2
  by_cases h5:X.K k=5
  ·have h5b:ZgD X.K k=true:=Zh h5;have ht:=h;unfold trX at ht;rw[Zh9 _ _ _ _ h2b h5b]at ht;split at ht
   ·rename_i hnA;exact Zqp X k a c ad cp w hk h5 hnA
   ·have:=hs (k-1) (by omega);unfold trX at this;rw[ht]at this;cases this
  ·have h5b:¬ZgD X.K k=true:=by unfold ZgD;simpa using h5
   have ht:=h;unfold trX at ht;rw[Zic _ _ _ _ h2b h5b]at ht;cases ht
end
theorem ZoL{w:World}{B:Nat}{e:TypeId}{v:Value}{n:Nat}{xs:List Value}(h:w.ownsRow B e 2 v n xs):∃ad cap,v=.slice ad n cap:=by
 rcases h.2 with ⟨hv,h0⟩|⟨g,cap,cur,hv,rest⟩
 ·exact⟨none,0,by rw[hv,h0]⟩
 ·exact⟨_,_,hv⟩
theorem ZtB{w:World}{B n c t:Nat}{ad:Option Addr}{xs:List Value}{L H:Nat->Int}(h:w.ownsRow B t 2 (.slice ad n c) n xs)(hp:Zp0 xs n L H):ZdV w ad n L H w.heap.size:=λh0=>by
 rcases h.2 with ⟨hv,h0'⟩|⟨g,cap,cur,hv,hB,hg,rest⟩
 ·omega
 ·simp only[ZDG]at hv;obtain⟨rfl,_,rfl⟩:=hv;refine⟨g,0,rfl,(h.lt g rfl).2,λj hj=>?_⟩;refine⟨?_,?_⟩
  ·rw[ZDE,h.cellAt (j*2) (by omega)];exact(hp j hj).1
  ·rw[ZDE,h.cellAt (j*2+1) (by omega)];exact(hp j hj).2
theorem ZoN{xs:List Value}{k:Nat}{L H:Nat->Int}{x y:Int}(h:Zp0 xs k L H)(hl:xs.length=k*2)(hx:L k=x)(hy:H k=y):Zp0 (xs++[I x,I y]) (k+1) L H:=by
 intro j hj;by_cases e:j=k
 ·subst e;refine⟨?_,?_⟩
  ·rw[List.getElem?_append_right (by omega),show j*2-xs.length=0 by omega,hx];rfl
  ·rw[List.getElem?_append_right (by omega),show j*2+1-xs.length=1 by omega,hy];rfl
 ·have hj':=h j (by omega);refine⟨?_,?_⟩
  ·rw[List.getElem?_append_left (by omega)];exact hj'.1
  ·rw[List.getElem?_append_left (by omega)];exact hj'.2
theorem ZwH(w:World)(x y:Int)(T:TypeId)(j:Nat)(u:Value)(hj:[I x,I y][j]?=some u):(w.alloc (.cells #[I x,I y] T)).cell? ((⟨w.heap.size,0,none⟩:Addr).add j)=some u:=by
 match j,hj with
 |0,hj=>simp at hj;subst hj;simp[Addr.add]
 |1,hj=>simp at hj;subst hj;simp[Addr.add]
theorem Zu0(x y:Int):∀u∈[I x,I y],u.oneCell'=true:=by
 intro u hu;simp at hu;rcases hu with rfl|rfl<;>rfl
end
section
open Go.RowKit
theorem ZBo(w:World):Calls prog 119 #[.string ⟨#[91,93,92,45,94]⟩,.int .i32 65533] w (Zbn w):=by
 go_enter func119,ntmps119
 go_wp2_with fail
 go_loopw [] (λwr=>∃pos:Nat,pos<=5/\Hid (wr.heap[w.heap.size]?=some (.stringIter ⟨#[91,93,92,45,94]⟩ pos))/\Hid (ZL w wr)) (λwr=>match wr.heap[w.heap.size]? with|some (.stringIter _ p)=>5-p|_=>0)
 case atStart=>exact⟨0,by omega,J (World.iter_heap w _ 0),J ((Ze _ _).alloc (Zb _) _)⟩
 case round=>
  obtain⟨pos,hp,HI,HB⟩:=hrel;by_cases hlt:pos<5
  ·have hlt':pos<(⟨#[91,93,92,45,94]⟩:ZB).size:=hlt;have ha:((⟨#[91,93,92,45,94]⟩:ZB)[pos]'hlt').toNat<128:=by
    rcases(show pos=0\/pos=1\/pos=2\/pos=3\/pos=4 by omega) with e|e|e|e|e<;>subst e<;>(first|(show _<_;decide)|exact ZDY rfl)
   have hnx:=λty=>Lib.run_next_ascii_at (P:=prog) wr w.heap.size ⟨#[91,93,92,45,94]⟩ pos ty HI.out hlt' ha
   obtain⟨x,hx⟩:∃x:Nat,((⟨#[91,93,92,45,94]⟩:ZB)[pos]'hlt').toNat=x:=⟨_,rfl⟩;rw[hx]at hnx ha;have e1:((x:Int)==65533)=false:=by
    have:¬(x:Int)=65533:=by omega
    simpa using this
   have HI2:=J (Lib.iterAt_heap wr w.heap.size _ pos (pos+1) HI.out);have HB2:=J (Lib.below_iterAt HB.out (k:=w.heap.size) (Zb _) ⟨#[91,93,92,45,94]⟩ (pos+1));clear hx;go_wp2
   go_roundw
   case rel=>exact⟨pos+1,by omega,HI2,HB2⟩
   case measure=>rw[HI2.out,HI.out];simp;omega
  ·have hnx:=λty=>Lib.run_next_end_at (P:=prog) wr w.heap.size ⟨#[91,93,92,45,94]⟩ pos ty HI.out (λh9=>hlt h9)
   go_wp2;go_ret;exact⟨rfl,HB.out⟩
theorem Ztm(r:Int)(w:World)(h:128<=r)(h2:r<=1114111)(hv:Lib.validRune r=true)(he:r≠65533)(a b:UInt8)(hN:Utf8.encode r=⟨#[a,b]⟩)(hb:128<=b.toNat):Calls prog 119 #[.string ⟨#[91,93,92,45,94]⟩,.int .i32 r] w (Zbn w):=by
 have CV:=J (ZFc r w);rw[hv]at CV;have hcv:=ZbP r;rw[hN]at hcv;have hnot:∀(x:Bool) (w:World),(Op.unary .not (.bool x)).run prog w=.ok (.bool (!x)) w:=λ_ _=>rfl
 have h0:(0:Int)<=r:=by omega
 have h1:¬r<128:=by omega
 have e1:(r==65533)=false:=by simpa using he
 have hne:(((⟨#[91,93,92,45,94]⟩:ZB)[1]'(by decide)).toNat:Int)≠(((⟨#[a,b]⟩:ZB)[1]'(Zb 2)).toNat:Int):=by
  have e1:((⟨#[91,93,92,45,94]⟩:ZB)[1]'(by decide)).toNat<128:=by decide
  have e2:128<=((⟨#[a,b]⟩:ZB)[1]'(Zb 2)).toNat:=hb;omega
 have hne2:((((⟨#[91,93,92,45,94]⟩:ZB)[1]'(by decide)).toNat:Int) != (((⟨#[a,b]⟩:ZB)[1]'(Zb 2)).toNat:Int))=true:=by
  rw[bne_iff_ne];exact hne
 go_enter func119,ntmps119
 go_wp2_with (go_at_call 155;refine Zc CV.out ?_)
 go_step3
 go_wp2
 go_loopw [9] (λv9 wr=>v9=I 1/\wr=w) (λ_ _=>0)
 case atStart=>exact⟨rfl,rfl⟩
 case round=>
  obtain⟨rfl,rfl⟩:=hrel;go_wp2
  go_step3
  go_wp2
  go_region
  go_wp2;go_region_with (go_at_call 154;refine(ZE5 _ _ _).mono ?_;rintro e w9 ⟨he9,h9⟩;have e9:e=.returned (I (-1)):=he9.trans (by rw[Zbz _ _ (by decide) (by rw[ZbO];exact hb)]);rw[e9,h9];clear he9 e9 h9)
  all_goals (go_wp2;rw[ZEq];go_ret;exact⟨rfl,(((Ze _ _).drew).drew)⟩)
theorem Zub(r:Int)(w:World)(h:128<=r)(h2:r<=1114111)(hv:Lib.validRune r=true)(he:r≠65533)(a b c:UInt8)(hN:Utf8.encode r=⟨#[a,b,c]⟩)(hb:128<=c.toNat):Calls prog 119 #[.string ⟨#[91,93,92,45,94]⟩,.int .i32 r] w (Zbn w):=by
 have CV:=J (ZFc r w);rw[hv]at CV;have hcv:=ZbP r;rw[hN]at hcv;have hnot:∀(x:Bool) (w:World),(Op.unary .not (.bool x)).run prog w=.ok (.bool (!x)) w:=λ_ _=>rfl
 have h0:(0:Int)<=r:=by omega
 have h1:¬r<128:=by omega
 have e1:(r==65533)=false:=by simpa using he
 have hne:(((⟨#[91,93,92,45,94]⟩:ZB)[2]'(by decide)).toNat:Int)≠(((⟨#[a,b,c]⟩:ZB)[2]'(Zb 3)).toNat:Int):=by
  have e1:((⟨#[91,93,92,45,94]⟩:ZB)[2]'(by decide)).toNat<128:=by decide
  have e2:128<=((⟨#[a,b,c]⟩:ZB)[2]'(Zb 3)).toNat:=hb;omega
 have hne2:((((⟨#[91,93,92,45,94]⟩:ZB)[2]'(by decide)).toNat:Int) != (((⟨#[a,b,c]⟩:ZB)[2]'(Zb 3)).toNat:Int))=true:=by
  rw[bne_iff_ne];exact hne
 go_enter func119,ntmps119
 go_wp2_with (go_at_call 155;refine Zc CV.out ?_)
 go_step3
 go_wp2
 go_loopw [9] (λv9 wr=>v9=I 2/\wr=w) (λ_ _=>0)
 case atStart=>exact⟨rfl,rfl⟩
 case round=>
  obtain⟨rfl,rfl⟩:=hrel;go_wp2
  go_step3
  go_wp2
  go_region
  go_wp2;go_region_with (go_at_call 154;refine(ZE5 _ _ _).mono ?_;rintro e w9 ⟨he9,h9⟩;have e9:e=.returned (I (-1)):=he9.trans (by rw[Zbz _ _ (by decide) (by rw[ZbO];exact hb)]);rw[e9,h9];clear he9 e9 h9)
  all_goals (go_wp2;rw[ZEq];go_ret;exact⟨rfl,(((Ze _ _).drew).drew)⟩)
theorem ZuX(r:Int)(w:World)(h:128<=r)(h2:r<=1114111)(hv:Lib.validRune r=true)(he:r≠65533)(a b c d:UInt8)(hN:Utf8.encode r=⟨#[a,b,c,d]⟩)(hb:128<=d.toNat):Calls prog 119 #[.string ⟨#[91,93,92,45,94]⟩,.int .i32 r] w (Zbn w):=by
 have CV:=J (ZFc r w);rw[hv]at CV;have hcv:=ZbP r;rw[hN]at hcv;have hnot:∀(x:Bool) (w:World),(Op.unary .not (.bool x)).run prog w=.ok (.bool (!x)) w:=λ_ _=>rfl
 have h0:(0:Int)<=r:=by omega
 have h1:¬r<128:=by omega
 have e1:(r==65533)=false:=by simpa using he
 have hne:(((⟨#[91,93,92,45,94]⟩:ZB)[3]'(by decide)).toNat:Int)≠(((⟨#[a,b,c,d]⟩:ZB)[3]'(Zb 4)).toNat:Int):=by
  have e1:((⟨#[91,93,92,45,94]⟩:ZB)[3]'(by decide)).toNat<128:=by decide
  have e2:128<=((⟨#[a,b,c,d]⟩:ZB)[3]'(Zb 4)).toNat:=hb;omega
 have hne2:((((⟨#[91,93,92,45,94]⟩:ZB)[3]'(by decide)).toNat:Int) != (((⟨#[a,b,c,d]⟩:ZB)[3]'(Zb 4)).toNat:Int))=true:=by
  rw[bne_iff_ne];exact hne
 go_enter func119,ntmps119
 go_wp2_with (go_at_call 155;refine Zc CV.out ?_)
 go_step3
 go_wp2
 go_loopw [9] (λv9 wr=>v9=I 3/\wr=w) (λ_ _=>0)
 case atStart=>exact⟨rfl,rfl⟩
 case round=>
  obtain⟨rfl,rfl⟩:=hrel;go_wp2
  go_step3
  go_wp2
  go_region
  go_wp2;go_region_with (go_at_call 154;refine(ZE5 _ _ _).mono ?_;rintro e w9 ⟨he9,h9⟩;have e9:e=.returned (I (-1)):=he9.trans (by rw[Zbz _ _ (by decide) (by rw[ZbO];exact hb)]);rw[e9,h9];clear he9 e9 h9)
  all_goals (go_wp2;rw[ZEq];go_ret;exact⟨rfl,(((Ze _ _).drew).drew)⟩)
theorem ZAK(c:Int)(w:World)(h:128<=c)(hc:chB c=true):Calls prog 119 #[.string ⟨#[91,93,92,45,94]⟩,.int .i32 c] w (Zbn w):=by
 have h2:=Zbl hc;by_cases he:c=65533
 ·subst he;exact ZBo w
 ·have hv:Lib.validRune c=true:=by unfold Lib.validRune;simp;omega
  rcases Zgk c h hv with ⟨a,b,hN,hb⟩|⟨a,b,d,hN,hb⟩|⟨a,b,d,f,hN,hb⟩
  ·exact Ztm c w h (by omega) hv he a b hN hb
  ·exact Zub c w h (by omega) hv he a b d hN hb
  ·exact ZuX c w h (by omega) hv he a b d f hN hb
theorem Zy8{c:Int}(h:128<=c):isS sgI c=false:=by
 unfold isS sgI;simp;omega
theorem Zys(c:Int)(h0:0<=c)(h1:c<128):decide (0<=Lib.indexByte sgI c.toNat.toUInt8)=isS sgI c:=by
 obtain⟨k,rfl⟩:∃k:Nat,c=k:=⟨c.toNat,by omega⟩;have hk:k<128:=by omega
 have hall:∀k:Fin 128,decide (0<=Lib.indexByte sgI ((k.val:Int)).toNat.toUInt8)=isS sgI (k.val:Int):=by decide +kernel
 exact hall ⟨k,hk⟩
theorem Zxj(c:Int)(w:World)(hc:chB c=true):Calls prog 303 #[I c,.string ⟨#[91,93,92,45,94]⟩] w λe w'=>e=.returned (.bool (isS sgI c))/\ZL w w':=by
 have h2:=Zbl hc;have hw:IntKind.i32.wrap c=c:=by rw[IntKind.wrap_i32];omega
 by_cases h:c<128
 ·have C:=J (ZEZ ⟨#[91,93,92,45,94]⟩ c w (by omega) h);rw[show(⟨#[91,93,92,45,94]⟩:ZB).data.toList=sgI from rfl,Zys c (by omega) h]at C;go_enter func303,ntmps303
  go_wp2_with (go_at_call 72;refine Zc C.out ?_)
  go_ret;exact⟨rfl,Ze _ _⟩
 ·have HS:=J (Zy8 (c:=c) (by omega));have C:=J (ZAK c w (by omega) hc);have CR:Hid (Calls prog 72 #[.string ⟨#[91,93,92,45,94]⟩,.int .i32 c] w λe w'=>e=.returned (.bool false)/\ZL w w'):=J (by
   go_enter func72,ntmps72
   go_wp2_with (go_at_call 119;refine ZM C.out ?_;rintro w2 hb2;have HB:=J hb2;clear hb2)
   go_ret;exact⟨rfl,HB.out⟩)
  go_enter func303,ntmps303
  go_wp2_with (go_at_call 72;refine ZM CR.out ?_;rintro w2 hb2;have HB:=J hb2;clear hb2)
  go_ret;exact⟨Zo HS.out.symm,HB.out⟩
def rdV(s:ZB):Value:=if ZH s=true then .tuple #[.agg #[I (f0 s),I (f1 s),I (f2 s),I (f3 s),I (f4 s),I (f5 s),.bool (zI (Zu s)).1,I (zI (Zu s)).2.1],.bool true] else .tuple #[.agg #[I 0,I 0,I 0,I 0,I 0,I 0,.bool false,I 0],.bool false]
theorem Zcc{s:ZB}(h:ZH s=false):rdV s=.tuple #[.agg #[I 0,I 0,I 0,I 0,I 0,I 0,.bool false,I 0],.bool false]:=by simp[rdV,h]
theorem ZjU(s:ZB)(w:World)(hs:s.size<=maxLen)(h:shB s p19=true):Calls prog 167 #[.string s,.string ⟨#[48,48,48,48,45,48,48,45,48,48,84,48,48,58,48,48,58,48,48]⟩] w λe w'=>e=.returned (.bool true)/\∃n,w'=w.drewN n:=by
 have q:=Zkq s p19 w hs (by decide);rw[h]at q;exact q
theorem Zm4(s:ZB)(w:World)(hs:s.size<=maxLen)(h:shB s p19=false):Calls prog 167 #[.string s,.string ⟨#[48,48,48,48,45,48,48,45,48,48,84,48,48,58,48,48,58,48,48]⟩] w λe w'=>e=.returned (.bool false)/\∃n,w'=w.drewN n:=by
 have q:=Zkq s p19 w hs (by decide);rw[h]at q;exact q
theorem ZxL(s:ZB):s.extract 0 s.size=s:=by
 apply ByteArray.ext;simp
def Zkr(w w1:World):Prop:=Zgl w1 w.heap.size 0 0 0 0 0 0 false 0/\ZL w w1
theorem Zhf{w w1:World}{T:TypeId}{n:Nat}(h:w1=(w.alloc (.cells #[I 0,I 0,I 0,I 0,I 0,I 0,.bool false,I 0] T)).drewN n):Zkr w w1:=by
 subst h;exact⟨Zds w 0 0 0 0 0 0 false 0 T,Zau (ZbU w _) n⟩
theorem Ze0{w w1 w2:World}(h:Zkr w w1)(k:ZL w1 w2):Zkr w w2:=⟨ZcQ h.1 k,Zp h.2 k⟩
theorem ZkJ{w w1 w2:World}{n:Nat}(h:Zkr w w1)(e:w2=w1.drewN n):Zkr w w2:=by
 subst e;exact Ze0 h ⟨rfl,rfl,rfl,Zb _,λ_ _=>rfl⟩
theorem Zhp{w w1:World}(h:Zkr w w1)(o:Obj):Zkr w (w1.drew.alloc o):=by
 have k:=ZbU w1.drew o;exact Ze0 h ⟨k.os,k.tape,k.output,k.size,k.block⟩
theorem ZmP{w w1:World}(h:Zkr w w1):Zkr w w1.drew:=Ze0 h ⟨rfl,rfl,rfl,Zb _,λ_ _=>rfl⟩
theorem ZdT{w w1:World}(h:Zkr w w1)(o:Obj):Zkr w (w1.alloc o):=Ze0 h (ZbU w1 o)
theorem ZjN{w w1:World}(h:Zkr w w1)(o:Obj):Zkr w (w1.alloc o).drew:=ZmP (ZdT h o)
theorem ZmQ(s:ZB)(w:World)(hs:s.size<=1048576)(ht:Zjk 3 w):Calls prog 125 #[.string s] w λe w'=>e=.returned (rdV s)/\ZL w w':=by
 have HT:=J ht;clear ht;by_cases hsz:s.size<19
 ·have HV:=J (Zcc (Znv hsz));have HSH:Hid (shB s p19=false):=J (Zjq (by have e2:p19.size=19:=rfl;omega));have HMX:Hid (s.size<=maxLen):=J (by unfold maxLen;omega);have hmn:min (s.size:Int) 19=(s.size:Int):=by omega
  go_enter func125,ntmps125
  go_wp2_with fail
  all_goals (try (exfalso;omega))
  refine ZM (Zm4 s _ HMX.out HSH.out) ?_;rintro w1 ⟨n,hw⟩;have HI:=J (Zhf hw);clear hw;obtain⟨⟨r0,r1,r2,r3,r4,r5,r6,r7⟩,f0,f1,f2,f3,f4,f5,f6,f7⟩:=Zai HI.out.1;have HZ:=J (Zai (Zbd HI.out.1 0 0 0 0 0 0 false 0)).1;go_wp2;obtain⟨q0,q1,q2,q3,q4,q5,q6,q7⟩:=HZ.out;exact bodyPost_ret (v:=ZK) (by simp[ZK,results,results125,go_sem,q0,q1,q2,q3,q4,q5,q6,q7]) rfl ⟨by rw[HV.out],Za2 HI.out.2 (Zb _) _ _ _ _ _ _ _ _⟩
 ·have h19:19<=s.size:=by omega
  have h19i:(19:Int)<=(s.size:Int):=by omega
  have HMX:Hid ((s.extract 0 19).size<=maxLen):=J (by rw[Zao s 0 19 (by omega)];unfold maxLen;omega);have HMS:Hid (s.size<=maxLen):=J (by unfold maxLen;omega);have hss:s.size=19\/19<s.size:=by omega
  have hmn:min (s.size:Int) 19=19:=by omega
  have HES:Hid (s.size=19->Zej s=s):=J (λq=>by rw[ZeJ h19,<-q];exact ZxL s);cases hsh:shB (Zej s) p19
  ·have HV:=J (Zcc (show ZH s=false by simp[ZH,hsh]));have HSH:=J hsh;clear hsh;have HS1:Hid (shB (s.extract 0 19) p19=false):=J (by rw[<-ZeJ h19];exact HSH.out);have HS2:Hid (s.size=19->shB s p19=false):=J (λq=>by have e:=HES.out q;have e2:=HSH.out;rw[e]at e2;exact e2);rcases hss with hss|hss
   all_goals
    go_enter func125,ntmps125
    go_wp2_with fail
    all_goals (try (exfalso;omega))
    all_goals
     first
      |(go_at_call_of 167 (Value.string (s.extract 0 19));refine(Zm4 (s.extract 0 19) _ HMX.out HS1.out).mono ?_)
      |refine(Zm4 s _ HMS.out (HS2.out (by omega))).mono ?_
     rintro e w1 ⟨rfl,n,hw⟩;have HI:=J (Zhf hw);clear hw;obtain⟨⟨r0,r1,r2,r3,r4,r5,r6,r7⟩,f0,f1,f2,f3,f4,f5,f6,f7⟩:=Zai HI.out.1;have HZ:=J (Zai (Zbd HI.out.1 0 0 0 0 0 0 false 0)).1;go_wp2;obtain⟨q0,q1,q2,q3,q4,q5,q6,q7⟩:=HZ.out;exact bodyPost_ret (v:=ZK) (by simp[ZK,results,results125,go_sem,q0,q1,q2,q3,q4,q5,q6,q7]) rfl ⟨by rw[HV.out],Za2 HI.out.2 (Zb _) _ _ _ _ _ _ _ _⟩
  ·have HDD:=J hsh;have hall:ZpK s=true:=by have q:=Zga h19;rw[hsh]at q;cases e:ZpK s with|true=>rfl|false=>rw[e]at q;simp at q
   simp only[ZpK,ZW]at hall;obtain⟨d0,d1,d2,d3,d4,d5⟩:=hall;obtain⟨x0,hx0⟩:∃x,s.extract 0 4=x:=⟨_,rfl⟩;rw[hx0]at d0;have HX0:Hid (x0.size<=4):=J (by rw[<-hx0,Zao s 0 4 (by omega)];omega);have HD0:=J d0;have EX0:=J hx0;obtain⟨x1,hx1⟩:∃x,s.extract 5 7=x:=⟨_,rfl⟩;rw[hx1]at d1;have HX1:Hid (x1.size<=4):=J (by rw[<-hx1,Zao s 5 7 (by omega)];omega);have HD1:=J d1;have EX1:=J hx1;obtain⟨x2,hx2⟩:∃x,s.extract 8 10=x:=⟨_,rfl⟩;rw[hx2]at d2;have HX2:Hid (x2.size<=4):=J (by rw[<-hx2,Zao s 8 10 (by omega)];omega);have HD2:=J d2;have EX2:=J hx2;obtain⟨x3,hx3⟩:∃x,s.extract 11 13=x:=⟨_,rfl⟩;rw[hx3]at d3;have HX3:Hid (x3.size<=4):=J (by rw[<-hx3,Zao s 11 13 (by omega)];omega);have HD3:=J d3;have EX3:=J hx3;obtain⟨x4,hx4⟩:∃x,s.extract 14 16=x:=⟨_,rfl⟩;rw[hx4]at d4;have HX4:Hid (x4.size<=4):=J (by rw[<-hx4,Zao s 14 16 (by omega)];omega);have HD4:=J d4;have EX4:=J hx4;obtain⟨x5,hx5⟩:∃x,s.extract 17 19=x:=⟨_,rfl⟩;rw[hx5]at d5;have HX5:Hid (x5.size<=4):=J (by rw[<-hx5,Zao s 17 19 (by omega)];omega);have HD5:=J d5;have EX5:=J hx5;obtain⟨t,htl⟩:=ZX (s.extract 19 s.size);have HTL:Hid (Zu s=t):=J htl;have hts:t.size<=1048576:=by rw[<-htl,Zao s 19 s.size (by omega)];omega
   obtain⟨R,hR⟩:=ZX (zI t);have ER:=J hR;obtain⟨g9,z9,o9⟩:=R;have HTS:=J hts;have e4:(4:Int)<=(s.size:Int):=by omega
   have e7:(7:Int)<=(s.size:Int):=by omega
   have e10:(10:Int)<=(s.size:Int):=by omega
   have e13:(13:Int)<=(s.size:Int):=by omega
   have e16:(16:Int)<=(s.size:Int):=by omega
   have HRD:Hid (ZH s=(o9&&Z8 (Zj x0) (Zj x1) (Zj x2) (Zj x3) (Zj x4) (Zj x5) g9 z9)):=J (by
    unfold ZH f0 f1 f2 f3 f4 f5;rw[HDD.out,HTL.out,ER.out,EX0.out,EX1.out,EX2.out,EX3.out,EX4.out,EX5.out];rfl)
   have HRV:Hid (ZH s=true->rdV s=.tuple #[.agg #[I (Zj x0),I (Zj x1),I (Zj x2),I (Zj x3),I (Zj x4),I (Zj x5),.bool g9,I z9],.bool true]):=J (λq=>by
    unfold rdV f0 f1 f2 f3 f4 f5;rw[Zd q,HTL.out,ER.out,EX0.out,EX1.out,EX2.out,EX3.out,EX4.out,EX5.out])
   have HSH:=J hsh;have HS1:Hid (shB (s.extract 0 19) p19=true):=J (by rw[<-ZeJ h19];exact HSH.out);have HS2:Hid (s.size=19->shB s p19=true):=J (λq=>by have e:=HES.out q;have e2:=HSH.out;rw[e]at e2;exact e2);clear hsh hR hts d0 d1 d2 d3 d4 d5;have HTT:Hid (s.extract 19 s.size=t):=J HTL.out;have HTE:Hid (s.size=19->t=ByteArray.empty):=J (λq=>ByteArray.size_eq_zero_iff.1 (by rw[<-htl,Zao s 19 s.size (by omega)];omega));rcases hss with hss|hss
   ·have hte:=HTE.out hss;subst hte;go_enter func125,ntmps125
    go_wp2_with fail
    all_goals (try (exfalso;omega))
    first
     |(go_at_call_of 167 (Value.string (s.extract 0 19));refine(ZjU (s.extract 0 19) _ HMX.out HS1.out).mono ?_)
     |refine(ZjU s _ HMS.out (HS2.out (by omega))).mono ?_
    rintro e w1 ⟨rfl,n,hw⟩;have HI:=J (Zhf hw);clear hw;go_wp2_with fail
    refine ZM (ZsP _ _ HTS.out) ?_;rintro w2 ⟨n2,hw2⟩;have HI2:=J (ZkJ HI.out hw2);clear hw2;rw[ER.out];go_wp2_with fail
    go_cut [8] (λv wx=>∃q,v=.pointer (some ⟨q,0,none⟩)/\Zgl wx q (Zj x0) (Zj x1) (Zj x2) (Zj x3) (Zj x4) (Zj x5) g9 z9/\Zkr w wx)
    case first=>
     go_region_held3 (λw'=>Zkr w w') (first|assumption|exact ZmP HI2.out|exact ZjN HI2.out _|exact ZdT (by assumption) _|exact ZdT HI2.out _) (first|(go_at_call_of 169 (Value.string x0);refine Zc (ZeI x0 _ HX0.out HD0.out) ?_)|(go_at_call_of 169 (Value.string x1);refine Zc (ZeI x1 _ HX1.out HD1.out) ?_)|(go_at_call_of 169 (Value.string x2);refine Zc (ZeI x2 _ HX2.out HD2.out) ?_)|(go_at_call_of 169 (Value.string x3);refine Zc (ZeI x3 _ HX3.out HD3.out) ?_)|(go_at_call_of 169 (Value.string x4);refine Zc (ZeI x4 _ HX4.out HD4.out) ?_)|(go_at_call_of 169 (Value.string x5);refine Zc (ZeI x5 _ HX5.out HD5.out) ?_))
     all_goals
      go_wp2_with fail
      go_meet
      exact⟨_,rfl,by first|exact Zds w2 (Zj x0) (Zj x1) (Zj x2) (Zj x3) (Zj x4) (Zj x5) g9 z9 _|exact Zds w2.drew (Zj x0) (Zj x1) (Zj x2) (Zj x3) (Zj x4) (Zj x5) g9 z9 _,by first|exact ZjN HI2.out _|exact Zhp HI2.out _⟩
    case rest=>
     obtain⟨q,rfl,hq,hri⟩:=hcut;have HQ:=J hq;have HI3:=J hri;clear hq hri HI HI2;cases o9
     ·have HV:=J (Zcc (show ZH s=false by rw[HRD.out];rfl));obtain⟨⟨r0,r1,r2,r3,r4,r5,r6,r7⟩,f0,f1,f2,f3,f4,f5,f6,f7⟩:=Zai HI3.out.1;have HZ:=J (Zai (Zbd HI3.out.1 0 0 0 0 0 0 false 0)).1;go_wp2;obtain⟨q0,q1,q2,q3,q4,q5,q6,q7⟩:=HZ.out;exact bodyPost_ret (v:=ZK) (by simp[ZK,results,results125,go_sem,q0,q1,q2,q3,q4,q5,q6,q7]) rfl ⟨by rw[HV.out],Za2 HI3.out.2 (Zb _) _ _ _ _ _ _ _ _⟩
     ·cases hdb:Z8 (Zj x0) (Zj x1) (Zj x2) (Zj x3) (Zj x4) (Zj x5) g9 z9
      ·have HV:=J (Zcc (show ZH s=false by rw[HRD.out,hdb];rfl));obtain⟨⟨a0,a1,a2,a3,a4,a5,a6,a7⟩,_⟩:=Zai HQ.out;go_wp2_with fail
       refine(Zcb (Zj x0) (Zj x1) (Zj x2) (Zj x3) (Zj x4) (Zj x5) g9 z9 _ (Zdt HT.out HI3.out.2)).mono ?_;rw[hdb];rintro e w3 ⟨rfl,hb3⟩;have HI4:=J (Ze0 HI3.out hb3);clear hb3 a0 a1 a2 a3 a4 a5 a6 a7;obtain⟨⟨r0,r1,r2,r3,r4,r5,r6,r7⟩,f0,f1,f2,f3,f4,f5,f6,f7⟩:=Zai HI4.out.1;have HZ:=J (Zai (Zbd HI4.out.1 0 0 0 0 0 0 false 0)).1;go_wp2;obtain⟨q0,q1,q2,q3,q4,q5,q6,q7⟩:=HZ.out;exact bodyPost_ret (v:=ZK) (by simp[ZK,results,results125,go_sem,q0,q1,q2,q3,q4,q5,q6,q7]) rfl ⟨by rw[HV.out],Za2 HI4.out.2 (Zb _) _ _ _ _ _ _ _ _⟩
      ·have HV:=J (HRV.out (show ZH s=true by rw[HRD.out,hdb];rfl));obtain⟨⟨a0,a1,a2,a3,a4,a5,a6,a7⟩,_⟩:=Zai HQ.out;go_wp2_with fail
       refine(Zcb (Zj x0) (Zj x1) (Zj x2) (Zj x3) (Zj x4) (Zj x5) g9 z9 _ (Zdt HT.out HI3.out.2)).mono ?_;rw[hdb];rintro e w3 ⟨rfl,hb3⟩;have HI4:=J (Ze0 HI3.out hb3);have HQ4:=J (ZcQ HQ.out hb3);clear hb3 a0 a1 a2 a3 a4 a5 a6 a7;obtain⟨⟨r0,r1,r2,r3,r4,r5,r6,r7⟩,f0,f1,f2,f3,f4,f5,f6,f7⟩:=Zai HI4.out.1;obtain⟨⟨a0,a1,a2,a3,a4,a5,a6,a7⟩,_⟩:=Zai HQ4.out;have HZ:=J (Zai (Zbd HI4.out.1 (Zj x0) (Zj x1) (Zj x2) (Zj x3) (Zj x4) (Zj x5) g9 z9)).1;go_wp2;obtain⟨q0,q1,q2,q3,q4,q5,q6,q7⟩:=HZ.out;exact bodyPost_ret (v:=.tuple #[.agg #[I (Zj x0),I (Zj x1),I (Zj x2),I (Zj x3),I (Zj x4),I (Zj x5),.bool g9,I z9],.bool true]) (by simp[results,results125,go_sem,q0,q1,q2,q3,q4,q5,q6,q7]) rfl ⟨by rw[HV.out],Za2 HI4.out.2 (Zb _) _ _ _ _ _ _ _ _⟩
   ·clear HTE;go_enter func125,ntmps125
    go_wp2_with fail
    all_goals (try (exfalso;omega))
    first
     |(go_at_call_of 167 (Value.string (s.extract 0 19));refine(ZjU (s.extract 0 19) _ HMX.out HS1.out).mono ?_)
     |refine(ZjU s _ HMS.out (HS2.out (by omega))).mono ?_
    rintro e w1 ⟨rfl,n,hw⟩;have HI:=J (Zhf hw);clear hw;go_wp2_with fail
    refine ZM (ZsP _ _ HTS.out) ?_;rintro w2 ⟨n2,hw2⟩;have HI2:=J (ZkJ HI.out hw2);clear hw2;rw[ER.out];go_wp2_with fail
    go_cut [8] (λv wx=>∃q,v=.pointer (some ⟨q,0,none⟩)/\Zgl wx q (Zj x0) (Zj x1) (Zj x2) (Zj x3) (Zj x4) (Zj x5) g9 z9/\Zkr w wx)
    case first=>
     go_region_held3 (λw'=>Zkr w w') (first|assumption|exact ZmP HI2.out|exact ZjN HI2.out _|exact ZdT (by assumption) _|exact ZdT HI2.out _) (first|(go_at_call_of 169 (Value.string x0);refine Zc (ZeI x0 _ HX0.out HD0.out) ?_)|(go_at_call_of 169 (Value.string x1);refine Zc (ZeI x1 _ HX1.out HD1.out) ?_)|(go_at_call_of 169 (Value.string x2);refine Zc (ZeI x2 _ HX2.out HD2.out) ?_)|(go_at_call_of 169 (Value.string x3);refine Zc (ZeI x3 _ HX3.out HD3.out) ?_)|(go_at_call_of 169 (Value.string x4);refine Zc (ZeI x4 _ HX4.out HD4.out) ?_)|(go_at_call_of 169 (Value.string x5);refine Zc (ZeI x5 _ HX5.out HD5.out) ?_))
     all_goals
      go_wp2_with fail
      go_meet
      exact⟨_,rfl,by first|exact Zds w2 (Zj x0) (Zj x1) (Zj x2) (Zj x3) (Zj x4) (Zj x5) g9 z9 _|exact Zds w2.drew (Zj x0) (Zj x1) (Zj x2) (Zj x3) (Zj x4) (Zj x5) g9 z9 _,by first|exact ZjN HI2.out _|exact Zhp HI2.out _⟩
    case rest=>
     obtain⟨q,rfl,hq,hri⟩:=hcut;have HQ:=J hq;have HI3:=J hri;clear hq hri HI HI2;cases o9
     ·have HV:=J (Zcc (show ZH s=false by rw[HRD.out];rfl));obtain⟨⟨r0,r1,r2,r3,r4,r5,r6,r7⟩,f0,f1,f2,f3,f4,f5,f6,f7⟩:=Zai HI3.out.1;have HZ:=J (Zai (Zbd HI3.out.1 0 0 0 0 0 0 false 0)).1;go_wp2;obtain⟨q0,q1,q2,q3,q4,q5,q6,q7⟩:=HZ.out;exact bodyPost_ret (v:=ZK) (by simp[ZK,results,results125,go_sem,q0,q1,q2,q3,q4,q5,q6,q7]) rfl ⟨by rw[HV.out],Za2 HI3.out.2 (Zb _) _ _ _ _ _ _ _ _⟩
     ·cases hdb:Z8 (Zj x0) (Zj x1) (Zj x2) (Zj x3) (Zj x4) (Zj x5) g9 z9
      ·have HV:=J (Zcc (show ZH s=false by rw[HRD.out,hdb];rfl));obtain⟨⟨a0,a1,a2,a3,a4,a5,a6,a7⟩,_⟩:=Zai HQ.out;go_wp2_with fail
       refine(Zcb (Zj x0) (Zj x1) (Zj x2) (Zj x3) (Zj x4) (Zj x5) g9 z9 _ (Zdt HT.out HI3.out.2)).mono ?_;rw[hdb];rintro e w3 ⟨rfl,hb3⟩;have HI4:=J (Ze0 HI3.out hb3);clear hb3 a0 a1 a2 a3 a4 a5 a6 a7;obtain⟨⟨r0,r1,r2,r3,r4,r5,r6,r7⟩,f0,f1,f2,f3,f4,f5,f6,f7⟩:=Zai HI4.out.1;have HZ:=J (Zai (Zbd HI4.out.1 0 0 0 0 0 0 false 0)).1;go_wp2;obtain⟨q0,q1,q2,q3,q4,q5,q6,q7⟩:=HZ.out;exact bodyPost_ret (v:=ZK) (by simp[ZK,results,results125,go_sem,q0,q1,q2,q3,q4,q5,q6,q7]) rfl ⟨by rw[HV.out],Za2 HI4.out.2 (Zb _) _ _ _ _ _ _ _ _⟩
      ·have HV:=J (HRV.out (show ZH s=true by rw[HRD.out,hdb];rfl));obtain⟨⟨a0,a1,a2,a3,a4,a5,a6,a7⟩,_⟩:=Zai HQ.out;go_wp2_with fail
       refine(Zcb (Zj x0) (Zj x1) (Zj x2) (Zj x3) (Zj x4) (Zj x5) g9 z9 _ (Zdt HT.out HI3.out.2)).mono ?_;rw[hdb];rintro e w3 ⟨rfl,hb3⟩;have HI4:=J (Ze0 HI3.out hb3);have HQ4:=J (ZcQ HQ.out hb3);clear hb3 a0 a1 a2 a3 a4 a5 a6 a7;obtain⟨⟨r0,r1,r2,r3,r4,r5,r6,r7⟩,f0,f1,f2,f3,f4,f5,f6,f7⟩:=Zai HI4.out.1;obtain⟨⟨a0,a1,a2,a3,a4,a5,a6,a7⟩,_⟩:=Zai HQ4.out;have HZ:=J (Zai (Zbd HI4.out.1 (Zj x0) (Zj x1) (Zj x2) (Zj x3) (Zj x4) (Zj x5) g9 z9)).1;go_wp2;obtain⟨q0,q1,q2,q3,q4,q5,q6,q7⟩:=HZ.out;exact bodyPost_ret (v:=.tuple #[.agg #[I (Zj x0),I (Zj x1),I (Zj x2),I (Zj x3),I (Zj x4),I (Zj x5),.bool g9,I z9],.bool true]) (by simp[results,results125,go_sem,q0,q1,q2,q3,q4,q5,q6,q7]) rfl ⟨by rw[HV.out],Za2 HI4.out.2 (Zb _) _ _ _ _ _ _ _ _⟩
end
end Go.Proofs.YtcdnilpdohknfaaGreatDoor
