import Derived.Test.YtcdnilpdohknfaaGreatDoorJ7
import Derived.Lib.IndexBytes
set_option linter.unusedVariables false
set_option linter.unusedSimpArgs false
set_option maxRecDepth 100000
set_option maxHeartbeats 16000000
namespace Go.Proofs.YtcdnilpdohknfaaGreatDoor
open Tryz
section
open Go.RowKit Go.Joins
structure Nd where
 k:Int
 nt:Bool
 L:List (Int×Int)
 a:Int
 b:Int
 mn:Int
 mx:Int
def ndV(n:Nd)(ad:Option Addr)(cp:Nat):List Value:=[I n.k,.bool n.nt,.slice ad n.L.length cp,I n.a,I n.b,I n.mn,I n.mx]
def prV:List (Int×Int)->List Value
 |[]=>[]
 |p::l => I p.1 :: I p.2::prV l
theorem ZmU:∀l,(prV l).length=l.length*2
 |[]=>rfl
 |p::l=>by rw[prV,ZDB,ZDB,ZmU l,ZDB];omega
theorem Zwe:∀(l:List (Int×Int)) (i:Nat) (p:Int×Int),l[i]?=some p->(prV l)[i*2]?=some (I p.1)/\(prV l)[i*2+1]?=some (I p.2)
 |[],i,p,h=>by simp at h
 |q::l,0,p,h=>by simp at h;subst h;exact⟨rfl,rfl⟩
 |q::l,i+1,p,h=>by
  have:=Zwe l i p (by simpa using h);rw[prV,show(i+1)*2=i*2+1+1 by omega];simpa using this
def Zgv(Z:Nat)(S:Nat->Prop)(w:World)(xs:List Value)(X:List Nd):Prop:=∀j nd,X[j]?=some nd->∃ad cp,(∀o,o<7->xs[j*7+o]?=(ndV nd ad cp)[o]?)/\w.ownsRow 0 238 2 (.slice ad nd.L.length cp) nd.L.length (prV nd.L)/\(∀k,(Value.slice ad nd.L.length cp).ownBlock=some k->S k)/\nd.L.length<=Z
def kb7(xs:List Value)(j:Nat):Option Nat:=match xs[j*7+2]? with
 |some v=>v.ownBlock
 |none=>none
def Dj7(xs:List Value)(m:Nat):Prop:=∀i j k,i<m->j<m->i≠j->kb7 xs i=some k->kb7 xs j≠some k
def XOZ(Z:Nat)(B:Nat)(S:Nat->Prop)(w:World)(ad:Option Addr)(c:Nat)(X:List Nd):Prop:=∃xs,w.ownsRow B 204 7 (.slice ad X.length c) X.length xs/\Zgv Z S w xs X/\Dj7 xs X.length
abbrev XO:=XOZ 100
section
variable {Z:Nat}
theorem Zv1{xs:List Value}{j:Nat}{v:Value}(h:xs[j*7+2]?=some v):kb7 xs j=v.ownBlock:=by unfold kb7;rw[h]
theorem Zh2{S T:Nat->Prop}{w w':World}{xs:List Value}{X:List Nd}(h:Zgv Z S w xs X)(k:Kp T w w')(hT:∀B' z n v ys j,w.ownsRow B' 238 z v n ys->v.ownBlock=some j->S j->¬T j):Zgv Z S w' xs X:=λj nd hj=>by
 obtain⟨ad,cp,h1,h2,h3,h4⟩:=h j nd hj;exact⟨ad,cp,h1,Zcd h2 k (λi hi=>hT _ _ _ _ _ i h2 hi (h3 i hi)),h3,h4⟩
theorem ZjI{S T:Nat->Prop}{w:World}{xs:List Value}{X:List Nd}(h:Zgv Z S w xs X)(hT:∀k,k<w.heap.size->S k->T k):Zgv Z T w xs X:=λj nd hj=>by
 obtain⟨ad,cp,h1,h2,h3,h4⟩:=h j nd hj;exact⟨ad,cp,h1,h2,λk hk=>hT k (h2.lt k hk).2 (h3 k hk),h4⟩
theorem Zlw{S:Nat->Prop}{w:World}{xs:List Value}{X:List Nd}(h:Zgv Z S w xs X)(hl:xs.length=X.length*7){nd:Nd}{ad:Option Addr}{cp:Nat}(h2:w.ownsRow 0 238 2 (.slice ad nd.L.length cp) nd.L.length (prV nd.L))(h3:∀k,(Value.slice ad nd.L.length cp).ownBlock=some k->S k)(h4:nd.L.length<=Z):Zgv Z S w (xs++ndV nd ad cp) (X++[nd]):=by
 intro j n hj;by_cases e:j<X.length
 ·rw[List.getElem?_append_left e]at hj;obtain⟨a',c',b1,b2,b3,b4⟩:=h j n hj;refine⟨a',c',λo ho=>?_,b2,b3,b4⟩;rw[List.getElem?_append_left (by omega)];exact b1 o ho
 ·have ej:j=X.length:=by
   have:=(List.getElem?_eq_some_iff.1 hj).1;simp at this;omega
  subst ej;simp at hj;subst hj;refine⟨ad,cp,λo ho=>?_,h2,h3,h4⟩;rw[List.getElem?_append_right (by omega),hl];congr 1;omega
theorem Zor{xs:List Value}{m:Nat}(h:Dj7 xs m)(hl:xs.length=m*7){nd:Nd}{ad:Option Addr}{cp:Nat}(hv:∀j k,j<m->kb7 xs j=some k->(Value.slice ad nd.L.length cp).ownBlock≠some k):Dj7 (xs++ndV nd ad cp) (m+1):=by
 have e1:∀j,j<m->kb7 (xs++ndV nd ad cp) j=kb7 xs j:=λj hj=>by unfold kb7;rw[List.getElem?_append_left (by omega)]
 have e2:kb7 (xs++ndV nd ad cp) m=(Value.slice ad nd.L.length cp).ownBlock:=Zv1 (by rw[List.getElem?_append_right (by omega),hl];simp[ndV]);intro i j k hi hj hne hk;by_cases c1:i<m
 ·rw[e1 i c1]at hk;by_cases c2:j<m
  ·rw[e1 j c2];exact h i j k c1 c2 hne hk
  ·have:j=m:=by omega
   subst this;rw[e2];exact hv i k c1 hk
 ·have:i=m:=by omega
  subst this;rw[e2]at hk;rw[e1 j (by omega)];intro e;exact hv j k (by omega) e hk
theorem Zqy{S:Nat->Prop}{w:World}{xs:List Value}{X:List Nd}(h:Zgv Z S w xs X){j k:Nat}(hj:j<X.length)(hk:kb7 xs j=some k):S k/\k<w.heap.size:=by
 obtain⟨ad,cp,h1,h2,h3,h4⟩:=h j X[j] (Zv hj);rw[Zv1 (h1 2 (by omega))]at hk;exact⟨h3 k hk,(h2.lt k hk).2⟩
section
variable {B:Nat} {S T:Nat->Prop} {w w':World} {ad:Option Addr} {c g:Nat} {X:List Nd}
theorem Ztd(h:XOZ Z B S w ad c X)(k:Kp T w w')(h1:∀j,(Value.slice ad X.length c).ownBlock=some j->¬T j)(hT:∀B' z n v ys j,w.ownsRow B' 238 z v n ys->v.ownBlock=some j->S j->¬T j):XOZ Z B S w' ad c X:=by
 obtain⟨xs,h2,h3,h4⟩:=h;exact⟨xs,Zcd h2 k h1,Zh2 h3 k hT,h4⟩
theorem ZhE(h:XOZ Z B S w ad c X)(hT:∀k,k<w.heap.size->S k->T k):XOZ Z B T w ad c X:=by
 obtain⟨xs,h1,h2,h3⟩:=h;exact⟨xs,h1,ZjI h2 hT,h3⟩
theorem Zrj(B:Nat)(S:Nat->Prop)(w:World):XOZ Z B S w none 0 []:=⟨[],ZEo _ _ _ _,λj nd hj=>(by simp at hj),λi _ _ hi=>absurd hi (Nat.not_lt_zero _)⟩
theorem Zen(h:XOZ Z B S w ad c X)(hb:ZL w w'):XOZ Z B S w' ad c X:=Ztd (T:=λ_=>False) h ⟨hb.os,hb.tape,hb.output,hb.size,λk hk _=>hb.block k hk⟩ (λ_ _ x=>x) (λ_ _ _ _ _ _ _ _ _ x=>x)
theorem Zjm(h:XOZ Z B S w ad c X)(h0:0<X.length):∃g,ad=some ⟨g,0,none⟩/\B<=g/\g<w.heap.size:=by
 obtain⟨xs,h1,-⟩:=h;obtain⟨g,cap,hv,hB,hg⟩:=h1.form h0;simp only[ZDG]at hv;exact⟨g,hv.1,hB,hg⟩
theorem ZvZ(h:XOZ Z B S w (some ⟨g,0,none⟩) c X){i:Nat}{nd:Nd}(hi:X[i]?=some nd):∃ad cp,(∀o,o<7->w.cell? ⟨g,i*7+o,none⟩=(ndV nd ad cp)[o]?)/\w.ownsRow 0 238 2 (.slice ad nd.L.length cp) nd.L.length (prV nd.L)/\(∀k,(Value.slice ad nd.L.length cp).ownBlock=some k->S k)/\nd.L.length<=Z:=by
 obtain⟨xs,h1,h2,h3⟩:=h;obtain⟨ad,cp,b1,b2,b3,b4⟩:=h2 i nd hi;have hlt:=(List.getElem?_eq_some_iff.1 hi).1;exact⟨ad,cp,λo ho=>(h1.cellAt _ (by omega)).trans (b1 o ho),b2,b3,b4⟩
end
def nd0:Nd:=⟨0,false,[],0,0,0,0⟩
def ZlT(X:List Nd)(j:Nat):Nd:=X[j]?.getD nd0
def ZdZ(X:List Nd):Rx:=⟨X.length,λj=>(ZlT X j).k,λj=>(ZlT X j).a,λj=>(ZlT X j).b,λj=>(ZlT X j).mn,λj=>(ZlT X j).mx,λj=>(ZlT X j).nt,λj=>(ZlT X j).L.length,λj i=>((ZlT X j).L[i]?.getD (0,0)).1,λj i=>((ZlT X j).L[i]?.getD (0,0)).2⟩
theorem Zgt{X:List Nd}{j:Nat}{nd:Nd}(h:X[j]?=some nd):ZlT X j=nd:=by unfold ZlT;rw[h];rfl
theorem Zjs{w:World}{ad:Option Addr}{cp:Nat}{L:List (Int×Int)}(h:w.ownsRow 0 238 2 (.slice ad L.length cp) L.length (prV L)):ZdV w ad L.length (λi=>(L[i]?.getD (0,0)).1) (λi=>(L[i]?.getD (0,0)).2) w.heap.size:=λh0=>by
 obtain⟨g,cap,hv,hB,hg⟩:=h.form h0;simp only[ZDG]at hv;obtain⟨rfl,-,rfl⟩:=hv;refine⟨g,0,rfl,hg,λj hj=>?_⟩;have hp:L[j]?=some L[j]:=Zv hj;obtain⟨p1,p2⟩:=Zwe L j _ hp;have e:L[j]?.getD (0,0)=L[j]:=by rw[hp];rfl
 rw[ZDE];simp only[e];exact⟨(h.cellAt _ (by omega)).trans p1,(h.cellAt _ (by omega)).trans p2⟩
theorem Zuf{B:Nat}{S:Nat->Prop}{w:World}{ad:Option Addr}{c:Nat}{X:List Nd}(h:XOZ Z B S w ad c X):Zwq w ad (ZdZ X) w.heap.size:=λh0=>by
 have h0':0<X.length:=h0;obtain⟨g,rfl,-,hg⟩:=Zjm h h0';refine⟨g,0,rfl,hg,λj hj=>?_⟩;have hj':j<X.length:=hj;obtain⟨ad,cp,b1,b2,b3,b4⟩:=ZvZ h (Zv hj');have e:=Zgt (Zv hj');refine⟨ad,cp,?_,?_⟩
 ·unfold Zh7;simp only[ZdZ,e,ZDE];exact⟨b1 0 (by omega),b1 1 (by omega),b1 2 (by omega),b1 3 (by omega),b1 4 (by omega),b1 5 (by omega),b1 6 (by omega)⟩
 ·simp only[ZdZ,e];exact Zjs b2
end
end
section
open Go.RowKit
theorem Zj7(s:ZB)(w:World)(hs:s.size<=maxLen)(h:shB s p5=true):Calls prog 167 #[.string s,.string ⟨#[48,48,58,48,48]⟩] w λe w'=>e=.returned (.bool true)/\∃n,w'=w.drewN n:=by
 have q:=Zkq s p5 w hs (by decide);rw[h]at q;exact q
theorem Ztx(s:ZB)(w:World)(hs:s.size<=maxLen)(h:shB s p5=false):Calls prog 167 #[.string s,.string ⟨#[48,48,58,48,48]⟩] w λe w'=>e=.returned (.bool false)/\∃n,w'=w.drewN n:=by
 have q:=Zkq s p5 w hs (by decide);rw[h]at q;exact q
theorem isE{t:ZB}(h:0<t.size):t.toList.isEmpty=false:=by
 rw[Go.ByteArray.toList_eq];have:0<t.data.toList.length:=by simpa using h
 cases e:t.data.toList with
 |nil=>rw[e]at this;simp at this
 |cons _ _=>rfl
theorem ZDb{t:ZB}(h:t.size=0):t.toList.isEmpty=true:=by
 have hse:t=ByteArray.empty:=ByteArray.size_eq_zero_iff.1 h;subst hse;rw[Go.ByteArray.toList_eq];rfl
theorem isZ{t:ZB}(h:¬t=⟨#[90]⟩):(t.toList==[90])=false:=by
 rw[Go.ByteArray.toList_eq,ZDU];intro e;apply h;cases t with
 |mk a=>cases a with
  |mk l=>simp at e;subst e;rfl
theorem ZCT{t:ZB}(h:t=⟨#[90]⟩):(t.toList==[90])=true:=by
 subst h;rw[Go.ByteArray.toList_eq];rfl
theorem ZsP(t:ZB)(w:World)(hs:t.size<=1048576):Calls prog 168 #[.string t] w λe w'=>e=.returned (.tuple #[.bool (zI t).1,I (zI t).2.1,.bool (zI t).2.2])/\∃n,w'=w.drewN n:=by
 by_cases h0:t.size=0
 ·have he:=ZDb h0;have HV:=J (show zI t=(false,0,true) by simp[zI,h0]);clear h0;go_enter func168,ntmps168
  go_wp2;exact bodyPost_ret (v:=.tuple #[.bool false,I 0,.bool true]) (by simp[results,results168,go_sem]) rfl ⟨by rw[HV.out],0,rfl⟩
 ·have h1:0<t.size:=by omega
  have he:=isE h1;by_cases hz:t=⟨#[90]⟩
  ·have hzb:=ZCT hz;have HV:=J (show zI t=(true,0,true) by unfold zI;rw[Za h0,Zd hz]);clear hz;go_enter func168,ntmps168
   go_wp2;exact bodyPost_ret (v:=.tuple #[.bool true,I 0,.bool true]) (by simp[results,results168,go_sem]) rfl ⟨by rw[HV.out],0,rfl⟩
  ·have hzb:=isZ hz;have h1i:(1:Int)<=(t.size:Int):=by omega
   have ha:=ZaX t 0 h1;have HA:=J ha;obtain⟨r,hr⟩:=ZX (t.extract 1 t.size);have hrs:r.size<=1048576:=by rw[<-hr];simp;omega
   have HRS:Hid (r.size<=maxLen):=J (by unfold maxLen;omega);by_cases hsg:at8 t 0=43\/at8 t 0=45
   ·cases hsh:shB r p5
    ·have HV:=J (show zI t=(false,0,false) by unfold zI;rw[Za h0,Za hz,hr,Za (by rw[hsh];simp)]);rw[ha]at hsg;clear hz ha;rcases hsg with hsg|hsg
     all_goals
      go_enter func168,ntmps168
      go_wp2_with fail
      go_quiet (fail)
      go_wp2_with (go_at_call 167;refine ZM (Ztx _ _ HRS.out hsh) ?_;rintro w' ⟨n,rfl⟩)
      exact bodyPost_ret (v:=.tuple #[.bool false,I 0,.bool false]) (by simp[results,results168,go_sem]) rfl ⟨by rw[HV.out],_,by first|rfl|rw[World.drewN_drewN]⟩
    ·obtain⟨r5,rd1,rd2,_⟩:=sh5 hsh;obtain⟨x1,hx1⟩:∃x,r.extract 0 2=x:=⟨_,rfl⟩;obtain⟨x2,hx2⟩:∃x,r.extract 3 5=x:=⟨_,rfl⟩;have sx1:x1.size=2:=(by rw[<-hx1,Zao r 0 2 (by omega)]);have sx2:x2.size=2:=(by rw[<-hx2,Zao r 3 5 (by omega)]);rw[hx1]at rd1;rw[hx2]at rd2;have b1:=Zjl rd1 sx1;have b2:=Zjl rd2 sx2;have HD1:=J rd1;have HD2:=J rd2;have HX1:Hid (x1.size<=4):=J (by omega);have HX2:Hid (x2.size<=4):=J (by omega);have r5i:(5:Int)<=(r.size:Int):=(by omega);have r2i:(2:Int)<=(r.size:Int):=(by omega);have HV0:=J (show zI t=(if 59<Zj x2 then (false,0,false) else (true,if at8 t 0=45 then -(Zj x1*60+Zj x2) else Zj x1*60+Zj x2,true)) by unfold zI;rw[Za h0,Za hz,hr,Zd ⟨hsg,hsh⟩,hx1,hx2]);clear hz rd1 rd2 sx1 sx2;by_cases h59:59<Zj x2
     ·have HV:=J (show zI t=(false,0,false) by rw[HV0.out,Zd h59]);rw[ha]at hsg;clear ha r5;rcases hsg with hsg|hsg
      all_goals
       go_enter func168,ntmps168
       go_wp2_with fail
       go_quiet (fail)
       go_wp2_with (first|(go_at_call 167;refine ZM (Zj7 _ _ HRS.out hsh) ?_;rintro w' ⟨n,rfl⟩)|(go_at_call 169;refine Zc (ZeI _ _ HX2.out HD2.out) ?_))
       exact bodyPost_ret (v:=.tuple #[.bool false,I 0,.bool false]) (by simp[results,results168,go_sem]) rfl ⟨by rw[HV.out],_,by first|rfl|rw[World.drewN_drewN]⟩
     ·by_cases h45:at8 t 0=45
      ·have HV:=J (show zI t=(true,-(Zj x1*60+Zj x2),true) by rw[HV0.out,Za h59,Zd h45]);rw[ha]at h45;clear ha hsg r5;go_enter func168,ntmps168
       go_wp2_with fail
       go_quiet (fail)
       go_wp2_with (first|(go_at_call 167;refine ZM (Zj7 _ _ HRS.out hsh) ?_;rintro w' ⟨n,rfl⟩)|(go_at_call_of 169 (Value.string x2);refine Zc (ZeI x2 _ HX2.out HD2.out) ?_)|(go_at_call_of 169 (Value.string x1);refine Zc (ZeI x1 _ HX1.out HD1.out) ?_))
       exact bodyPost_ret (v:=.tuple #[.bool true,I (-(Zj x1*60+Zj x2)),.bool true]) (by simp[results,results168,go_sem]) rfl ⟨by rw[HV.out],_,by first|rfl|rw[World.drewN_drewN]⟩
      ·have h43:at8 t 0=43:=(by omega);have HV:=J (show zI t=(true,Zj x1*60+Zj x2,true) by rw[HV0.out,Za h59,Za h45]);rw[ha]at h43;clear ha hsg h45 r5;go_enter func168,ntmps168
       go_wp2_with fail
       go_quiet (fail)
       go_wp2_with (first|(go_at_call 167;refine ZM (Zj7 _ _ HRS.out hsh) ?_;rintro w' ⟨n,rfl⟩)|(go_at_call_of 169 (Value.string x2);refine Zc (ZeI x2 _ HX2.out HD2.out) ?_)|(go_at_call_of 169 (Value.string x1);refine Zc (ZeI x1 _ HX1.out HD1.out) ?_))
       exact bodyPost_ret (v:=.tuple #[.bool true,I (Zj x1*60+Zj x2),.bool true]) (by simp[results,results168,go_sem]) rfl ⟨by rw[HV.out],_,by first|rfl|rw[World.drewN_drewN]⟩
   ·have HV:=J (show zI t=(false,0,false) by unfold zI;rw[Za h0,Za hz,Za (λq=>hsg q.1)]);have g1:((t[0].toNat:Int) != 43)=true:=(by rw[<-ha];simp;omega);have g2:((t[0].toNat:Int) != 45)=true:=(by rw[<-ha];simp;omega);clear hz ha hsg;go_enter func168,ntmps168
    go_wp2_with fail
    go_quiet (fail)
    go_wp2;exact bodyPost_ret (v:=.tuple #[.bool false,I 0,.bool false]) (by simp[results,results168,go_sem]) rfl ⟨by rw[HV.out],_,by first|rfl|rw[World.drewN_drewN]⟩
def zS(t:ZB):Bool:=decide (t.size=6)&&(decide (at8 t 0=43\/at8 t 0=45)&&(decide (at8 t 3=58)&&(inB 0 (Zf t 1 2) 14&&inB 0 (Zf t 4 2) 59)))
theorem ZmK{t:ZB}(h:t.size=6){j:Nat}(hj:j<5):at8 (t.extract 1 t.size) j=at8 t (1+j):=ZcD t 1 t.size j (by omega) (by omega)
theorem ZuI{t:ZB}(h:t.size=6)(a:Nat)(ha:a+2<=5):Zj ((t.extract 1 t.size).extract a (a+2))=Zj (t.extract (1+a) (1+a+2))/\Zr ((t.extract 1 t.size).extract a (a+2))=Zr (t.extract (1+a) (1+a+2)):=by
 have s0:(t.extract 1 t.size).size=5:=by rw[Zao t 1 t.size (by omega)];omega
 have s1:((t.extract 1 t.size).extract a (a+2)).size=2:=by rw[Zao _ a (a+2) (by omega)];omega
 have s2:(t.extract (1+a) (1+a+2)).size=2:=by rw[Zao t _ _ (by omega)];omega
 have e:∀j,j<2->at8 ((t.extract 1 t.size).extract a (a+2)) j=at8 (t.extract (1+a) (1+a+2)) j:=λj hj=>by
  rw[ZcD _ a (a+2) j (by omega) (by omega),ZmK h (by omega),ZcD t (1+a) (1+a+2) j (by omega) (by omega)];congr 1;omega
 refine⟨?_,Zqu (by rw[s1,s2]) (λj hj=>e j (by omega))⟩;unfold Zj;rw[s1,s2];exact Zlf 2 e
theorem Zwb{t:ZB}(h:t.size=6):Zj ((t.extract 1 t.size).extract 0 2)=Zj (t.extract 1 3)/\Zr ((t.extract 1 t.size).extract 0 2)=Zr (t.extract 1 3):=ZuI h 0 (by omega)
theorem ZwB{t:ZB}(h:t.size=6):Zj ((t.extract 1 t.size).extract 3 5)=Zj (t.extract 4 6)/\Zr ((t.extract 1 t.size).extract 3 5)=Zr (t.extract 4 6):=ZuI h 3 (by omega)
theorem ZAZ{t:ZB}(h:t.size=6)(d:Zr (t.extract 1 3)=true):Zf t 1 2=Zj ((t.extract 1 t.size).extract 0 2):=by
 rw[(Zwb h).1];exact ZcX (a:=1) (m:=2) (by omega) d
theorem ZAc{t:ZB}(h:t.size=6)(d:Zr (t.extract 4 6)=true):Zf t 4 2=Zj ((t.extract 1 t.size).extract 3 5):=by
 rw[(ZwB h).1];exact ZcX (a:=4) (m:=2) (by omega) d
theorem Zzk{t:ZB}(h:t.size=6)(h3:at8 t 3=58)(d1:Zr (t.extract 1 3)=true)(d2:Zr (t.extract 4 6)=true):shB (t.extract 1 t.size) p5=true:=by
 have s0:(t.extract 1 t.size).size=p5.size:=by rw[Zao t 1 t.size (by omega)];have e2:p5.size=5:=rfl;omega
 refine ZhP s0 (λk hk=>?_);have hk5:k<5:=hk;rw[ZmK h hk5];have D1:=λj (hj:1+j<3)=>Zcx (by omega) d1 hj
 have D2:=λj (hj:4+j<6)=>Zcx (by omega) d2 hj
 have hk':k=0\/k=1\/k=2\/k=3\/k=4:=by omega
 rcases hk' with rfl|rfl|rfl|rfl|rfl
 ·exact D1 0 (by omega)
 ·exact D1 1 (by omega)
 ·rw[h3];rfl
 ·exact D2 0 (by omega)
 ·exact D2 1 (by omega)
theorem ZrF{t:ZB}{a:Nat}(h:a+2<=t.size)(q:0<=Zf t a 2):Zr (t.extract a (a+2))=true:=by
 cases e:Zr (t.extract a (a+2)) with
 |true=>rfl
 |false=>rw[Zsl h e]at q;omega
theorem ZuS{t:ZB}(h0:¬t.size=0)(hz:¬t=⟨#[90]⟩)(q:zS t=true):zI t=(true,if at8 t 0=45 then -(60*Zf t 1 2+Zf t 4 2) else 60*Zf t 1 2+Zf t 4 2,true):=by
 simp only[zS,ZW,Z6]at q;obtain⟨hs,hsg,h3,b1,b2⟩:=q;have b1:=Zc0 b1;have b2:=Zc0 b2;have d1:=ZrF (t:=t) (a:=1) (by omega) b1.1;have d2:=ZrF (t:=t) (a:=4) (by omega) b2.1;have n1:=(ZuI hs 0 (by omega)).1;have n2:=(ZuI hs 3 (by omega)).1;have v1:Zf t 1 2=Zj ((t.extract 1 t.size).extract 0 2):=(ZcX (by omega) d1).trans n1.symm;have v2:Zf t 4 2=Zj ((t.extract 1 t.size).extract 3 5):=(ZcX (by omega) d2).trans n2.symm;unfold zI;rw[Za h0,Za hz,Zd ⟨hsg,Zzk hs h3 d1 d2⟩,<-v1,<-v2,Za (by omega)];by_cases h45:at8 t 0=45
 ·rw[Zd h45,Zd h45];simp;omega
 ·rw[Za h45,Za h45];simp;omega
theorem Zx5{t:ZB}(h0:¬t.size=0)(hz:¬t=⟨#[90]⟩)(q:zS t=false):(zI t).2.2=false\/inB (-840) (zI t).2.1 840=false:=by
 unfold zI;rw[Za h0,Za hz];by_cases hc:(at8 t 0=43\/at8 t 0=45)/\shB (t.extract 1 t.size) p5=true
 ·rw[Zd hc];by_cases h59:59<Zj ((t.extract 1 t.size).extract 3 5)
  ·rw[Zd h59];exact .inl rfl
  ·rw[Za h59];right;obtain⟨hr5,d1,d2,h2⟩:=sh5 hc.2;have hs:t.size=6:=by rw[Zao t 1 t.size (by omega)]at hr5;omega
   have d1':Zr (t.extract 1 3)=true:=by rw[<-(Zwb hs).2];exact d1
   have d2':Zr (t.extract 4 6)=true:=by rw[<-(ZwB hs).2];exact d2
   have v1:=ZAZ hs d1';have v2:=ZAc hs d2';have s1:((t.extract 1 t.size).extract 0 2).size=2:=by rw[Zao _ 0 2 (by omega)]
   have s2:((t.extract 1 t.size).extract 3 5).size=2:=by rw[Zao _ 3 5 (by omega)]
   have b1:=Zjl d1 s1;have b2:=Zjl d2 s2;have h3:at8 t 3=58:=by rw[<-h2,ZmK hs (by omega)]
   have h14:14<Zj ((t.extract 1 t.size).extract 0 2):=by
    rcases Int.lt_or_le 14 (Zj ((t.extract 1 t.size).extract 0 2)) with h|h
    ·exact h
    ·exfalso;have:zS t=true:=by
      simp only[zS,ZW,Z6];exact⟨hs,hc.1,h3,Zfz ⟨by rw[v1];omega,by rw[v1];omega⟩,Zfz ⟨by rw[v2];omega,by rw[v2];omega⟩⟩
     rw[this]at q;cases q
   apply Zj0;by_cases h45:at8 t 0=45
   ·simp only[Zd h45];omega
   ·simp only[Za h45];omega
 ·rw[Za hc];exact .inl rfl
theorem Zpp{y mo d h mi s:Int}{g:Bool}{z:Int}(q:inB (-840) z 840=false):Z8 y mo d h mi s g z=false:=by simp[Z8,q]
theorem Zol{s:ZB}(h:19<=s.size)(q:Zku s=true):ZH s=((zI (Zu s)).2.2&&ZiQ s (zI (Zu s)).1 (zI (Zu s)).2.1):=by
 cases ha:ZpK s with
 |false=>rw[Ztl h ha];simp[ZH,Zga h,ha]
 |true=>
  obtain⟨e0,e1,e2,e3,e4,e5⟩:=ZkC h ha;simp[ZH,Zga h,q,ha,ZiQ,e0,e1,e2,e3,e4,e5]
theorem ZrU{s:ZB}(h:19<=s.size)(q:ZH s=true):Zf s 0 4=f0 s/\Zf s 5 2=f1 s/\Zf s 8 2=f2 s/\Zf s 11 2=f3 s/\Zf s 14 2=f4 s/\Zf s 17 2=f5 s:=by
 apply ZkC h;cases e:ZpK s with
 |true=>rfl
 |false=>simp[ZH,Zga h,e]at q
end
theorem Zl0{n:Bool}{s:ZB}{c:Int}(h:ZP n s c=true):dgL s.data.toList/\Zev s.data.toList/\(c.toNat=0\/s.size=0\/∀u d,s.data.toList=u++[d]->d.toNat≠48):=by
 obtain⟨hs,hc0,hc1⟩:=Zbm h;have hd:=ZaT h;refine⟨ZgY s hd,?_,?_⟩
 ·apply Zem;rcases(show s.size=0\/0<s.size by omega) with h0|h0
  ·exact .inl h0
  ·refine .inr ⟨h0,λe=>?_⟩;rw[ZgK n s c h0 e]at h;simp at h
 ·rcases(show s.size=0\/0<s.size by omega) with h0|h0
  ·exact .inr (.inl h0)
  ·rw[ZeT n s c h0 hs hd hc0 hc1]at h;simp only[ZW,ZDI,Z6]at h;rcases h.2 with h2|h2
   ·left;omega
   ·exact .inr (.inr (Zms s h0 h2))
theorem Zm5{n:Bool}{s:ZB}{c:Int}(h:ZP n s c=true):Za5 n (Zw s.data.toList) c.toNat=(n,s,c,true):=by
 obtain⟨hs,hc0,hc1⟩:=Zbm h;obtain⟨h1,h2,h3⟩:=Zl0 h;have hcc:((c.toNat:Nat):Int)=c:=by omega
 rw[ZbT n s c.toNat (Zw s.data.toList) c.toNat h1 h2 h3 rfl,hcc];by_cases h0:s.size=0
 ·rw[Zd h0];rw[Zdx n s c h0]at h;simp only[ZW,Bool.not_eq_true',Z6]at h;obtain⟨rfl,rfl⟩:=h;rw[ByteArray.size_eq_zero_iff.1 h0]
 ·rw[Za h0,Zd h]
theorem Zwu{n:Bool}{s:ZB}{c:Int}(h:ZP n s c=true):Zr (Zgf s c)=true:=by
 rw[ZbD,Zgf,ZaD,ZcT];exact ZhQ (ZhK _) (ZgY s (ZaT h))
theorem Zsw(s:ZB)(c:Int):Zw (Zgf s c).data.toList=Zw s.data.toList:=by
 rw[Zgf,ZaD,Zhd,ZcT,Zgg];omega
theorem ZBs(l:List UInt8)(h:dgL l):ZeC l=l.length:=
 Zei l l.length (Zb _) (λj hj e=>by
  rw[Zv hj]at e;have:=h _ (ZD3 hj);rw[Option.some.inj e]at this;exact absurd this (by decide)) (.inl rfl)
theorem ZyZ(a b:List UInt8)(h:dgL a):ZeC (a++46::b)=a.length:=
 Zei _ _ (by simp) (λj hj e=>by
  rw[List.getElem?_append_left hj,Zv hj]at e;have:=h _ (ZD3 hj);rw[Option.some.inj e]at this;exact absurd this (by decide)) (.inr (by simp))
theorem Zi1(P:ZB)(c:Int):(ZbL P c).data.toList=P.data.toList.take (P.size-c.toNat)++46::P.data.toList.drop (P.size-c.toNat):=by
 have hl:P.data.toList.length=P.size:=by simp
 have e1:(P.extract 0 (P.size-c.toNat)).data.toList=P.data.toList.take (P.size-c.toNat):=by rw[ZaQ];simp
 have e2:(P.extract (P.size-c.toNat) P.size).data.toList=P.data.toList.drop (P.size-c.toNat):=by rw[ZaQ,ZD2 (by rw[ZDC];omega)]
 rw[ZbL,ZaD,ZaD,e1,e2];simp
theorem Zkw{n:Bool}{s:ZB}{c:Int}(h:ZP n s c=true):Zy n (Zda s c)=(n,s,c,true):=by
 obtain⟨hs,hc0,hc1⟩:=Zbm h;have hdp:=Zwu h;have hps:=Zla s c;have hself:=Zm5 h;by_cases hc:c=0
 ·subst hc;have hb:Zda s 0=Zgf s 0:=by rw[Zda,Zd rfl]
  have hl:(Zgf s 0).data.toList.length=(Zgf s 0).size:=by simp
  have hdot:=ZBs _ (ZgY _ hdp);have hw:Zbg (Zgf s 0)=Zgf s 0:=by rw[Zbg,hdot,hl];simp
  have hp:ZbV (Zgf s 0)=ByteArray.empty:=ByteArray.size_eq_zero_iff.1 (by rw[ZbV,hdot,hl];simp);have hbad:ZS (Zgf s 0)=false:=by
   have e:(Zgf s 0++ByteArray.empty).size=(Zgf s 0).size:=by simp
   rw[ZS,hw,hp,hdp,e,Zg (show ¬180<(Zgf s 0).size by omega),Zg (show ¬(Zgf s 0).size=0 by omega)];rfl
  rw[hb,Zy,Za (by rw[hbad];simp),hw,hp];have e2:(Zgf s 0++ByteArray.empty).data.toList=(Zgf s 0).data.toList:=by simp
  rw[e2,Zsw];exact hself
 ·have hb:Zda s c=ZbL (Zgf s c) c:=by rw[Zda,Za hc]
  obtain⟨P,hP⟩:=ZX (Zgf s c);rw[hP]at hdp hps hb;obtain⟨k,hk⟩:=ZX (P.size-c.toNat);have hkl:k<=P.size:=by omega
  have hlP:P.data.toList.length=P.size:=by simp
  have hlist:(ZbL P c).data.toList=P.data.toList.take k++46::P.data.toList.drop k:=by
   rw[Zi1,hk]
  have hdg:dgL P.data.toList:=ZgY _ hdp;have hda:dgL (P.data.toList.take k):=λd hd=>hdg d (List.mem_of_mem_take hd)
  have hdb:dgL (P.data.toList.drop k):=λd hd=>hdg d (List.mem_of_mem_drop hd)
  have hdot:ZeC (ZbL P c).data.toList=k:=by
   rw[hlist,ZyZ _ _ hda,List.length_take];omega
  have hw:(Zbg (ZbL P c)).data.toList=P.data.toList.take k:=by
   rw[Zgi,hdot,hlist,List.take_append_of_le_length (by rw[List.length_take];omega),List.take_take];congr 1;omega
  have hp:(ZbV (ZbL P c)).data.toList=P.data.toList.drop k:=by
   rw[Zhw,hdot,hlist,List.drop_append];rw[List.drop_eq_nil_of_le (by rw[List.length_take];omega),List.length_take,show k+1-min k P.data.toList.length=1 by omega];rfl
  have hwp:Zbg (ZbL P c)++ZbV (ZbL P c)=P:=by
   apply Zdf;rw[ZaD,hw,hp,List.take_append_drop]
  have hpsz:(ZbV (ZbL P c)).size=c.toNat:=by
   have e:(ZbV (ZbL P c)).size=(ZbV (ZbL P c)).data.toList.length:=by simp
   rw[e,hp,ZDC];omega
  have hsz:(ZbL P c).size=P.size+1:=by
   have e:(ZbL P c).size=(ZbL P c).data.toList.length:=by simp
   rw[e,hlist];simp;omega
  have hbad:ZS (ZbL P c)=false:=by
   rw[ZS,hwp,(ZbD _).2 (by rw[hw];exact hda),(ZbD (ZbV (ZbL P c))).2 (by rw[hp];exact hdb),Zg (show ¬180<(ZbL P c).size by omega),Zg (show ¬P.size=0 by omega)];rfl
  rw[hb,Zy,Za (by rw[hbad];simp),hwp,hpsz,<-hP,Zsw];exact hself
theorem Zrs{n:Bool}{s:ZB}{c:Int}(h:ZP n s c=true):0<(Zda s c).size/\(Zda s c).size<=180/\48<=at8 (Zda s c) 0/\at8 (Zda s c) 0<=57:=by
 obtain⟨hs,hc0,hc1⟩:=Zbm h;have hdp:=Zwu h;have hps:=Zla s c;obtain⟨P,hP⟩:=ZX (Zgf s c);rw[hP]at hdp hps;have hP0:0<P.size:=by omega
 have hf:=Zfg P hdp 0 hP0;simp only[Z0,Z6]at hf;by_cases hc:c=0
 ·rw[Zda,Zd hc,hP];refine⟨hP0,by omega,?_,?_⟩<;>rw[ZaX P 0 hP0]<;>omega
 ·rw[Zda,Za hc,hP];have hsz:(ZbL P c).size=P.size+1:=by
   have e1:(⟨#[46]⟩:ZB).size=1:=rfl;rw[ZbL,Z5,Z5,e1];simp;omega
  have h0:at8 (ZbL P c) 0=at8 P 0:=by
   have hk:0<P.size-c.toNat:=by omega
   have e:(ZbL P c).data.toList=P.data.toList.take (P.size-c.toNat)++46::P.data.toList.drop (P.size-c.toNat):=Zi1 P c;have hlP:P.data.toList.length=P.size:=by simp
   unfold at8;rw[e,List.getElem?_append_left (by rw[List.length_take];omega),List.getElem?_take,Zd hk]
  refine⟨by omega,by omega,?_,?_⟩<;>rw[h0,ZaX P 0 hP0]<;>omega
theorem ZrJ{n:Bool}{s:ZB}{c:Int}(h:ZP n s c=true):ZC (ZeV n s c)=(n,s,c,true):=by
 obtain⟨h0,h1,h2,h3⟩:=Zrs h;rw[ZeV,Zd h,ZC];cases n
 ·have e1:Zhr (Zda s c)=false:=by simp only[Zhr,decide_eq_false_iff_not];omega
  have e2:ZcF (Zda s c)=Zda s c:=by rw[ZcF,Za (by omega)]
  simp only[ZN,if_false];rw[e1,e2];exact Zkw h
 ·obtain⟨B,hB⟩:=ZX (Zda s c);rw[hB]at h0;have hsz:((⟨#[45]⟩:ZB)++B).size=B.size+1:=by
   have e1:(⟨#[45]⟩:ZB).size=1:=rfl;rw[Z5,e1];omega
  have hat:at8 ((⟨#[45]⟩:ZB)++B) 0=45:=by
   unfold at8;rw[ZaD];rfl
  have e1:Zhr ((⟨#[45]⟩:ZB)++B)=true:=by simp only[Zhr,Z6];omega
  have e2:ZcF ((⟨#[45]⟩:ZB)++B)=B:=by
   rw[ZcF,Zd (by omega)];apply Zdf;have hl:((⟨#[45]⟩:ZB)++B).data.toList.length=((⟨#[45]⟩:ZB)++B).size:=ZDL;rw[ZaQ,ZD2 (by rw[ZDC];omega),ZaD];rfl
  simp only[if_true];rw[hB,e1,e2,<-hB];exact Zkw h
section
open Go.RowKit
theorem ZBV(a b:ZB):(a++b).data.toList=a.data.toList++b.data.toList:=by simp
theorem cN(k:Nat)(h:k<10):(UInt8.ofNat (48+k)).toNat=48+k:=by rw[UInt8.toNat_ofNat'];omega
theorem ZpT(n:Int):(Zio n).data.toList=ZrX n.toNat:=rfl
theorem ZbW{s:ZB}{l:List UInt8}(h:s.data.toList=l)(j:Nat):at8 s j=(((l[j]?).getD 0).toNat:Int):=by unfold at8;rw[h]
theorem ZsW{s:ZB}{l:List UInt8}(h:s.data.toList=l):s.size=l.length:=by rw[<-h,ZDL];rfl
theorem ZDh{t:ZB}(h:t.size=2):Zj t=(at8 t 0-48)*10+(at8 t 1-48):=by unfold Zj;rw[h];simp only[Zis];omega
theorem ZDo{t:ZB}(h:t.size=4):Zj t=(((at8 t 0-48)*10+(at8 t 1-48))*10+(at8 t 2-48))*10+(at8 t 3-48):=by unfold Zj;rw[h];simp only[Zis];omega
theorem Zef{s:ZB}(a:Nat)(h:a+2<=s.size):Zj (s.extract a (a+2))=(at8 s a-48)*10+(at8 s (a+1)-48):=by
 rw[ZDh (by rw[Zao s a _ h];omega),ZcD s a _ 0 (by omega) h,ZcD s a _ 1 (by omega) h];rfl
theorem Zi2(c:UInt8)(H M:Int)(h0:0<=H)(h1:H<=14)(m0:0<=M)(m1:M<=59){t:ZB}(ht:t=Zg7 c++ZbS H M):
  t.size=6/\at8 t 0=(c.toNat:Int)/\shB (t.extract 1 t.size) p5=true/\Zj ((t.extract 1 t.size).extract 0 2)=H/\Zj ((t.extract 1 t.size).extract 3 5)=M:=by
 obtain⟨a,rfl⟩:∃a:Nat,H=(a:Int):=⟨H.toNat,by omega⟩;obtain⟨b,rfl⟩:∃b:Nat,M=(b:Int):=⟨M.toNat,by omega⟩;have hl:t.data.toList=[c,UInt8.ofNat (48+a/10%10),UInt8.ofNat (48+a%10),58,UInt8.ofNat (48+b/10%10),UInt8.ofNat (48+b%10)]:=by
  rw[ht,ZBV];unfold ZbS;rw[ZBV,ZBV];rfl
 have hs:t.size=6:=ZsW hl;have a0:at8 t 0=(c.toNat:Int):=ZbW hl 0;have a1:at8 t 1=((48+a/10%10:Nat):Int):=by rw[ZbW hl 1];exact Zn _ (cN _ (by omega))
 have a2:at8 t 2=((48+a%10:Nat):Int):=by rw[ZbW hl 2];exact Zn _ (cN _ (by omega))
 have a3:at8 t 3=58:=ZbW hl 3;have a4:at8 t 4=((48+b/10%10:Nat):Int):=by rw[ZbW hl 4];exact Zn _ (cN _ (by omega))
 have a5:at8 t 5=((48+b%10:Nat):Int):=by rw[ZbW hl 5];exact Zn _ (cN _ (by omega))
 have es:(t.extract 1 t.size).size=5:=by rw[Zao t 1 _ (Zb _),hs]
 have e:∀j,j<5->at8 (t.extract 1 t.size) j=at8 t (1+j):=λj hj=>ZcD t 1 _ j (by omega) (Zb _)
 refine⟨hs,a0,?_,?_,?_⟩
 ·refine ZhP es (λk hk=>?_);have hk5:k<5:=hk;rcases(show k=0\/k=1\/k=2\/k=3\/k=4 by omega) with q|q|q|q|q
  ·subst q;rw[Zd (by decide),e 0 (by omega),a1];simp[Z0];omega
  ·subst q;rw[Zd (by decide),e 1 (by omega),a2];simp[Z0];omega
  ·subst q;rw[Za (by decide),e 2 (by omega),a3];rfl
  ·subst q;rw[Zd (by decide),e 3 (by omega),a4];simp[Z0];omega
  ·subst q;rw[Zd (by decide),e 4 (by omega),a5];simp[Z0];omega
 ·have:=Zef (s:=t.extract 1 t.size) 0 (by omega);rw[show(0:Nat)+2=2 from rfl]at this;rw[this,e 0 (by omega),e 1 (by omega),a1,a2];omega
 ·have:=Zef (s:=t.extract 1 t.size) 3 (by omega);rw[show(3:Nat)+2=5 from rfl]at this;rw[this,e 3 (by omega),e 4 (by omega),a4,a5];omega
theorem ZsB(g:Bool)(z:Int)(h1 : -840<=z)(h2:z<=840)(hg:g=true\/z=0):zI (Zcq g z)=(g,z,true):=by
 cases g
 ·obtain rfl:z=0:=by simpa using hg
  rfl
 ·by_cases h0:z=0
  ·subst h0;unfold zI;rw[show Zcq true 0=⟨#[90]⟩ from rfl,Za (by decide),Zd rfl]
  ·by_cases hn:z<0
   ·have ht:Zcq true z=Zg7 45++ZbS (-z/60) (-z%60):=(by simp only[Zcq,ZQ,if_false];rw[Za h0,Zd hn]);obtain⟨s1,s2,s3,s4,s5⟩:=Zi2 45 (-z/60) (-z%60) (by omega) (by omega) (by omega) (by omega) ht;have s2':at8 (Zcq true z) 0=45:=s2;unfold zI;rw[Za (by omega),Za (λe=>by rw[e]at s1;exact absurd s1 (by decide)),Zd ⟨.inr s2',s3⟩,s4,s5,Za (by omega),Zd s2'];refine Prod.ext rfl (Prod.ext ?_ rfl);show -(-z/60*60 + -z%60)=z;omega
   ·have ht:Zcq true z=Zg7 43++ZbS (z/60) (z%60):=(by simp only[Zcq,ZQ,if_false];rw[Za h0,Za hn]);obtain⟨s1,s2,s3,s4,s5⟩:=Zi2 43 (z/60) (z%60) (by omega) (by omega) (by omega) (by omega) ht;have s2':at8 (Zcq true z) 0=43:=s2;unfold zI;rw[Za (by omega),Za (λe=>by rw[e]at s1;exact absurd s1 (by decide)),Zd ⟨.inl s2',s3⟩,s4,s5,Za (by omega),Za (by omega)];refine Prod.ext rfl (Prod.ext ?_ rfl);show z/60*60+z%60=z;omega
theorem ZpS{y mo d h mi s:Int}{g:Bool}{z:Int}(hd:Z8 y mo d h mi s g z=true){t:ZB}(ht:dtB y mo d h mi s g z=t):
  ZH t=true/\f0 t=y/\f1 t=mo/\f2 t=d/\f3 t=h/\f4 t=mi/\f5 t=s/\zI (Zu t)=(g,z,true)/\t.size<=25:=by
 have r:=Zpf hd;obtain⟨y1,y2,m1,m2,d1,d2,h1,h2,n1,n2,s1,s2,z1,z2,gz⟩:=r;have d3:=(ZfJ y mo).2;rw[dtB,Zd hd]at ht;obtain⟨Y,rfl⟩:∃a:Nat,y=(a:Int):=⟨y.toNat,by omega⟩;obtain⟨O,rfl⟩:∃a:Nat,mo=(a:Int):=⟨mo.toNat,by omega⟩;obtain⟨E,rfl⟩:∃a:Nat,d=(a:Int):=⟨d.toNat,by omega⟩;obtain⟨H,rfl⟩:∃a:Nat,h=(a:Int):=⟨h.toNat,by omega⟩;obtain⟨M,rfl⟩:∃a:Nat,mi=(a:Int):=⟨mi.toNat,by omega⟩;obtain⟨S,rfl⟩:∃a:Nat,s=(a:Int):=⟨s.toNat,by omega⟩;have e1:((Y:Int)/100).toNat=Y/100:=by omega
 have e2:((Y:Int)%100).toNat=Y%100:=by omega
 have hl:t.data.toList=[UInt8.ofNat (48+Y/100/10%10),UInt8.ofNat (48+Y/100%10),UInt8.ofNat (48+Y%100/10%10),UInt8.ofNat (48+Y%100%10),45,UInt8.ofNat (48+O/10%10),UInt8.ofNat (48+O%10),45,UInt8.ofNat (48+E/10%10),UInt8.ofNat (48+E%10),84,UInt8.ofNat (48+H/10%10),UInt8.ofNat (48+H%10),58,UInt8.ofNat (48+M/10%10),UInt8.ofNat (48+M%10),58,UInt8.ofNat (48+S/10%10),UInt8.ofNat (48+S%10)]++(Zcq g z).data.toList:=by
  rw[<-ht];unfold Zs2 Zg8 ZbS;simp only[ZBV,ZpT,ZrX,e1,e2,ZDK];rfl
 have hz6:(Zcq g z).size<=6:=by
  unfold Zcq;split
  ·decide
  ·split
   ·decide
   ·split<;>(unfold ZbS;simp only[Z5];exact(show 1+(2+(1+2))<=6 by decide))
 have hs:t.size=19+(Zcq g z).size:=by
  rw[ZsW hl,ZDz];rfl
 have g0:at8 t 0=((48+Y/100/10%10:Nat):Int):=by rw[ZbW hl 0];exact Zn _ (cN _ (by omega))
 have g1:at8 t 1=((48+Y/100%10:Nat):Int):=by rw[ZbW hl 1];exact Zn _ (cN _ (by omega))
 have g2:at8 t 2=((48+Y%100/10%10:Nat):Int):=by rw[ZbW hl 2];exact Zn _ (cN _ (by omega))
 have g3:at8 t 3=((48+Y%100%10:Nat):Int):=by rw[ZbW hl 3];exact Zn _ (cN _ (by omega))
 have g4:at8 t 4=45:=ZbW hl 4;have g5:at8 t 5=((48+O/10%10:Nat):Int):=by rw[ZbW hl 5];exact Zn _ (cN _ (by omega))
 have g6:at8 t 6=((48+O%10:Nat):Int):=by rw[ZbW hl 6];exact Zn _ (cN _ (by omega))
 have g7:at8 t 7=45:=ZbW hl 7;have g8:at8 t 8=((48+E/10%10:Nat):Int):=by rw[ZbW hl 8];exact Zn _ (cN _ (by omega))
 have g9:at8 t 9=((48+E%10:Nat):Int):=by rw[ZbW hl 9];exact Zn _ (cN _ (by omega))
 have g10:at8 t 10=84:=ZbW hl 10;have g11:at8 t 11=((48+H/10%10:Nat):Int):=by rw[ZbW hl 11];exact Zn _ (cN _ (by omega))
 have g12:at8 t 12=((48+H%10:Nat):Int):=by rw[ZbW hl 12];exact Zn _ (cN _ (by omega))
 have g13:at8 t 13=58:=ZbW hl 13;have g14:at8 t 14=((48+M/10%10:Nat):Int):=by rw[ZbW hl 14];exact Zn _ (cN _ (by omega))
 have g15:at8 t 15=((48+M%10:Nat):Int):=by rw[ZbW hl 15];exact Zn _ (cN _ (by omega))
 have g16:at8 t 16=58:=ZbW hl 16;have g17:at8 t 17=((48+S/10%10:Nat):Int):=by rw[ZbW hl 17];exact Zn _ (cN _ (by omega))
 have g18:at8 t 18=((48+S%10:Nat):Int):=by rw[ZbW hl 18];exact Zn _ (cN _ (by omega))
 have q0:f0 t=(Y:Int):=by
  unfold f0;rw[ZDo (by rw[Zao t 0 4 (by omega)]),ZcD t 0 4 0 (by omega) (by omega),ZcD t 0 4 1 (by omega) (by omega),ZcD t 0 4 2 (by omega) (by omega),ZcD t 0 4 3 (by omega) (by omega)];simp only[ZDE];rw[g0,g1,g2,g3];omega
 have q1:f1 t=(O:Int):=by unfold f1;rw[show(7:Nat)=5+2 from rfl,Zef 5 (by omega),g5,g6];omega
 have q2:f2 t=(E:Int):=by unfold f2;rw[show(10:Nat)=8+2 from rfl,Zef 8 (by omega),g8,g9];omega
 have q3:f3 t=(H:Int):=by unfold f3;rw[show(13:Nat)=11+2 from rfl,Zef 11 (by omega),g11,g12];omega
 have q4:f4 t=(M:Int):=by unfold f4;rw[show(16:Nat)=14+2 from rfl,Zef 14 (by omega),g14,g15];omega
 have q5:f5 t=(S:Int):=by unfold f5;rw[show(19:Nat)=17+2 from rfl,Zef 17 (by omega),g17,g18];omega
 have qt:Zu t=Zcq g z:=by
  apply ByteArray.ext;apply Array.ext';unfold Zu;rw[Lib.extract_to_end,hl];rfl
 have qz:zI (Zu t)=(g,z,true):=by rw[qt];exact ZsB g z z1 z2 gz
 have hm:min t.size 19=19:=by omega
 have hsz:(Zej t).size=19:=by unfold Zej;rw[hm,Zao t 0 19 (by omega)]
 have hat:∀j,j<19->at8 (Zej t) j=at8 t j:=λj hj=>by unfold Zej;rw[hm,ZcD t 0 19 j (by omega) (by omega),ZDE]
 have qs:shB (Zej t) p19=true:=by
  refine ZhP hsz (λk hk=>?_);have hk19:k<19:=hk;rw[hat k hk19];rcases(show k=0\/k=1\/k=2\/k=3\/k=4\/k=5\/k=6\/k=7\/k=8\/k=9\/k=10\/k=11\/k=12\/k=13\/k=14\/k=15\/k=16\/k=17\/k=18 by omega) with q|q|q|q|q|q|q|q|q|q|q|q|q|q|q|q|q|q|q
  all_goals subst q
  all_goals first|(rw[Za (by decide)];first|(rw[g4];rfl)|(rw[g7];rfl)|(rw[g10];rfl)|(rw[g13];rfl)|(rw[g16];rfl))|(rw[Zd (by decide)];first|rw[g0]|rw[g1]|rw[g2]|rw[g3]|rw[g5]|rw[g6]|rw[g8]|rw[g9]|rw[g11]|rw[g12]|rw[g14]|rw[g15]|rw[g17]|rw[g18]);(simp[Z0];omega)
 refine⟨?_,q0,q1,q2,q3,q4,q5,qz,by omega⟩;unfold ZH;rw[qs,qz,q0,q1,q2,q3,q4,q5,hd];rfl
end
section
open Go.RowKit Go.Joins
theorem ZhL:(prog.info? 4).map (λi=>(i.zero,i.size,i.bytes))=some (some (.bool false),1,1):=by kernel_rfl
def Zkt(w:World)(a:Option Addr)(f:List Bool)(B:Nat):Prop:=∃b off,a=some ⟨b,off,none⟩/\b<B/\∀j,j<f.length->w.cell? ⟨b,off+j,none⟩=some (.bool (f[j]?.getD false))
theorem Zpd{w w':World}{a:Option Addr}{f:List Bool}{B:Nat}(h:Zkt w a f B)(hb:Below B w w'):Zkt w' a f B:=by
 obtain⟨b,off,e,hl,hc⟩:=h;exact⟨b,off,e,hl,λj hj=>(hb.cell (p:=⟨b,off+j,none⟩) hl).trans (hc j hj)⟩
theorem Zp5{w:World}{a:Option Addr}{f:List Bool}{B B':Nat}(h:Zkt w a f B)(hB:B<=B'):Zkt w a f B':=by
 obtain⟨b,off,e,hl,hc⟩:=h;exact⟨b,off,e,ZDy hl hB,hc⟩
def BoX(B:Nat)(w:World)(g c n:Nat)(f:List Bool):Prop:=f.length=n/\w.ownsRow B 4 1 (.slice (some ⟨g,0,none⟩) n c) n (f.map Value.bool)
theorem Zbq{B:Nat}{w:World}{g c n:Nat}{f:List Bool}(h:BoX B w g c n f):B<=g/\g<w.heap.size/\∀j,j<n->w.cell? ⟨g,j,none⟩=some (.bool (f[j]?.getD false)):=by
 have hl:=h.2.lt g rfl;refine⟨hl.1,hl.2,λj hj=>?_⟩;rw[World.ownsRow.cellAt h.2 j (by omega),List.getElem?_map,Zv (by rw[h.1];exact hj)];rfl
theorem Zi0{B:Nat}{w:World}{g c n:Nat}{f:List Bool}(h:BoX B w g c n f):Zkt w (some ⟨g,0,none⟩) f w.heap.size:=by
 obtain⟨-,h2,h3⟩:=Zbq h;exact⟨g,0,rfl,h2,λj hj=>by rw[ZDE];exact h3 j (by rw[<-h.1];exact hj)⟩
theorem Zf5{B:Nat}{w w2:World}{g c n:Nat}{f:List Bool}(h:BoX B w g c n f)(hb:ZL w w2):BoX B w2 g c n f:=⟨h.1,ZbX h.2 hb⟩
theorem ZdM{B B':Nat}{w:World}{g c n:Nat}{f:List Bool}(h:BoX B w g c n f)(hB:B'<=B):BoX B' w g c n f:=⟨h.1,Zps h.2 hB⟩
theorem ZfA{B:Nat}{w:World}{g c n:Nat}{f:List Bool}(h:BoX B w g c n f)(j:Nat)(v:Bool):BoX B (w.setCell ⟨g,j,none⟩ (.bool v)) g c n (f.set j v):=by
 refine⟨by rw[List.length_set];exact h.1,?_⟩;have:=(h.2.stored j (.bool v)).1;rw[List.map_set];exact this
theorem Zd7{B:Nat}{w:World}{g c n:Nat}{f:List Bool}(h:BoX B w g c n f)(j:Nat):w.frozen? ⟨g,j,none⟩=false:=h.2.frozenAt j
theorem Zki{B:Nat}{w:World}{g c n:Nat}{f:List Bool}(h:BoX B w g c n f){p:Addr}(hp:p.block≠g)(v:Value):BoX B (w.setCell p v) g c n f:=⟨h.1,ZtH h.2 p v (by simp[Value.ownBlock];exact λe=>hp e.symm)⟩
theorem Zih{B:Nat}{w:World}{g c n:Nat}{f:List Bool}(h:BoX B w g c n f)(o:Obj):BoX B (w.alloc o) g c n f:=⟨h.1,World.ownsRow.alloc h.2 o⟩
theorem ZBw{B:Nat}{w:World}{ad:Option Addr}{c n:Nat}{f:List Bool}(hl:f.length=n)(h0:0<n)(h:w.ownsRow B 4 1 (.slice ad n c) n (f.map Value.bool)):∃g,ad=some ⟨g,0,none⟩/\BoX B w g c n f:=by
 rcases h.2 with ⟨-,hz⟩|⟨g,cap,cur,hv,-⟩
 ·omega
 ·simp only[ZDG]at hv;obtain⟨rfl,-,-⟩:=hv;exact⟨g,rfl,hl,h⟩
theorem ZBP{w:World}{b off:Nat}{f:List Bool}(h:∀j,j<f.length->w.cell? ⟨b,off+j,none⟩=some (.bool (f[j]?.getD false))):∀j u,(f.map Value.bool)[j]?=some u->w.cell? ((⟨b,off,none⟩:Addr).add j)=some u:=by
 intro j u hu;have hadd:(⟨b,off,none⟩:Addr).add j=⟨b,off+j,none⟩:=by unfold Addr.add;split<;>simp_all
 have hj:j<f.length:=by
  rcases Nat.lt_or_ge j f.length with h'|h'
  ·exact h'
  ·rw[List.getElem?_eq_none (by rw[ZDD];exact h')]at hu;cases hu
 rw[hadd,h j hj];rw[List.getElem?_map,Zv hj]at hu;rw[Zv hj];exact hu
theorem ZrQ(L:List Bool):∀u∈L.map Value.bool,u.oneCell'=true:=by
 intro u hu;obtain⟨z,-,rfl⟩:=List.mem_map.1 hu;rfl
theorem ZnR(f:List Bool)(j:Nat)(v:Bool)(hj:j<f.length)(b:Nat):(f.set j v)[b]?.getD false=if b=j then v else f[b]?.getD false:=by
 by_cases e:b=j
 ·subst e;rw[Zd rfl,List.getElem?_set_self hj];rfl
 ·rw[Za e,List.getElem?_set_ne (λh=>e h.symm)]
def Fwd(f g:List Bool)(m:Nat)(R:Nat->Nat->Prop):Prop:=∀b,b<=m->(g[b]?.getD false=true↔∃a,a<=m/\f[a]?.getD false=true/\R a b)
theorem ZeL{f g:List Bool}{m:Nat}{R R':Nat->Nat->Prop}(h:Fwd f g m R)(hR:∀a b,R a b↔R' a b):Fwd f g m R':=λb hb=>by
 rw[h b hb];constructor
 ·rintro ⟨a,h1,h2,h3⟩;exact⟨a,h1,h2,(hR a b).1 h3⟩
 ·rintro ⟨a,h1,h2,h3⟩;exact⟨a,h1,h2,(hR a b).2 h3⟩
end
section
open Go.RowKit
theorem Zkc{n:Bool}{s:ZB}{c:Int}(h:ZP n s c=true):Zin (Zi8 121 s (60-c).toNat s.size)=(mag s c:Int):=by
 obtain⟨hs,hc0,hc1⟩:=Zbm h;rw[Zua s _ 121 (by omega) (ZaT h),mag]
 push_cast
 rw[Int.mul_comm]
theorem Zwi(s:ZB)(c:Int):(0:Int)<=(mag s c:Int):=by omega
theorem ivF(s:ZB)(c:Int):ZaK false s c=(mag s c:Int):=rfl
theorem ivT(s:ZB)(c:Int):ZaK true s c = -(mag s c:Int):=rfl
theorem Zud(a b:Int):ZnC (-a) (-b)=ZnC b a:=by unfold ZnC;split<;>split<;>(try split)<;>(try split)<;>first|rfl|omega
theorem ZbR{w wn:World}(h:Below w.drew.heap.size w.drew wn):ZL w wn:=⟨h.os,h.tape,h.output,h.size,h.block⟩
theorem ZCB(n m:Bool)(s t:ZB)(c d:Int)(w:World)(hs:s.size<=maxLen)(ht:t.size<=maxLen):
  Calls prog 175 #[.agg #[.bool n,.string s,I c],.agg #[.bool m,.string t,I d]] w λe w'=>
   e=.returned (I (Zho n s c m t d))/\ZL w w':=by
 cases h1:ZP n s c
 ·have HV:=J (show Zho n s c m t d=2 by simp[Zho,h1]);go_enter func175,ntmps175
  go_wp2_with fail
  refine ZM (ZbZ n s c _ hs) ?_;rintro w1 hb1;obtain⟨hx1,hx2,hb⟩:=Za6 hb1;have HB:=J hb;clear hx1 hx2 hb1 hb;go_wp2;go_ret;exact⟨ZaO HV.out.symm,HB.out⟩
 ·cases h2:ZP m t d
  ·have HV:=J (show Zho n s c m t d=2 by simp[Zho,h2]);go_enter func175,ntmps175
   go_wp2_with fail
   refine ZM (ZbZ n s c _ hs) ?_;rintro w1 hb1;obtain⟨hx1,hx2,hb⟩:=Za6 hb1;have HB:=J hb;obtain⟨l0,l1,l2,l3⟩:=hx2;clear hx1 hb1 hb l0;go_wp2_with fail
   refine ZM (ZbZ m t d _ ht) ?_;rintro w2 hb2;have HB2:=J (Zaw HB.out hb2);clear hb2;go_wp2;go_ret;exact⟨ZaO HV.out.symm,HB2.out⟩
  ·have HV:=J (show Zho n s c m t d=ZnC (ZaK n s c) (ZaK m t d) by simp[Zho,h1,h2]);have H1:=J h1;have H2:=J h2;cases n<;>cases m
   ·go_enter func175,ntmps175
    go_wp2_with fail
    refine ZM (ZbZ _ s c _ hs) ?_;rintro w1 hb1;obtain⟨hx1,hx2,hb⟩:=Za6 hb1;have HB:=J hb;have HX1:=J hx1;have HX2:=J hx2;obtain⟨l0,l1,l2,l3⟩:=hx2;clear hx1 hb1 hb l0;go_wp2_with fail
    refine ZM (ZbZ _ t d _ ht) ?_;rintro w2 hb2;have HB2:=J (Zaw HB.out hb2);have HXa:=J (ZaC HX1.out hb2);have HXb:=J (ZaC HX2.out hb2);have HBc:=HB2;obtain⟨k0,k1,k2,k3⟩:=HXa.out;obtain⟨l0,l1,l2,l3⟩:=HXb.out;clear hb2 l0 k0;go_wp2;go_region_with (first|(go_at_call 214;refine ZM (ZsT _ _ _ _ (by first|exact H1.out|exact H2.out)) ?_;rintro wn hbn;(first|replace hbn:=ZbR hbn|skip);replace HBc:=J (Zaw HBc.out hbn);replace HXa:=J (ZaC HXa.out hbn);replace HXb:=J (ZaC HXb.out hbn);clear k1 k2 k3 l1 l2 l3 hbn;obtain⟨k0,k1,k2,k3⟩:=HXa.out;obtain⟨l0,l1,l2,l3⟩:=HXb.out;clear k0 l0)|(go_at_call 213;refine ZM (ZkZ _ _ _ (Zeu _ _ _ _) (Zeu _ _ _ _) (ZjO _ _ _ (by first|exact ZaT H1.out|exact ZaT H2.out)) (ZjO _ _ _ (by first|exact ZaT H1.out|exact ZaT H2.out))) ?_;rintro wn hbn;(first|replace hbn:=ZbR hbn|skip);replace HBc:=J (Zaw HBc.out hbn);clear hbn))
    all_goals
     go_wp2;go_ret;exact⟨ZaO (by rw[HV.out,Zkc H1.out,Zkc H2.out];rfl),HBc.out⟩
   ·go_enter func175,ntmps175
    go_wp2_with fail
    refine ZM (ZbZ _ s c _ hs) ?_;rintro w1 hb1;obtain⟨hx1,hx2,hb⟩:=Za6 hb1;have HB:=J hb;have HX1:=J hx1;have HX2:=J hx2;obtain⟨l0,l1,l2,l3⟩:=hx2;clear hx1 hb1 hb l0;go_wp2_with fail
    refine ZM (ZbZ _ t d _ ht) ?_;rintro w2 hb2;have HB2:=J (Zaw HB.out hb2);obtain⟨k0,k1,k2,k3⟩:=ZaC HX1.out hb2;obtain⟨l0,l1,l2,l3⟩:=ZaC HX2.out hb2;clear hb2 l0 k0;go_wp2;go_ret;exact⟨ZaO (by rw[HV.out,ivF,ivT,ZfD];have:=ZeR H2.out;have:=Zwi s c;omega),HB2.out⟩
   ·go_enter func175,ntmps175
    go_wp2_with fail
    refine ZM (ZbZ _ s c _ hs) ?_;rintro w1 hb1;obtain⟨hx1,hx2,hb⟩:=Za6 hb1;have HB:=J hb;have HX1:=J hx1;have HX2:=J hx2;obtain⟨l0,l1,l2,l3⟩:=hx2;clear hx1 hb1 hb l0;go_wp2_with fail
    refine ZM (ZbZ _ t d _ ht) ?_;rintro w2 hb2;have HB2:=J (Zaw HB.out hb2);obtain⟨k0,k1,k2,k3⟩:=ZaC HX1.out hb2;obtain⟨l0,l1,l2,l3⟩:=ZaC HX2.out hb2;clear hb2 l0 k0;go_wp2;go_ret;exact⟨ZaO (by rw[HV.out,ivF,ivT,ZfC];have:=ZeR H1.out;have:=Zwi t d;omega),HB2.out⟩
   ·go_enter func175,ntmps175
    go_wp2_with fail
    refine ZM (ZbZ _ s c _ hs) ?_;rintro w1 hb1;obtain⟨hx1,hx2,hb⟩:=Za6 hb1;have HB:=J hb;have HX1:=J hx1;have HX2:=J hx2;obtain⟨l0,l1,l2,l3⟩:=hx2;clear hx1 hb1 hb l0;go_wp2_with fail
    refine ZM (ZbZ _ t d _ ht) ?_;rintro w2 hb2;have HB2:=J (Zaw HB.out hb2);have HXa:=J (ZaC HX1.out hb2);have HXb:=J (ZaC HX2.out hb2);have HBc:=HB2;obtain⟨k0,k1,k2,k3⟩:=HXa.out;obtain⟨l0,l1,l2,l3⟩:=HXb.out;clear hb2 l0 k0;go_wp2;go_region_with (first|(go_at_call 214;refine ZM (ZsT _ _ _ _ (by first|exact H1.out|exact H2.out)) ?_;rintro wn hbn;(first|replace hbn:=ZbR hbn|skip);replace HBc:=J (Zaw HBc.out hbn);replace HXa:=J (ZaC HXa.out hbn);replace HXb:=J (ZaC HXb.out hbn);clear k1 k2 k3 l1 l2 l3 hbn;obtain⟨k0,k1,k2,k3⟩:=HXa.out;obtain⟨l0,l1,l2,l3⟩:=HXb.out;clear k0 l0)|(go_at_call 213;refine ZM (ZkZ _ _ _ (Zeu _ _ _ _) (Zeu _ _ _ _) (ZjO _ _ _ (by first|exact ZaT H1.out|exact ZaT H2.out)) (ZjO _ _ _ (by first|exact ZaT H1.out|exact ZaT H2.out))) ?_;rintro wn hbn;(first|replace hbn:=ZbR hbn|skip);replace HBc:=J (Zaw HBc.out hbn);clear hbn))
    all_goals
     go_wp2;go_ret;exact⟨ZaO (by rw[HV.out,Zkc H1.out,Zkc H2.out,ivT,ivT,Zud]),HBc.out⟩
end
end Go.Proofs.YtcdnilpdohknfaaGreatDoor
