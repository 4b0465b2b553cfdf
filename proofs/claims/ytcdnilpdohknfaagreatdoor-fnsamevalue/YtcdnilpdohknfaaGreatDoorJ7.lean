import Derived.Test.YtcdnilpdohknfaaGreatDoorJ4
import Derived.Test.YtcdnilpdohknfaaGreatDoorJ5
import Derived.Lib.IndexMore
import Derived.Laws.Cover1
import Derived.Laws.Tables
import Derived.Laws.CopyOwn
import Derived.Laws.World
set_option linter.unusedVariables false
set_option linter.unusedSimpArgs false
set_option maxRecDepth 100000
set_option maxHeartbeats 16000000
namespace Go.Proofs.YtcdnilpdohknfaaGreatDoor
open Tryz
section
open Go.RowKit Go.Joins

section
variable {w w1 w2:World} {b o b' o':Nat} {X:Rx} {k:Nat} {ad:Option Addr} {cp:Nat} {ad':Option Addr} {cp':Nat}
end
structure Kp (S:Nat->Prop) (w w':World):Prop where
 os:w'.os=w.os
 tape:w'.tape=w.tape
 output:w'.output=w.output
 size:w.heap.size<=w'.heap.size
 block:∀k,k<w.heap.size->¬S k->w'.heap[k]?=w.heap[k]?
theorem Kp.refl(S:Nat->Prop)(w:World):Kp S w w:=⟨rfl,rfl,rfl,Zb _,λ_ _ _=>rfl⟩
theorem Kp.trans{S T:Nat->Prop}{w w1 w2:World}(h:Kp S w w1)(k:Kp T w1 w2)(hT:∀j,j<w.heap.size->T j->S j):Kp S w w2:=
 ⟨k.os.trans h.os,k.tape.trans h.tape,k.output.trans h.output,ZDA h.size k.size,λj hj hs=>(k.block j (ZDy hj h.size) (λht=>hs (hT j hj ht))).trans (h.block j hj hs)⟩
theorem Zca{S:Nat->Prop}{w w':World}{row:Option Nat}(h:w.grownBy w' row)(hS:∀k,row=some k->S k):Kp S w w':=
 ⟨h.os,h.tape,h.output,h.size,λk hk hs=>h.block k hk (λe=>hs (hS k e.symm))⟩
theorem Zex{S:Nat->Prop}(w:World)(p:Addr)(v:Value)(h:S p.block):Kp S w (w.setCell p v):=
 ⟨rfl,rfl,rfl,by rw[ZcS];exact Zb _,λk hk hs=>Zc9 _ _ _ _ (λe=>hs (by rw[<-e];exact h))⟩
theorem Zay{S:Nat->Prop}(w:World)(o:Obj):Kp S w (w.alloc o):=Zca (ZEn w o none) (λk hk=>by cases hk)
theorem ZhM{S:Nat->Prop}(w:World):Kp S w w.drew:=⟨rfl,rfl,rfl,Zb _,λ_ _ _=>rfl⟩
theorem Zar{S:Nat->Prop}(w:World)(q:Nat):Kp S w (w.drewN q):=⟨rfl,rfl,rfl,Zb _,λ_ _ _=>rfl⟩
theorem ZaB{S:Nat->Prop}{B:Nat}{w w':World}(h:Kp S w w')(hB:B<=w.heap.size)(hS:∀k,S k->B<=k):Below B w w':=
 ⟨h.os,h.tape,h.output,h.size,λk hk=>h.block k (ZDy hk hB) (λhs=>by have:=hS k hs;omega)⟩
theorem Zcd{S:Nat->Prop}{w w':World}{B e z n:Nat}{v:Value}{xs:List Value}(h:w.ownsRow B e z v n xs)(k:Kp S w w')(hS:∀j,v.ownBlock=some j->¬S j):w'.ownsRow B e z v n xs:=by
 obtain⟨hl,h⟩:=h;refine⟨hl,?_⟩;rcases h with h|⟨g,cap,cur,hv,hg,hh,h1,h2,h3,h4⟩
 ·exact .inl h
 ·exact .inr ⟨g,cap,cur,hv,hg,(k.block g (Array.getElem?_eq_some_iff.1 hh).1 (hS g (by rw[hv];rfl))).trans hh,h1,h2,h3,h4⟩
theorem Zff{w:World}{B e z n k:Nat}{v:Value}{xs:List Value}(h:w.ownsRow B e z v n xs)(hk:v.ownBlock=some k):∃cur,w.heap[k]?=some (.cells cur e (0,0)):=by
 rcases h.2 with ⟨rfl,-⟩|⟨g,cap,cur,hv,-,hh,-⟩
 ·cases hk
 ·rw[hv]at hk;have:g=k:=by simpa[Value.ownBlock] using hk
  subst this;exact⟨cur,hh⟩
theorem Zbf{w:World}{B e z n k:Nat}{v:Value}{xs:List Value}(h:w.ownsRow B e z v n xs)(hk:v.ownBlock=some k){cs:Array Value}{t:TypeId}{fr:Nat×Nat}{R:Nat}(hR:w.heap[R]?=some (.cells cs t fr))(ht:e≠t):k≠R:=by
 rintro rfl;obtain⟨cur,hc⟩:=Zff h hk;rw[hc]at hR;simp only[ZDJ,Obj.cells.injEq]at hR;exact ht hR.2.1
theorem Zwz{w:World}{B e z n k B' e' z' n' k':Nat}{v v':Value}{xs xs':List Value}(h:w.ownsRow B e z v n xs)(hk:v.ownBlock=some k)(h':w.ownsRow B' e' z' v' n' xs')(hk':v'.ownBlock=some k')(ht:e≠e'):k≠k':=by
 obtain⟨cur,hc⟩:=Zff h' hk';exact Zbf h hk hc ht
end
def ZeC:List UInt8->Nat
 |[]=>0
 |b::l=>if b=46 then 0 else ZeC l+1
theorem Zmc:∀l,ZeC l<=l.length
 |[]=>Zb _
 |b::l=>by unfold ZeC;have:=Zmc l;split<;>simp<;>omega
theorem Zei:∀(l:List UInt8) (k:Nat),k<=l.length->(∀j,j<k->l[j]?≠some 46)->(k=l.length\/l[k]?=some 46)->ZeC l=k
 |[],k,h,_,_=>by
             have:k=0:=by simpa using h
             subst this;rfl
 |b::l,0,_,_,h2=>by
  rcases h2 with h2|h2
  ·simp at h2
  ·have:b=46:=by simpa using h2
   unfold ZeC;rw[Zd this]
 |b::l,k+1,h,h1,h2=>by
  have hb:b≠46:=λe=>h1 0 (by omega) (by simp[e])
  unfold ZeC;rw[Za hb,Zei l k (by simpa using h) (λj hj=>by have:=h1 (j+1) (by omega);simpa using this) (by simpa using h2)]
theorem ZlH:∀l:List UInt8,Lib.index l [46]=if ZeC l<l.length then (ZeC l:Int) else -1
 |[]=>rfl
 |b::l=>by
  rw[Lib.index,ZlH l];by_cases h:b=46
  ·subst h;have e:([46]:List UInt8).isPrefixOf (46::l)=true:=by simp
   rw[Zd e];simp[ZeC]
  ·have e:([46]:List UInt8).isPrefixOf (b::l)=false:=by
    rw[List.isPrefixOf];have:((46:UInt8)==b)=false:=by simpa using λe=>h e.symm
    rw[this];rfl
   rw[e];by_cases hd:ZeC l<l.length
   ·have h1:((ZeC l:Int) == -1)=false:=(by simp);have h2:ZeC (b::l)<(b::l).length:=(by simp[ZeC,h,hd]);rw[Zd hd,Zd h2,h1];simp[ZeC,h]
   ·have h2:¬ZeC (b::l)<(b::l).length:=(by simp[ZeC,h,hd]);rw[Za hd,Za h2];rfl
theorem ZsH(l:List UInt8):(Lib.cut l [46]).1=l.take (ZeC l)/\(Lib.cut l [46]).2.1=l.drop (ZeC l+1):=by
 unfold Lib.cut;rw[ZlH];by_cases h:ZeC l<l.length
 ·rw[Zd h,Zd (by omega)];simp
 ·have hl:=Zmc l;rw[Za h,Za (by omega)];exact⟨(ZD2 (show l.length<=ZeC l by omega)).symm,(List.drop_eq_nil_of_le (show l.length<=ZeC l+1 by omega)).symm⟩
def Zbg(r:ZB):ZB:=r.extract 0 (ZeC r.data.toList)
def ZbV(r:ZB):ZB:=r.extract (ZeC r.data.toList+1) r.size
theorem Zgi(r:ZB):(Zbg r).data.toList=r.data.toList.take (ZeC r.data.toList):=by rw[Zbg,ZaQ];simp
theorem Zhw(r:ZB):(ZbV r).data.toList=r.data.toList.drop (ZeC r.data.toList+1):=by
 have hl:r.data.toList.length=r.size:=by simp
 rw[ZbV,ZaQ,ZD2 (by rw[ZDC];omega)]
theorem Zst(r:ZB):(⟨(Lib.cut r.data.toList (⟨#[46]⟩:ZB).data.toList).1.toArray⟩:ZB)=Zbg r:=by
 apply Zdf;rw[Zgi];exact(ZsH _).1
theorem Zuj(r:ZB):(⟨(Lib.cut r.data.toList (⟨#[46]⟩:ZB).data.toList).2.1.toArray⟩:ZB)=ZbV r:=by
 apply Zdf;rw[Zhw];exact(ZsH _).2
theorem ZbD(s:ZB):Zr s=true↔dgL s.data.toList:=by
 refine⟨ZgY s,λh=>Zdr s (λj hj=>?_)⟩;have:=h s[j] (by have e:s[j]=s.data.toList[j]'(by simpa using hj):=rfl;rw[e];exact ZD3 _);simp only[Z0,Z6];omega
theorem ZcW(a b:ZB):Zr (a++b)=(Zr a&&Zr b):=by
 rw[Bool.eq_iff_iff,ZW,ZbD,ZbD,ZbD,ZaD];exact⟨λh=>⟨λc hc=>h c (List.mem_append_left _ hc),λc hc=>h c (List.mem_append_right _ hc)⟩,λh=>ZhQ h.1 h.2⟩
def ZS(r:ZB):Bool:=decide (180<r.size)||(!Zr (Zbg r)||(!Zr (ZbV r)||decide ((Zbg r++ZbV r).size=0)))
def Zy(n:Bool)(r:ZB):Bool×ZB×Int×Bool:=
 if ZS r=true then (false,ByteArray.empty,0,false) else Za5 n (Zw (Zbg r++ZbV r).data.toList) (ZbV r).size
def Zhr(s:ZB):Bool:=decide (0<s.size/\at8 s 0=45)
def ZcF(s:ZB):ZB:=if 0<s.size/\(at8 s 0=45\/at8 s 0=43) then s.extract 1 s.size else s
def ZC(s:ZB):Bool×ZB×Int×Bool:=Zy (Zhr s) (ZcF s)
theorem ZlF(s:ZB):(ZcF s).size<=s.size:=by unfold ZcF;split<;>simp
theorem Zeo(r:ZB):(Zbg r).size<=r.size/\(ZbV r).size<=r.size/\(Zbg r++ZbV r).size<=r.size:=by
 have h1:(Zbg r).size=min (ZeC r.data.toList) r.size:=by simp[Zbg]
 have h2:(ZbV r).size=r.size-(ZeC r.data.toList+1):=by simp[ZbV]
 have h3:=Zmc r.data.toList;have hl:r.data.toList.length=r.size:=by simp
 rw[Z5];omega
theorem Zke(s:ZB)(c:UInt8):Lib.hasPrefix s.data.toList [c]=decide (0<s.size/\at8 s 0=(c.toNat:Int)):=by
 rw[Bool.eq_iff_iff,Z6];rcases(show s.size=0\/0<s.size by omega) with h|h
 ·have e:s.data.toList=[]:=by apply List.length_eq_zero_iff.1;simpa using h
  rw[e];simp[Lib.hasPrefix,h]
 ·have e:=ZhV s h;rw[ZaX s 0 h,e];simp only[Lib.hasPrefix,List.isPrefixOf,Bool.and_true,ZEd];constructor
  ·intro h2;exact⟨h,by rw[<-h2]⟩
  ·rintro ⟨_,h2⟩;exact UInt8.toNat_inj.1 (by omega)
theorem ZkP(s:ZB)(c:UInt8):(⟨(Lib.trimPrefix s.data.toList [c]).toArray⟩:ZB)=if Lib.hasPrefix s.data.toList [c]=true then s.extract 1 s.size else s:=by
 have hl:s.data.toList.length=s.size:=by simp
 unfold Lib.trimPrefix;split
 ·apply Zdf;rw[ZaQ,ZD2 (by rw[ZDC];omega)];rfl
 ·apply Zdf;simp
section
open Go.RowKit
def Zej(s:ZB):ZB:=s.extract 0 (min s.size 19)
def Zu(s:ZB):ZB:=s.extract 19 s.size
def f0(s:ZB):Int:=Zj (s.extract 0 4)
def f1(s:ZB):Int:=Zj (s.extract 5 7)
def f2(s:ZB):Int:=Zj (s.extract 8 10)
def f3(s:ZB):Int:=Zj (s.extract 11 13)
def f4(s:ZB):Int:=Zj (s.extract 14 16)
def f5(s:ZB):Int:=Zj (s.extract 17 19)
def ZH(s:ZB):Bool:=shB (Zej s) p19&&((zI (Zu s)).2.2&&Z8 (f0 s) (f1 s) (f2 s) (f3 s) (f4 s) (f5 s) (zI (Zu s)).1 (zI (Zu s)).2.1)
def Zku(s:ZB):Bool:=decide (at8 s 4=45)&&(decide (at8 s 7=45)&&(decide (at8 s 10=84)&&(decide (at8 s 13=58)&&decide (at8 s 16=58))))
theorem ZeJ{s:ZB}(h:19<=s.size):Zej s=s.extract 0 19:=by unfold Zej;rw[Nat.min_eq_right h]
theorem ZmZ{s:ZB}(h:19<=s.size){j:Nat}(hj:j<19):at8 (Zej s) j=at8 s j:=by
 rw[ZeJ h,ZcD s 0 19 j (by omega) h,ZDE]
theorem Zrw{s:ZB}{a b:Nat}(hb:b<=s.size)(h:∀j,a+j<b->Z0 (at8 s (a+j))=true):Zr (s.extract a b)=true:=by
 apply Zdr;intro j hj;rw[Zao s a b hb]at hj;rw[<-ZaX _ j (by rw[Zao s a b hb];exact hj),ZcD s a b j (by omega) hb];exact h j (by omega)
theorem Zcx{s:ZB}{a b:Nat}(hb:b<=s.size)(h:Zr (s.extract a b)=true){j:Nat}(hj:a+j<b):Z0 (at8 s (a+j))=true:=by
 have:=Zfg _ h j (by rw[Zao s a b hb];omega)
 rwa [<-ZaX _ j (by rw[Zao s a b hb];omega),ZcD s a b j hj hb]at this
def ZpK(s:ZB):Bool:=Zr (s.extract 0 4)&&(Zr (s.extract 5 7)&&(Zr (s.extract 8 10)&&(Zr (s.extract 11 13)&&(Zr (s.extract 14 16)&&Zr (s.extract 17 19)))))
theorem Zga{s:ZB}(h:19<=s.size):shB (Zej s) p19=(Zku s&&ZpK s):=by
 have hsz:(Zej s).size=p19.size:=by rw[ZeJ h,Zao s 0 19 h];rfl
 rw[Bool.eq_iff_iff];constructor
 ·intro q;have hk:=(ZlD q).2;have k:∀j,j<19->(if at8 p19 j=48 then Z0 (at8 s j) else decide (at8 s j=at8 p19 j))=true:=λj hj=>by
   have:=hk j hj;rwa [ZmZ h hj]at this
  have d:∀j,j<19->at8 p19 j=48->Z0 (at8 s j)=true:=λj hj e=>by have:=k j hj;rwa [Zd e]at this
  have g:∀j,j<19->∀v,at8 p19 j=v->¬v=48->at8 s j=v:=λj hj v e ne=>by
   have:=k j hj;rw[Za (by rw[e];exact ne),e]at this;exact ZDY this
  have e4:=g 4 (by omega) 45 rfl (by decide);have e7:=g 7 (by omega) 45 rfl (by decide);have e10:=g 10 (by omega) 84 rfl (by decide);have e13:=g 13 (by omega) 58 rfl (by decide);have e16:=g 16 (by omega) 58 rfl (by decide);have a0:Zr (s.extract 0 4)=true:=Zrw (by omega) (λj hj=>by
   have hj4:j=0\/j=1\/j=2\/j=3:=by omega
   rcases hj4 with rfl|rfl|rfl|rfl
   all_goals exact d _ (by omega) rfl)
  have two:∀a,a+2<=19->at8 p19 a=48->at8 p19 (a+1)=48->Zr (s.extract a (a+2))=true:=λa ha q0 q1=>Zrw (by omega) (λj hj=>by
   obtain rfl|rfl:j=0\/j=1:=by omega
   ·exact d _ (by omega) q0
   ·exact d _ (by omega) q1)
  simp only[Zku,ZpK,e4,e7,e10,e13,e16,a0,two 5 (by omega) rfl rfl,two 8 (by omega) rfl rfl,two 11 (by omega) rfl rfl,two 14 (by omega) rfl rfl,two 17 (by omega) rfl rfl,decide_true,Bool.and_self]
 ·intro q;simp only[Zku,ZpK,ZW,Z6]at q;obtain⟨⟨e4,e7,e10,e13,e16⟩,a0,a1,a2,a3,a4,a5⟩:=q;refine ZhP hsz (λk hk=>?_);have hk19:k<19:=hk;rw[ZmZ h hk19];have D0:=λj (hj:0+j<4)=>Zcx (by omega) a0 hj
  have D1:=λj (hj:5+j<7)=>Zcx (by omega) a1 hj
  have D2:=λj (hj:8+j<10)=>Zcx (by omega) a2 hj
  have D3:=λj (hj:11+j<13)=>Zcx (by omega) a3 hj
  have D4:=λj (hj:14+j<16)=>Zcx (by omega) a4 hj
  have D5:=λj (hj:17+j<19)=>Zcx (by omega) a5 hj
  obtain rfl|rfl|rfl|rfl|rfl|rfl|rfl|rfl|rfl|rfl|rfl|rfl|rfl|rfl|rfl|rfl|rfl|rfl|rfl:k=0\/k=1\/k=2\/k=3\/k=4\/k=5\/k=6\/k=7\/k=8\/k=9\/k=10\/k=11\/k=12\/k=13\/k=14\/k=15\/k=16\/k=17\/k=18:=by omega
  ·exact D0 0 (by omega)
  ·exact D0 1 (by omega)
  ·exact D0 2 (by omega)
  ·exact D0 3 (by omega)
  ·rw[e4];rfl
  ·exact D1 0 (by omega)
  ·exact D1 1 (by omega)
  ·rw[e7];rfl
  ·exact D2 0 (by omega)
  ·exact D2 1 (by omega)
  ·rw[e10];rfl
  ·exact D3 0 (by omega)
  ·exact D3 1 (by omega)
  ·rw[e13];rfl
  ·exact D4 0 (by omega)
  ·exact D4 1 (by omega)
  ·rw[e16];rfl
  ·exact D5 0 (by omega)
  ·exact D5 1 (by omega)
theorem Znv{s:ZB}(h:s.size<19):ZH s=false:=by
 have:shB (Zej s) p19=false:=Zjq (by
  have e:(Zej s).size=s.size:=by unfold Zej;rw[Zao s 0 _ (Nat.min_le_left _ _),Nat.min_eq_left (by omega)];omega
  have e2:p19.size=19:=rfl;omega)
 simp[ZH,this]
theorem Zk2{s:ZB}(h:19<=s.size)(q:Zku s=false):ZH s=false:=by simp[ZH,Zga h,q]
theorem ZcX{s:ZB}{a m:Nat}(h:a+m<=s.size)(q:Zr (s.extract a (a+m))=true):Zf s a m=Zj (s.extract a (a+m)):=by
 unfold Zf;rw[Za (by omega),Zd q]
theorem Zsl{s:ZB}{a m:Nat}(h:a+m<=s.size)(q:Zr (s.extract a (a+m))=false):Zf s a m = -1:=by
 unfold Zf;rw[Za (by omega),Za (by simp[q])]
def ZiQ(s:ZB)(g:Bool)(z:Int):Bool:=Z8 (Zf s 0 4) (Zf s 5 2) (Zf s 8 2) (Zf s 11 2) (Zf s 14 2) (Zf s 17 2) g z
theorem ZkC{s:ZB}(h:19<=s.size)(q:ZpK s=true):Zf s 0 4=f0 s/\Zf s 5 2=f1 s/\Zf s 8 2=f2 s/\Zf s 11 2=f3 s/\Zf s 14 2=f4 s/\Zf s 17 2=f5 s:=by
 simp only[ZpK,ZW]at q;obtain⟨a0,a1,a2,a3,a4,a5⟩:=q;exact⟨ZcX (by omega) a0,ZcX (by omega) a1,ZcX (by omega) a2,ZcX (by omega) a3,ZcX (by omega) a4,ZcX (by omega) a5⟩
theorem Ztl{s:ZB}(h:19<=s.size)(q:ZpK s=false)(g:Bool)(z:Int):ZiQ s g z=false:=by
 have neg:∀a m,a+m<=s.size->Zr (s.extract a (a+m))=false->Zf s a m = -1:=λa m hh hq=>Zsl hh hq
 cases hb:ZiQ s g z with
 |false=>rfl
 |true=>
  simp only[ZiQ,Z8,ZW]at hb;obtain⟨b0,b1,b2,b3,b4,b5,_⟩:=hb;have b0:=Zc0 b0;have b1:=Zc0 b1;have b2:=Zc0 b2;have b3:=Zc0 b3;have b4:=Zc0 b4;have b5:=Zc0 b5;have y:∀a m,a+m<=s.size->¬Zf s a m = -1->Zr (s.extract a (a+m))=true:=λa m hh hq=>by
   cases e:Zr (s.extract a (a+m)) with
   |true=>rfl
   |false=>exact absurd (neg a m hh e) hq
  have a0:=y 0 4 (by omega) (by omega);have a1:=y 5 2 (by omega) (by omega);have a2:=y 8 2 (by omega) (by omega);have a3:=y 11 2 (by omega) (by omega);have a4:=y 14 2 (by omega) (by omega);have a5:=y 17 2 (by omega) (by omega);simp[ZpK,a0,a1,a2,a3,a4,a5]at q
theorem Zzz(y:Int)(w:World)(h1:1<=y)(h2:y<=10000):Calls prog 254 #[I y] w λe w'=>e=.returned (I (dby y))/\w'=w:=by
 go_enter func254,ntmps254
 go_wp2;go_ret;exact⟨Za0 (by unfold dby;omega),rfl⟩
theorem ZBM(y:Int)(w:World)(h1:1<=y)(h2:y<=10000):Calls prog 279 #[I y] w λe w'=>e=.returned (I (dby y))/\w'=w:=by
 go_enter func279,ntmps279
 go_wp2;go_ret;exact⟨Za0 (by unfold dby;omega),rfl⟩
theorem Zya(y mo d h mi s:Int)(g:Bool)(z:Int)(w:World)(r:Rt y mo d h mi s g z):Calls prog 216 #[.agg #[I y,I mo,I d,I h,I mi,I s,.bool g,I z]] w λe w'=>e=.returned (I (Ze4 y mo d h mi s z))/\ZL w w':=by
 have hdb:=Zsg r.y1 (by have:=r.y2;omega);have hdm:=(ZfJ y mo).2;have HY:=J (And.intro r.y1 r.y2);obtain⟨y1,y2,m1,m2,d1,d2,h1,h2,n1,n2,s1,s2,z1,z2,gz⟩:=r;have d3:d<=31:=by omega
 clear d2 hdm gz;go_enter func216,ntmps216
 go_wp2_with fail
 go_quiet ((go_at_call 254;exact ZA (Zzz _ _ (by omega) (by omega))))
 go_wp2
 go_loop [3,4] (λa m=>∃k:Nat,(k:Int)+1<=mo/\m=I ((k:Int)+1)/\a=I (dby y+d-1+ZpH y k)) (λ_ m=>(mo-Zi m).toNat)
 case atStart=>exact⟨0,by omega,rfl,by simp[ZpH]⟩
 case round=>
  obtain⟨k,hk,rfl,rfl⟩:=hrel;have hc:=ZmC HY.out k (by omega);by_cases hlt:(k:Int)+1<mo
  ·have hc2:=(ZfJ y ((k:Int)+1)).2;have hc1:=Zsy (y:=y) (m:=(k:Int)+1) HY.out (by omega);go_wp2_with (go_at_call 78;refine Zc (Zhq _ _ _) ?_)
   go_round
   case rel=>exact⟨k+1,by omega,by go_num,by simp only[ZpH];go_num⟩
   case measure=>simp[Zi];omega
  ·have HK:k=(mo-1).toNat:=by omega
   have HK':=J HK;clear HK;go_wp2;go_ret;exact⟨Za0 (by unfold Ze4 ZtO;rw[<-HK'.out];try omega),Zau ((Ze _ _).alloc (Zb _) _) _⟩
theorem ZzL(y mo d h mi s:Int)(g:Bool)(z:Int)(w:World)(r:Rt y mo d h mi s g z)(ht:Zjk 3 w):Calls prog 250 #[.agg #[I y,I mo,I d,I h,I mi,I s,.bool g,I z]] w λe w'=>e=.returned (I (ZtO y mo d h mi s))/\ZL w w':=by
 have HT:=J (Zfe ht (.cells #[I y,I mo,I d,I h,I mi,I s,.bool g,I z] 78));clear ht;have hdb:=Zsg r.y1 (by have:=r.y2;omega);have hdm:=(ZfJ y mo).2;have HY:=J (And.intro r.y1 r.y2);obtain⟨y1,y2,m1,m2,d1,d2,h1,h2,n1,n2,s1,s2,z1,z2,gz⟩:=r;have d3:d<=31:=by omega
 clear d2 hdm gz;go_enter func250,ntmps250
 go_wp2_with fail
 go_quiet ((go_at_call 279;exact ZA (ZBM _ _ (by omega) (by omega))))
 go_wp2
 go_loop [3,4] (λa m=>∃k:Nat,(k:Int)+1<=mo/\m=I ((k:Int)+1)/\a=I (dby y+d-1+ZpH y k)) (λ_ m=>(mo-Zi m).toNat)
 case atStart=>exact⟨0,by omega,rfl,by simp[ZpH]⟩
 case round=>
  obtain⟨k,hk,rfl,rfl⟩:=hrel;have hc:=ZmC HY.out k (by omega);by_cases hlt:(k:Int)+1<mo
  ·have hc2:=(ZfJ y ((k:Int)+1)).2;have hc1:=Zsy (y:=y) (m:=(k:Int)+1) HY.out (by omega);go_wp2_with (go_at_call 208;refine Zc (ZlE _ _ _ (Zc3 HT.out _)) ?_)
   go_round
   case rel=>exact⟨k+1,by omega,by go_num,by simp only[ZpH];go_num⟩
   case measure=>simp[Zi];omega
  ·have HK:k=(mo-1).toNat:=by omega
   have HK':=J HK;clear HK;go_wp2;go_ret;exact⟨Za0 (by unfold ZtO;rw[<-HK'.out];try omega),Zau ((Ze _ _).alloc (Zb _) _) _⟩
theorem Zjg{n:Int}(h1 : -9223372036854775808<=n)(h2:n<=9223372036854775807):IntKind.i64.wrap n=n:=by
 first|(simp[IntKind.wrap,IntKind.signed,IntKind.bits];omega)|(unfold IntKind.wrap;simp;omega)
theorem Zfw{w wn:World}(h:Below w.drew.heap.size w.drew wn):ZL w wn:=⟨h.os,h.tape,h.output,h.size,h.block⟩
theorem Zcp{B:Nat}{w wn:World}(h:Below B w wn):Below B w wn.drew:=⟨h.os,h.tape,h.output,h.size,h.block⟩
theorem ZiU{g:Nat}{w:World}(h:Zjk g w):Zjk g w.drew:=h
def Zte(y mo d h mi s:Int)(g:Bool)(z:Int):Int:=if Z8 y mo d h mi s g z=true then Ze4 y mo d h mi s z else -1
theorem ZrT(y mo d h mi s:Int)(g:Bool)(z:Int)(w:World)(ht:Zjk 3 w):Calls prog 211 #[.agg #[I y,I mo,I d,I h,I mi,I s,.bool g,I z]] w λe w'=>e=.returned (I (Zte y mo d h mi s g z))/\ZL w w':=by
 have HT:=J (Zfe ht (.cells #[I y,I mo,I d,I h,I mi,I s,.bool g,I z] 78));clear ht;cases hd:Z8 y mo d h mi s g z
 ·go_enter func211,ntmps211
  go_wp2_with fail
  refine ZM (Zcb y mo d h mi s g z _ HT.out) ?_;rintro w1 hb1;have HB:=J (Za4 hb1);clear hb1;go_wp2;go_ret;exact⟨Za0 (by simp[Zte,hd]),HB.out⟩
 ·have r:=Zpf hd;have HR:=J r;have hlb:=ZsK r;have z1:=r.z1;have z2:=r.z2;have WZ1:=J (show IntKind.i64.wrap (z*60)=z*60 from Zjg (by omega) (by omega));have WZ2:=J (show IntKind.i64.wrap (ZtO y mo d h mi s-z*60)=ZtO y mo d h mi s-z*60 from Zjg (by omega) (by omega));clear r;go_enter func211,ntmps211
  go_wp2_with fail
  refine ZM (Zcb y mo d h mi s g z _ HT.out) ?_;rintro w1 hb1;have HB:=J (Za4 hb1);have HT1:=J (Zdt HT.out hb1);have hx:=ZbI (Zcl w y mo d h mi s g z _) hb1;have HX:=J hx;obtain⟨k0,k1,k2,k3,k4,k5,k6,k7,k8⟩:=hx;have HZ:=J hb1.size;clear hb1;go_wp2_with fail
  go_region_with (go_at_call 250;refine ZM (ZzL y mo d h mi s g z _ HR.out (by first|exact HT1.out|exact ZiU HT1.out)) ?_;rintro w2 hb2;(first|replace hb2:=Zfw hb2|skip);have HB2:=J (Zp HB.out hb2);have hx2:=ZbI HX.out hb2;obtain⟨j0,j1,j2,j3,j4,j5,j6,j7,j8⟩:=hx2;clear hb2)
  all_goals
   go_wp2;go_ret;exact⟨Za0 (by rw[WZ1.out,WZ2.out];simp[Zte,hd,Ze4];omega),by first|exact HB2.out|exact Zcp HB2.out|exact Zau HB2.out _⟩
theorem Zo8{c:Int}(h:c<48):Z0 c=false:=by simp only[Z0,decide_eq_false_iff_not];omega
theorem Zpa{c:Int}(h:57<c):Z0 c=false:=by simp only[Z0,decide_eq_false_iff_not];omega
theorem ZoR{c:Int}(h:48<=c)(h':c<=57):Z0 c=true:=by simp only[Z0,Z6];omega
theorem Zdk(c:Int):c<=47\/(48<=c/\c<=57)\/58<=c:=by omega
theorem ZkX(c:Int)(w:World):Calls prog 130 #[.int .u8 c] w λe w'=>e=.returned (.bool (Z0 c))/\w'=w:=by
 rcases Zdk c with h|⟨h,h'⟩|h
 all_goals
  go_enter func130,ntmps130
  go_wp2;go_ret;exact⟨Zo (by first|decide|(rw[Bool.eq_iff_iff];simp only[Z0,ZDI,ZW,Z6,ZEd,true_iff,false_iff,iff_true,iff_false,ZN];omega)),rfl⟩
theorem Zja(s:ZB)(w:World)(hs:s.size<=maxLen):Calls prog 137 #[.string s] w λe w'=>e=.returned (.bool (Zr s))/\w'=w:=by
 unfold maxLen at hs;go_enter func137,ntmps137
 go_wp2
 go_loop [3] (λi=>∃k:Nat,k<=s.size/\i=I k/\∀j (h:j<s.size),j<k->Z0 (s[j].toNat:Int)=true) (λi=>s.size-(Zi i).toNat)
 case atStart=>exact⟨0,by omega,rfl,λj h b=>by omega⟩
 case round=>
  obtain⟨k,hk,rfl,hm⟩:=hrel;have HM:=J hm;clear hm;by_cases hlt:k<s.size
  ·cases hb:Z0 (s[k].toNat:Int)
   ·go_wp2_with (go_at_call 130;refine Zc (ZkX _ _) ?_)
    go_ret;exact⟨Zo (Zhi s k hlt hb).symm,rfl⟩
   ·go_wp2_with (go_at_call 130;refine Zc (ZkX _ _) ?_)
    go_round
    case rel=>
     refine⟨k+1,by omega,by go_num,λj h b=>?_⟩;by_cases e:j=k
     ·subst e;exact hb
     ·exact HM.out j h (by omega)
    case measure=>simp[Zi];omega
  ·go_wp2;go_ret;exact⟨Zo (Zdr s (λj h=>HM.out j h (by omega))).symm,rfl⟩
theorem ZeI(t:ZB)(w:World)(hs:t.size<=4)(hd:Zr t=true):Calls prog 169 #[.string t] w λe w'=>e=.returned (I (Zj t))/\w'=w:=by
 have HD:=J hd;clear hd;go_enter func169,ntmps169
 go_wp2
 go_loop [3,7] (λn i=>∃k:Nat,k<=t.size/\i=I k/\n=I (Zis t k)) (λ_ i=>t.size-(Zi i).toNat)
 case atStart=>exact⟨0,Zx _,rfl,rfl⟩
 case round=>
  obtain⟨k,hk,rfl,rfl⟩:=hrel;have hb:=Zj8 HD.out k hk;have hp:=ZAI (k:=k) (by omega);by_cases hlt:k<t.size
  ·have hc:=ZrV HD.out hlt;rw[ZaX t k hlt]at hc;obtain⟨hc1,hc2⟩:=hc;have HN:=J (show Zis t (k+1)=Zis t k*10+((t[k].toNat:Int)-48) by simp only[Zis];rw[ZaX t k hlt]);obtain⟨p,hpp⟩:=ZX (pw k);rw[hpp]at hb hp;go_wp2
   go_round
   case rel=>exact⟨k+1,by omega,by go_num,by rw[HN.out]⟩
   case measure=>simp[Zi];omega
  ·have HK:=J (show Zj t=Zis t k by rw[Zj,show t.size=k by omega]);go_wp2;go_ret;exact⟨Za0 HK.out.symm,rfl⟩
theorem Zkq(s p:ZB)(w:World)(hs:s.size<=maxLen)(hp:p.size<=30):Calls prog 167 #[.string s,.string p] w λe w'=>e=.returned (.bool (shB s p))/\∃n,w'=w.drewN n:=by
 unfold maxLen at hs;by_cases hsz:s.size=p.size
 ·have HSZ:=J hsz;have hsz1:s.size<=p.size:=by omega
  have hsz2:p.size<=s.size:=by omega
  have hne:((s.size:Int) != (p.size:Int))=false:=by simp;omega
  clear hsz;go_enter func167,ntmps167
  go_wp2
  go_loopw [14] (λi wr=>∃k:Nat,k<=p.size/\i=I k/\Hid (∀j,j<k->(if at8 p j=48 then Z0 (at8 s j) else decide (at8 s j=at8 p j))=true)/\∃n,wr=w.drewN n) (λi _=>p.size-(Zi i).toNat)
  case atStart=>exact⟨0,Zx _,rfl,J (λj hj=>by omega),0,rfl⟩
  case round=>
   obtain⟨k,hk,rfl,HM,n,rfl⟩:=hrel;by_cases hlt:k<p.size
   ·have hlt2:k<s.size:=(by omega);have HA:=J (ZaX s k hlt2);have HB:=J (ZaX p k hlt);by_cases hy:(p[k].toNat:Int)=48
    ·have hyb:((p[k].toNat:Int)==48)=true:=(by simpa using hy);have hyn:((p[k].toNat:Int) != 48)=false:=(by simpa using hy);have HY:=J hy;clear hy;rcases Zdk (s[k].toNat:Int) with hx|⟨hx,hx'⟩|hx
     ·go_wp2_with fail
      go_quiet (fail)
      go_wp2;go_ret;exact⟨Zo (ZsQ k hlt (by rw[HB.out,HA.out,Zd HY.out];exact Zo8 (by omega))).symm,_,by first|rfl|rw[World.drewN_drewN]⟩
     ·go_wp2_with fail
      go_quiet (fail)
      go_wp2
      go_roundw
      case rel=>
       refine⟨k+1,by omega,by go_num,J (λj hj=>?_),_,by first|rfl|rw[World.drewN_drewN]⟩;by_cases e:j=k
       ·subst e;rw[HB.out,HA.out,Zd HY.out];exact ZoR hx hx'
       ·exact HM.out j (by omega)
      case measure=>simp[Zi];omega
     ·have hx57:decide ((s[k].toNat:Int)<=57)=false:=Zg (by omega);go_wp2_with fail
      go_quiet (fail)
      go_wp2;go_ret;exact⟨Zo (ZsQ k hlt (by rw[HB.out,HA.out,Zd HY.out];exact Zpa (by omega))).symm,_,by first|rfl|rw[World.drewN_drewN]⟩
    ·have hyb:((p[k].toNat:Int)==48)=false:=(by simpa using hy);have hyn:((p[k].toNat:Int) != 48)=true:=(by simpa using hy);have HY:=J hy;clear hy;by_cases he:(s[k].toNat:Int)=(p[k].toNat:Int)
     ·have heb:((s[k].toNat:Int) != (p[k].toNat:Int))=false:=(by simpa using he);have HE:=J he;clear he;rcases Zdk (s[k].toNat:Int) with hx|⟨hx,hx'⟩|hx
      all_goals
       go_wp2_with fail
       go_quiet (fail)
       go_wp2
       go_roundw
       case rel=>
        refine⟨k+1,by omega,by go_num,J (λj hj=>?_),_,by first|rfl|rw[World.drewN_drewN]⟩;by_cases e:j=k
        ·subst e;rw[HB.out,HA.out,Za HY.out];exact Zh HE.out
        ·exact HM.out j (by omega)
       case measure=>simp[Zi];omega
     ·have heb:((s[k].toNat:Int) != (p[k].toNat:Int))=true:=(by simpa using he);have HE:=J he;clear he;rcases Zdk (s[k].toNat:Int) with hx|⟨hx,hx'⟩|hx
      all_goals
       go_wp2_with fail
       go_quiet (fail)
       go_wp2;go_ret;exact⟨Zo (ZsQ k hlt (by rw[HB.out,HA.out,Za HY.out];exact Zg HE.out)).symm,_,by first|rfl|rw[World.drewN_drewN]⟩
   ·go_wp2;go_ret;exact⟨Zo (ZhP HSZ.out (λj hj=>HM.out j (by omega))).symm,_,rfl⟩
 ·have hne:((s.size:Int) != (p.size:Int))=true:=by simp;omega
  have HSZ:=J hsz;clear hsz;go_enter func167,ntmps167
  go_wp2;go_ret;exact⟨Zo (Zjq HSZ.out).symm,0,rfl⟩
theorem ZgS(s:ZB)(a m:Nat)(w:World)(hs:s.size<=1048576)(ha:a<=100)(hm:m<=4):Calls prog 140 #[.string s,I a,I m] w λe w'=>e=.returned (I (Zf s a m))/\w'=w:=by
 by_cases hlt:s.size<a+m
 ·have HV:=J (show Zf s a m = -1 by simp[Zf,hlt]);go_enter func140,ntmps140
  go_wp2;go_ret;exact⟨Za0 HV.out.symm,rfl⟩
 ·obtain⟨t,ht⟩:=ZX (s.extract a (a+m));have HT:=J ht;have hts:t.size<=4:=by rw[<-ht,Zao s a (a+m) (by omega)];omega
  have HTS:=J (show t.size=m by rw[<-ht,Zao s a (a+m) (by omega)];omega);have HTA:=J (show ∀j (hj:j<m),at8 t j=at8 s (a+j) from λj hj=>by rw[<-ht];exact ZcD s a (a+m) j (by omega) (by omega));have hmx:t.size<=maxLen:=by unfold maxLen;omega
  have HMX:=J hmx;have hi2:(a:Int)<=(a:Int)+(m:Int):=by omega
  have hi3:(a:Int)+(m:Int)<=(s.size:Int):=by omega
  have hi4:((a:Int)+(m:Int)).toNat=a+m:=by omega
  have hi5:¬((s.size:Int)<(a:Int)+(m:Int)):=by omega
  cases hd:Zr t
  ·have HV:=J (show Zf s a m = -1 by simp[Zf,hlt,ht,hd]);clear hmx;go_enter func140,ntmps140
   go_wp2_with (go_at_call 137;refine Zc (Zja _ _ HMX.out) ?_)
   go_ret;exact⟨Za0 HV.out.symm,rfl⟩
  ·have HV:=J (show Zf s a m=Zis t m by rw[Zf,Za hlt,ht,Zd hd,Zj,HTS.out]);have HD:=J hd;clear hmx;go_enter func140,ntmps140
   go_wp2_with (go_at_call 137;refine Zc (Zja _ _ HMX.out) ?_)
   go_loop [7,8] (λn i=>∃k:Nat,k<=m/\i=I ((a+k:Nat):Int)/\n=I (Zis t k)) (λ_ i=>a+m-(Zi i).toNat)
   case atStart=>exact⟨0,Zx _,by simp,rfl⟩
   case round=>
    obtain⟨k,hk,rfl,rfl⟩:=hrel;have hb:=Zj8 HD.out k (by have:=HTS.out;omega);have hp:=ZAI (k:=k) (by omega);obtain⟨p,hpp⟩:=ZX (pw k);rw[hpp]at hb hp;by_cases hkm:k<m
    ·have hak:a+k<s.size:=(by omega);have hc:=ZrV HD.out (j:=k) (by have:=HTS.out;omega);rw[HTA.out k hkm,ZaX s (a+k) hak]at hc;obtain⟨hc1,hc2⟩:=hc;have HN:=J (show Zis t (k+1)=Zis t k*10+((s[a+k].toNat:Int)-48) by simp only[Zis];rw[HTA.out k hkm,ZaX s (a+k) hak]);go_wp2
     go_round
     case rel=>exact⟨k+1,by omega,by go_num,by rw[HN.out]⟩
     case measure=>simp[Zi];omega
    ·have HK:k=m:=(by omega);have HK':=J HK;clear HK;go_wp2;go_ret;exact⟨Za0 (by rw[HV.out,HK'.out]),rfl⟩
theorem ZaO{k:IntKind}{a b:Int}(h:a=b):Ending.returned (.int k a)=.returned (.int k b):=by rw[h]
theorem ZwV(n m:Bool)(s t:ZB)(c d:Int)(w:World)(h1:ZP n s c=true)(h2:ZP m t d=true):
  Calls prog 178 #[.agg #[.bool n,.string s,I c],.agg #[.bool m,.string t,I d]] w λe w'=>
   e=.returned (I (ZnC (ZaK n s c) (ZaK m t d)))/\ZL w w':=by
 obtain⟨hs,hc0,hc1⟩:=Zbm h1;obtain⟨ht,hd0,hd1⟩:=Zbm h2;have H1:=J h1;have H2:=J h2;clear h1 h2;cases n;all_goals
  cases m;all_goals
   go_enter func178,ntmps178
   go_wp2_with fail
   refine(Zzm _ _ s t c d _ hs ht hc0 hc1 hd0 hd1).mono ?_;rintro e w1 ⟨x,y,hxy,hx,hp,hq,rfl,hb⟩;have m1:=ZqO hp (by omega) (by omega);have m2:=ZqO hq (by omega) (by omega);have bl:=ZtT x y (Zf3 hp (ZaT H1.out)) (Zf3 hq (ZaT H2.out)) hxy;have be:=ZBv x y (Zf3 hp (ZaT H1.out)) (Zf3 hq (ZaT H2.out)) hxy;have M1:=J m1;have M2:=J m2;obtain⟨hx1,hx2,hb1⟩:=Za6 hb;have HB:=J hb1;obtain⟨k0,k1,k2,k3⟩:=hx1;obtain⟨l0,l1,l2,l3⟩:=hx2;clear hp hq k0 l0 hb hb1 m1 m2;have hpp:=ZfQ (60-max c d).toNat;rcases Nat.lt_trichotomy (Zw x.data.toList) (Zw y.data.toList) with hv|hv|hv
   ·have sl:=Zll hv hpp;rw[<-M1.out,<-M2.out]at sl;rw[Zh hv]at bl;rw[Zg (by omega)]at be;have SL:=J sl;clear sl hv hpp;go_wp2;go_ret;exact⟨ZaO (by first|(rw[ZfC];have:=SL.out;simp[ZaK];omega)|(rw[ZfD];have:=SL.out;simp[ZaK];omega)|(have:=ZeR H1.out;rw[ZfC];simp[ZaK];omega)|(have:=ZeR H2.out;rw[ZfD];simp[ZaK];omega)),HB.out⟩
   ·have sl:mag s c=mag t d:=(by rw[M1.out,M2.out,hv]);rw[Zg (by omega)]at bl;rw[Zh hv]at be;have SL:=J sl;clear sl hv hpp;go_wp2;go_ret;exact⟨ZaO (by first|(rw[ZmR];have:=SL.out;simp[ZaK];omega)|(have:=ZeR H1.out;rw[ZfC];simp[ZaK];omega)|(have:=ZeR H2.out;rw[ZfD];simp[ZaK];omega)),HB.out⟩
   ·have sl:=Zll hv hpp;rw[<-M1.out,<-M2.out]at sl;rw[Zg (by omega)]at bl;rw[Zg (by omega)]at be;have SL:=J sl;clear sl hv hpp;go_wp2;go_ret;exact⟨ZaO (by first|(rw[ZfC];have:=SL.out;simp[ZaK];omega)|(rw[ZfD];have:=SL.out;simp[ZaK];omega)|(have:=ZeR H1.out;rw[ZfC];simp[ZaK];omega)|(have:=ZeR H2.out;rw[ZfD];simp[ZaK];omega)),HB.out⟩
theorem ZB8(n m:Bool)(s t:ZB)(c d:Int)(w:World)(hs:s.size<=maxLen)(ht:t.size<=maxLen):
  Calls prog 132 #[.agg #[.bool n,.string s,I c],.agg #[.bool m,.string t,I d]] w λe w'=>
   e=.returned (I (Zho n s c m t d))/\ZL w w':=by
 cases h1:ZP n s c
 ·have HV:=J (show Zho n s c m t d=2 by simp[Zho,h1]);go_enter func132,ntmps132
  go_wp2_with fail
  refine ZM (ZcL n s c _ hs) ?_;rintro w1 hb1;obtain⟨hx1,hx2,hb⟩:=Za6 hb1;have HB:=J hb;clear hx1 hx2 hb1 hb;go_wp2;go_ret;exact⟨ZaO HV.out.symm,HB.out⟩
 ·cases h2:ZP m t d
  ·have HV:=J (show Zho n s c m t d=2 by simp[Zho,h2]);go_enter func132,ntmps132
   go_wp2_with fail
   refine ZM (ZcL n s c _ hs) ?_;rintro w1 hb1;obtain⟨hx1,hx2,hb⟩:=Za6 hb1;have HB:=J hb;obtain⟨l0,l1,l2,l3⟩:=hx2;clear hx1 hb1 hb l0;go_wp2_with fail
   refine ZM (ZcL m t d _ ht) ?_;rintro w2 hb2;have HB2:=J (Zaw HB.out hb2);clear hb2;go_wp2;go_ret;exact⟨ZaO HV.out.symm,HB2.out⟩
  ·have HV:=J (show Zho n s c m t d=ZnC (ZaK n s c) (ZaK m t d) by simp[Zho,h1,h2]);have H1:=J h1;have H2:=J h2;go_enter func132,ntmps132
   go_wp2_with fail
   refine ZM (ZcL n s c _ hs) ?_;rintro w1 hb1;obtain⟨hx1,hx2,hb⟩:=Za6 hb1;have HB:=J hb;have HX1:=J hx1;have HX2:=J hx2;obtain⟨l0,l1,l2,l3⟩:=hx2;clear hx1 hb1 hb l0;go_wp2_with fail
   refine ZM (ZcL m t d _ ht) ?_;rintro w2 hb2;have HB2:=J (Zaw HB.out hb2);obtain⟨l0,l1,l2,l3⟩:=ZaC HX2.out hb2;obtain⟨k0,k1,k2,k3⟩:=ZaC HX1.out hb2;clear hb2 l0 k0;go_wp2_with fail
   refine ZM (ZwV n m s t c d _ H1.out H2.out) ?_;rintro w3 hb3;have HB3:=J (Zaw HB2.out hb3);clear hb3;go_wp2;go_ret;exact⟨ZaO HV.out.symm,HB3.out⟩
end
theorem ZjG(n:Nat)(h:n<=9):(UInt8.ofNat (48+n)).toNat=48+n:=by rw[UInt8.toNat_ofNat'];omega
theorem ZqS:∀(k v:Nat),v<=k->dgL (Zfj v)
 |0,v,h=>by
  have:v=0:=by omega
  subst this;rw[Zfj,dif_pos rfl];intro c hc;simp at hc
 |k+1,v,h=>by
  by_cases h0:v=0
  ·subst h0;rw[Zfj,dif_pos rfl];intro c hc;simp at hc
  ·rw[Zfj,dif_neg h0];refine ZhQ (ZqS k (v/10) (by omega)) (λc hc=>?_);have:c=UInt8.ofNat (48+v%10):=by simpa using hc
   rw[this,ZjG _ (by omega)];omega
theorem Zru(v:Nat)(h:v≠0):Zfj v≠[]:=by rw[Zfj,dif_neg h];simp
theorem Zk5:∀(k v:Nat),v<=k->Zev (Zfj v)
 |0,v,h=>by
  have:v=0:=by omega
  subst this;rw[Zfj,dif_pos rfl];intro c l hc;simp at hc
 |k+1,v,h=>by
  by_cases h0:v=0
  ·subst h0;rw[Zfj,dif_pos rfl];intro c l hc;simp at hc
  ·rw[Zfj,dif_neg h0];by_cases h1:v/10=0
   ·rw[h1,Zfj,dif_pos rfl];intro c l hc;have:c=UInt8.ofNat (48+v%10):=by
     have:=(List.cons.inj (show UInt8.ofNat (48+v%10)::[]=c::l from hc)).1;exact this.symm
    rw[this,ZjG _ (by omega)];omega
   ·have ih:=Zk5 k (v/10) (by omega);intro c l hc;cases hq:Zfj (v/10) with
    |nil=>exact absurd hq (Zru _ h1)
    |cons a m=>
     rw[hq]at hc;have:a=c:=(List.cons.inj (show a::(m++[UInt8.ofNat (48+v%10)])=c::l from hc)).1;subst this;exact ih a m hq
theorem Zrx(v:Nat)(h:v%10≠0):∀u c,Zfj v=u++[c]->c.toNat≠48:=by
 intro u c hc;rw[Zfj,dif_neg (by omega)]at hc;have:=(List.append_inj' hc rfl).2;have h2:UInt8.ofNat (48+v%10)=c:=by simpa using this
 rw[<-h2,ZjG _ (by omega)];omega
theorem Zsv(v:Nat):Zw (Zfj v)=v:=by
 have:∀k v,v<=k->Zw (Zfj v)=v:=by
  intro k;induction k with
  |zero=>
       intro v h;have:v=0:=by omega
       subst this;rw[Zfj,dif_pos rfl];rfl
  |succ k ih=>
   intro v h;by_cases h0:v=0
   ·subst h0;rw[Zfj,dif_pos rfl];rfl
   ·rw[Zfj,dif_neg h0,ZeU,ih _ (by omega)];unfold dgt;rw[ZjG _ (by omega)];omega
 exact this v v (Zb _)
theorem ZiZ:∀(c v:Nat),(Z7 v c).2=0\/(Z7 v c).1%10≠0
 |0,v => .inl rfl
 |c+1,v=>by
  rw[Z7];by_cases h:v%10=0
  ·rw[Zd h];exact ZiZ c _
  ·rw[Za h];exact .inr h
theorem ZkB(n:Bool)(v c:Nat)(n':Bool)(s:ZB)(c':Int)(h:Za5 n v c=(n',s,c',true)):ZP n' s c'=true:=by
 unfold Za5 at h;by_cases h0:(Z7 v c).1=0
 ·rw[Zd h0]at h;simp only[Prod.mk.injEq]at h;obtain⟨rfl,rfl,rfl,_⟩:=h;rw[Zdx _ _ _ (by simp)];rfl
 ·rw[Za h0]at h;by_cases h1:(Zfj (Z7 v c).1).length<=60/\(Z7 v c).2<=60
  ·rw[Zd h1]at h;simp only[Prod.mk.injEq]at h;obtain⟨rfl,hs,rfl,_⟩:=h;obtain⟨a,ha⟩:=ZX ((Z7 v c).1);obtain⟨k,hk⟩:=ZX ((Z7 v c).2);have hf:=ZiZ c v;rw[ha]at h0 h1 hs hf;rw[hk]at h1 hf ⊢;have hl:s.data.toList=Zfj a:=by rw[<-hs]
   have hsz:s.size=(Zfj a).length:=by rw[<-hl];simp
   have hex:=ZbT n s k (Zw s.data.toList) k (by rw[hl];exact ZqS a a (Zb _)) (by rw[hl];exact Zk5 a a (Zb _)) (by
    rcases hf with hf|hf
    ·exact .inl hf
    ·exact .inr (.inr (by rw[hl];exact Zrx a hf))) rfl
   have hne:¬s.size=0:=by
    rw[hsz];intro e;exact Zru a h0 (List.length_eq_zero_iff.1 e)
   rw[Za hne]at hex;by_cases hb:ZP n s (k:Int)=true
   ·exact hb
   ·rw[Za hb]at hex;unfold Za5 at hex;have hv:Zw s.data.toList=a:=(by rw[hl];exact Zsv a);rw[hv,ZiA a k hf,Za h0,Zd h1]at hex;simp at hex
  ·rw[Za h1]at h;simp at h
section
open Go.RowKit
theorem Zun{k:IntKind}{a b:Int}(h:a=b):Ending.returned (.int k a)=.returned (.int k b):=by rw[h]
theorem ZyO(n:Bool)(s:ZB)(c:Int)(j:Nat)(w:World)(hs:s.size<=60)(hd:Zr s=true)(hj:j<s.size):
  Calls prog 252 #[.agg #[.bool n,.string s,I c],I j] w λe w'=>e=.returned (.int .u8 (at8 s (s.size-1-j)-48))/\ZL w w':=by
 have hi:s.size-1-j<s.size:=by omega
 have hv:=Zfg s hd _ hi;simp only[Z0,Z6]at hv;obtain⟨hv1,hv2⟩:=hv;go_enter func252,ntmps252
 go_wp2;go_ret;exact⟨Zun (by rw[ZaX s _ hi]),(Ze _ _).alloc (Zb _) _⟩
theorem Zwd:(prog.info? 230).map (λi=>(i.zero,i.size))=some (some (.agg (Zks (List.replicate 121 0))),121):=by kernel_rfl
def Zs:Array Value:=Zks (List.replicate 121 0)
theorem Zzx:∀w,(zeroValue 230).run prog w=.ok (.agg Zs) w:=(zero_of_info Zwd).1
def Zmi(w wr:World)(n:Bool)(s:ZB)(c:Int)(xs:List Int):Prop:=
 ZL w wr/\Zow wr w.heap.size n s c/\wr.heap[w.heap.size+1]?=some (.cells Zs 230 (0,0))/\wr.heap[w.heap.size+1+1]?=some (.cells (Zks xs) 230 (0,0))
theorem Zsh(w:World)(n:Bool)(s:ZB)(c:Int)(T:TypeId):
  Zmi w (((w.alloc (.cells #[.bool n,.string s,I c] T)).alloc (.cells Zs 230)).alloc (.cells Zs 230)) n s c (List.replicate 121 0):=by
 have h1:=Zbc w n s c T;have b1:Below (w.alloc (.cells #[.bool n,.string s,I c] T)).heap.size (w.alloc (.cells #[.bool n,.string s,I c] T)) (((w.alloc (.cells #[.bool n,.string s,I c] T)).alloc (.cells Zs 230)).alloc (.cells Zs 230)):=
  ((Ze _ _).alloc (Zb _) _).alloc (by simp) _
 refine⟨Zaw ((Ze _ _).alloc (Zb _) _) b1,ZaC h1 b1,?_,?_⟩
 ·have e1:(w.alloc (.cells #[.bool n,.string s,I c] T)).heap.size=w.heap.size+1:=by simp
  have:=Zz (w.alloc (.cells #[.bool n,.string s,I c] T)) (.cells Zs 230);rw[e1]at this;have b2:Below ((w.alloc (.cells #[.bool n,.string s,I c] T)).alloc (.cells Zs 230)).heap.size ((w.alloc (.cells #[.bool n,.string s,I c] T)).alloc (.cells Zs 230)) (((w.alloc (.cells #[.bool n,.string s,I c] T)).alloc (.cells Zs 230)).alloc (.cells Zs 230)):=(Ze _ _).alloc (Zb _) _;rw[b2.block _ (by simp)];exact this
 ·have e1:((w.alloc (.cells #[.bool n,.string s,I c] T)).alloc (.cells Zs 230)).heap.size=w.heap.size+1+1:=by simp
  have:=Zz ((w.alloc (.cells #[.bool n,.string s,I c] T)).alloc (.cells Zs 230)) (.cells Zs 230);rw[e1]at this;exact this
theorem Ztk{w wr w2:World}{n:Bool}{s:ZB}{c:Int}{xs:List Int}(h:Zmi w wr n s c xs)(k:ZL wr w2):Zmi w w2 n s c xs:=by
 obtain⟨h1,h2,h3,h4⟩:=h;exact⟨Zaw h1 k,ZaC h2 k,(k.block _ (Array.getElem?_eq_some_iff.1 h3).1).trans h3,(k.block _ (Array.getElem?_eq_some_iff.1 h4).1).trans h4⟩
theorem Zr2{w wr:World}{n:Bool}{s:ZB}{c:Int}{xs:List Int}(h:Zmi w wr n s c xs)(i:Nat)(v:Int):Zmi w (wr.setCell ⟨w.heap.size+1+1,i,none⟩ (.int .u8 v)) n s c (xs.set i v):=by
 obtain⟨h1,h2,h3,h4⟩:=h;have hb:∀k,k≠w.heap.size+1+1->(wr.setCell ⟨w.heap.size+1+1,i,none⟩ (.int .u8 v)).heap[k]?=wr.heap[k]?:=λk hk=>Below.heap_setCell wr ⟨w.heap.size+1+1,i,none⟩ _ k hk
 have hc:∀j,(wr.setCell ⟨w.heap.size+1+1,i,none⟩ (.int .u8 v)).cell? ⟨w.heap.size,j,none⟩=wr.cell? ⟨w.heap.size,j,none⟩:=λj=>World.cell?_of_block (hb _ (by show w.heap.size≠_;omega))
 refine⟨h1.setCell (by show w.heap.size<=w.heap.size+1+1;omega) _,⟨by have:=h2.1;simpa using this,(hc 0).trans h2.2.1,(hc 1).trans h2.2.2.1,(hc 2).trans h2.2.2.2⟩,(hb _ (by omega)).trans h3,?_⟩;rw[ZEk wr _ i _ _ _ h4,Zu4]
theorem ZoV{w wr:World}{n:Bool}{s:ZB}{c:Int}{xs:List Int}(h:Zmi w wr n s c xs)(i:Nat)(hi:i<xs.length):wr.cell? ⟨w.heap.size+1+1,i,none⟩=some (.int .u8 (xs[i]?.getD 0))/\wr.frozen? ⟨w.heap.size+1+1,i,none⟩=false:=
 ⟨by rw[ZO wr _ i _ _ (0,0) h.2.2.2,Znz xs i hi],ZEm wr _ i _ _ h.2.2.2⟩
theorem ZsT(n:Bool)(s:ZB)(c:Int)(w:World)(h:ZP n s c=true):
  Calls prog 214 #[.agg #[.bool n,.string s,I c]] w λe w'=>e=.returned (.agg (Zks (Zi8 121 s (60-c).toNat s.size)))/\ZL w w':=by
 obtain⟨hs,hc0,hc1⟩:=Zbm h;have HD:=J (ZaT h);clear h;have hz:=Zzx;obtain⟨R,hR⟩:=ZX (Zks (Zi8 121 s (60-c).toNat s.size));rw[hR];have HR:=J hR;clear hR;go_enter func214,ntmps214
 go_wp2
 go_loopw [12] (λvi wr=>∃k:Nat,k<=s.size/\vi=I k/\Zmi w wr n s c (Zi8 121 s (60-c).toNat k)) (λvi _=>s.size-(Zi vi).toNat)
 case atStart=>exact⟨0,Zx _,rfl,by rw[Zr9];exact Zsh w n s c _⟩
 case round=>
  obtain⟨k,hk,rfl,hst⟩:=hrel;have HST:=J hst;clear hz;by_cases hlt:k<s.size
  ·obtain⟨k0,k1,k2,k3⟩:=hst.2.1;clear hst k0;go_wp2_with fail
   refine ZM (ZyO n s c k _ hs HD.out hlt) ?_;rintro w2 hb2;have hst2:=Ztk HST.out hb2;have HST2:=J hst2;obtain⟨hcell,hfz⟩:=ZoV hst2 ((60-c).toNat+k) (by rw[Zeu];omega);obtain⟨v,hv⟩:=ZX (at8 s (s.size-1-k)-48);have HV:=J hv;rw[hv];have hidx:(60-c+(k:Int)).toNat=(60-c).toNat+k:=by omega
   clear hst2 hb2 hv k1 k2 k3;go_wp2
   go_roundw
   case rel=>exact⟨k+1,by omega,by go_num,by rw[<-ZsJ,HV.out];exact Zr2 HST2.out _ _⟩
   case measure=>simp[Zi];omega
  ·have hks:k=s.size:=by omega
   subst hks;have h3:=hst.2.2.1;have h4:=hst.2.2.2;have HB:=J hst.1;have hR:=HR.out;rw[hR]at h4;have hsz:(prog.info? 230).map (·.size)=some R.size:=by rw[<-hR,Zht,Zeu];exact(zero_of_info Zwd).2
   have hzz:Zs.size=R.size:=by rw[<-hR,Zht,Zeu];simp[Zs,Zht]
   have hall:R.all (·.oneCell')=true:=by rw[<-hR];simp[Zks,Value.oneCell']
   clear hst hR;go_wp2_with (first|(refine wpList_load_row rfl 230 _ rfl (w.heap.size+1+1) rfl 230 _ (0,0) _ h4 underlying230 rfl hsz ?_)|(refine wpList_store_row rfl 230 _ _ rfl (w.heap.size+1) _ rfl rfl 230 _ h3 hsz hzz hall ?_))
   exact bodyPost_ret (v:=.agg R) (results_cell_row results214 _ _ (w.heap.size+1) 230 R (0,0) _ rfl (setRow_heap wr _ _ R _ _ h3) underlying230 rfl hsz) rfl ⟨rfl,below_setRow HB.out (by omega) R⟩
theorem Zcm{B:Nat}{a w:World}(h:Below B a w)(n:Nat):Below B a (w.drewN n):=h.trans ⟨rfl,rfl,rfl,Zb _,λ_ _=>rfl⟩
theorem Zld(w:World)(xs:List Int)(T:TypeId)(i:Nat)(hi:i<xs.length):(w.alloc (.cells (Zks xs) T)).cell? ⟨w.heap.size,i,none⟩=some (.int .u8 (xs[i]?.getD 0)):=by
 rw[ZO _ w.heap.size i _ T (0,0) (Zz w _),Znz xs i hi]
theorem ZkZ(xs ys:List Int)(w:World)(hx:xs.length=121)(hy:ys.length=121)(ox:Zmt xs)(oy:Zmt ys):
  Calls prog 213 #[.agg (Zks xs),.agg (Zks ys)] w λe w'=>e=.returned (I (ZnC (Zin xs) (Zin ys)))/\ZL w w':=by
 have HX:=J hx;have HY:=J hy;have OX:=J ox;have OY:=J oy;obtain⟨X,hX⟩:=ZX (Zks xs);obtain⟨Y,hY⟩:=ZX (Zks ys);rw[hX,hY];have hcx:Hid (∀i,i<121->((w.alloc (.cells X 230)).alloc (.cells Y 230)).cell? ⟨w.heap.size,i,none⟩=some (.int .u8 (xs[i]?.getD 0))):=J (λi hi=>by
  rw[((Ze (w.alloc (.cells X 230)).heap.size (w.alloc (.cells X 230))).alloc (Zb _) (.cells Y 230)).cell (p:=⟨w.heap.size,i,none⟩) (by simp),<-hX];exact Zld w xs _ i (by omega))
 have hcy:Hid (∀i,i<121->((w.alloc (.cells X 230)).alloc (.cells Y 230)).cell? ⟨w.heap.size+1,i,none⟩=some (.int .u8 (ys[i]?.getD 0))):=J (λi hi=>by
  have:=Zld (w.alloc (.cells X 230)) ys 230 i (by omega);rw[hY]at this;simpa using this)
 clear hx hy ox oy hX hY;go_enter func213,ntmps213
 go_wp2
 go_loopw [5] (λvi wr=>∃k:Nat,k<=121/\vi=I ((k:Int)-1)/\Hid (ZL w wr)/\Hid (∀i,i<121->wr.cell? ⟨w.heap.size,i,none⟩=some (.int .u8 (xs[i]?.getD 0)))/\Hid (∀i,i<121->wr.cell? ⟨w.heap.size+1,i,none⟩=some (.int .u8 (ys[i]?.getD 0)))/\Hid (∀j,k<=j->j<121->xs[j]?.getD 0=ys[j]?.getD 0)) (λvi _=>(Zi vi+1).toNat)
 case atStart=>exact⟨121,Zb _,rfl,J (((Ze _ _).alloc (Zb _) _).alloc (by simp) _),hcx,hcy,J (λj h1 h2=>by omega)⟩
 case round=>
  obtain⟨k,hk,rfl,HB,HCX,HCY,HE⟩:=hrel;clear hcx hcy;by_cases hlt:1<=k
  ·obtain⟨i,rfl⟩:∃i,k=i+1:=⟨k-1,by omega⟩;have hc1:=HCX.out i (by omega);have hc2:=HCY.out i (by omega);obtain⟨x,hx⟩:=ZX (xs[i]?.getD 0);obtain⟨y,hy⟩:=ZX (ys[i]?.getD 0);rw[hx]at hc1;rw[hy]at hc2;have EX:=J hx;have EY:=J hy;clear hx hy;have hii:((i+1:Nat):Int)-1=(i:Int):=by omega
   have HK:=J hlt;clear hlt;rcases Int.lt_trichotomy x y with hxy|hxy|hxy
   ·have HL:=J (ZmI xs ys i (by rw[HX.out,HY.out]) OX.out OY.out (by rw[HX.out];omega) (by rw[EX.out,EY.out];exact hxy) (λj h1 h2=>HE.out j (by omega) (by rw[HX.out]at h2;exact h2)));go_wp2;go_quiet (fail)
    go_wp2;go_ret;exact⟨ZaO (ZfC HL.out).symm,Zcm HB.out _⟩
   ·subst hxy;go_wp2;go_quiet (fail)
    go_wp2;go_quiet (fail)
    go_wp2
    go_roundw
    case rel=>exact⟨i,by omega,by go_num,Zcm HB.out _,HCX,HCY,J (λj h1 h2=>by
     by_cases e:j=i
     ·subst e;rw[EX.out,EY.out]
     ·exact HE.out j (by omega) h2)⟩
    case measure=>simp[Zi]
   ·have HL:=J (ZmI ys xs i (by rw[HX.out,HY.out]) OY.out OX.out (by rw[HY.out];omega) (by rw[EX.out,EY.out];exact hxy) (λj h1 h2=>(HE.out j (by omega) (by rw[HY.out]at h2;exact h2)).symm));go_wp2;go_quiet (fail)
    go_wp2;go_quiet (fail)
    go_wp2;go_ret;exact⟨ZaO (ZfD HL.out).symm,Zcm (Zcm HB.out _) _⟩
  ·have hk0:k=0:=by omega
   subst hk0;have HL:=J (Zyx xs ys (by rw[HX.out,HY.out]) (λj h=>HE.out j (Zx _) (by rw[HX.out]at h;exact h)));go_wp2;go_ret;exact⟨ZaO (ZmR HL.out).symm,HB.out⟩
end
end Go.Proofs.YtcdnilpdohknfaaGreatDoor
