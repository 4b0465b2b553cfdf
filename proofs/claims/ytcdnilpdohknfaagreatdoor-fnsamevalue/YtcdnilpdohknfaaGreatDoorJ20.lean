import Derived.Test.YtcdnilpdohknfaaGreatDoorJ18
import Derived.Test.YtcdnilpdohknfaaGreatDoorJ19
set_option linter.unusedVariables false
set_option linter.unusedSimpArgs false
set_option maxRecDepth 100000
set_option maxHeartbeats 16000000
namespace Go.Proofs.YtcdnilpdohknfaaGreatDoor
open Tryz
section
open Go.RowKit Go.Joins
def ZxY(nd:Nd):Bool:=ZR nd.k nd.nt nd.L.length (λi=>(nd.L[i]?.getD (0,0)).1) (λi=>(nd.L[i]?.getD (0,0)).2) nd.a nd.b nd.mn nd.mx
def Bd(X:List Nd):Prop:=120<X.length\/∃nd∈X,ZxY nd=false
theorem ZnS{X:List Nd}(Y:List Nd)(h:Bd X):Bd (X++Y):=by
 rcases h with h|⟨nd,h1,h2⟩
 ·exact .inl (by rw[ZDz];omega)
 ·exact .inr ⟨nd,by simp[h1],h2⟩
def RaS(B R:Nat)(C:List Int)(w:World)(o:Option (List Int×List Nd))(e:Ending)(w':World):Prop:=
 (∃k' X',o=some (C.drop k',X')/\X'.length<=120/\e=.returned (I ((X'.length:Int)-1))/\SD (λj=>B<=j) B R w' C k' false X'/\Below B w w')\/
 ((∃v k' X',e=.returned (I v)/\SD (λj=>B<=j) B R w' C k' true X')/\(∀u' X',o=some (u',X')->Bd X')/\Below B w w')
def msS(R n:Nat)(w:World):Nat:=match w.cell? ⟨R,2,none⟩,w.cell? ⟨R,1,none⟩ with
 |some (.bool false),some (.int _ q)=>n-q.toNat+1
 |_,_=>0
theorem ZfY{S:Nat->Prop}{B R:Nat}{w:World}{C:List Int}{k:Nat}{X:List Nd}(h:SD S B R w C k false X):msS R C.length w=C.length-k+1:=by
 obtain⟨_,_,_,_,⟨c0,c1,c2,c3⟩,-⟩:=Zal h;unfold msS;rw[c1,c2];simp
theorem ZfB{S:Nat->Prop}{B R:Nat}{w:World}{C:List Int}{k:Nat}{X:List Nd}(h:SD S B R w C k true X):msS R C.length w=0:=by
 obtain⟨_,_,_,_,⟨c0,c1,c2,c3⟩,-⟩:=Zal h;unfold msS;rw[c1,c2]
structure BS (B R N M:Nat) (w:World) (C:List Int) (k:Nat) (bd:Bool) (X:List Nd) (nt:Bool) (ra:Option Addr) (L:List (Int×Int)) (rc:Nat):Prop where
 rd:SD (λj=>B<=j/\j<M) B R w C k bd X
 nd:BkN w N nt ra L.length rc
 ow:w.ownsRow 0 238 2 (.slice ra L.length rc) L.length (prV L)
 hi:∀k,(Value.slice ra L.length rc).ownBlock=some k->M<=k
 hN:M<=N
 hB:B<=M
section
variable {B R N M:Nat} {w w':World} {C:List Int} {k k':Nat} {bd bd':Bool} {X:List Nd} {nt:Bool} {ra:Option Addr} {L:List (Int×Int)} {rc:Nat}
theorem Zws(h:BkN w N nt ra M rc){S:Nat->Prop}(hr:SD S B R w C k bd X):N≠R:=by
 rintro rfl;obtain⟨_,_,_,_,_,hx,_⟩:=hr;unfold SX at hx;rw[h]at hx;simp only[ZDJ,Obj.cells.injEq]at hx;exact absurd hx.2.1 (by decide)
theorem ZzR(h:BS B R N M w C k bd X nt ra L rc):∃ta n tc q b ad m c,SX w R ta n tc q b ad m c:=by
 obtain⟨_,ta,tc,ad,c,hx,_⟩:=h.rd;exact⟨_,_,_,_,_,_,_,_,hx⟩
theorem Zur(h:BS B R N M w C k bd X nt ra L rc)(q:Kp (λj=>j=R) w w')(hr:SD (λj=>B<=j/\j<M) B R w' C k' bd' X):BS B R N M w' C k' bd' X nt ra L rc:=by
 refine⟨hr,(q.block N (Zmd h.nd) (Zws h.nd h.rd)).trans h.nd,Zcd h.ow q (λj hj e=>?_),h.hi,h.hN,h.hB⟩;obtain⟨_,_,_,_,_,_,_,_,hx⟩:=ZzR h;exact Zbf h.ow hj hx (by decide) e
theorem Zzi(h:BS B R N M w C k bd X nt ra L rc)(q:ZL w w'):BS B R N M w' C k bd X nt ra L rc:=
 ⟨Zg9 h.rd q,(q.block N (Zmd h.nd)).trans h.nd,Zcd h.ow ⟨q.os,q.tape,q.output,q.size,λj hj _=>q.block j hj⟩ (S:=λ_=>False) (λ_ _ x=>x),h.hi,h.hN,h.hB⟩
theorem Zng{a b:Int}{gg cap':Nat}{w9:World}{o:Obj}(h:BS B R N M w C k bd X nt ra L rc)(hown9:w9.ownsRow 0 238 2 (.slice (some ⟨gg,0,none⟩) (L.length+1) cap') (L.length+1) (prV L++[I a,I b]))(hg:(w.alloc o).grownBy w9 (Value.slice ra L.length rc).ownBlock)(hat:(Value.slice ra L.length rc).ownBlock=some gg\/gg=w.heap.size+1):
  w9.cell? ⟨N,2,none⟩=some (.slice ra L.length rc)/\w9.frozen? ⟨N,2,none⟩=false/\BS B R N M (w9.setCell ⟨N,2,none⟩ (.slice (some ⟨gg,0,none⟩) (L.length+1) cap')) C k bd X nt (some ⟨gg,0,none⟩) (L++[(a,b)]) cap'/\Below B w (w9.setCell ⟨N,2,none⟩ (.slice (some ⟨gg,0,none⟩) (L.length+1) cap')):=by
 have hk:Kp (λj=>(Value.slice ra L.length rc).ownBlock=some j) w w9:=(Zay w o).trans (Zca (S:=λj=>(Value.slice ra L.length rc).ownBlock=some j) hg (λj hj=>hj)) (λj _ hj=>hj);obtain⟨_,_,_,_,_,_,_,_,hx⟩:=ZzR h;have n9:BkN w9 N nt ra L.length rc:=(hk.block N (Zmd h.nd) (λe=>Zbf h.ow e h.nd (by decide) rfl)).trans h.nd;have r9:=Zxh h.rd hk h.hi (λe=>Zbf h.ow e hx (by decide) rfl) h.hB;have ks:Kp (λj=>j=N) w9 (w9.setCell ⟨N,2,none⟩ (.slice (some ⟨gg,0,none⟩) (L.length+1) cap')):=Zex (S:=λj=>j=N) _ _ _ rfl;have r10:=Zxh r9 ks (λj hj=>by have hj':j=N:=hj;have:=h.hN;omega) (λe=>Zws n9 r9 e.symm) h.hB;have hl:(L++[(a,b)]).length=L.length+1:=by simp
 have hlt:=Zmd h.nd;have hN:=h.hN;have hB:=h.hB;refine⟨(Zb6 n9).1.2.2.1,(Zb6 n9).2,⟨r10,?_,?_,?_,h.hN,h.hB⟩,?_⟩
 ·rw[hl];exact ZEk w9 N 2 _ _ _ n9
 ·rw[hl,Zm0];exact Zcd hown9 ks (λj hj=>Zbf hown9 hj n9 (by decide))
 ·intro k hk9;have e:gg=k:=by simpa[Value.ownBlock] using hk9
  subst e;rcases hat with e|e
  ·exact h.hi gg e
  ·omega
 ·exact(ZaB hk (by omega) (λj hj=>by have:=h.hi j hj;omega)).trans (ZaB ks (by have:=hk.size;omega) (λj hj=>by have hj':j=N:=hj;omega))
end
theorem ZCO{S:Nat->Prop}{B R:Nat}{C:List Int}{k:Nat}{X:List Nd}{w:World}{v:Int}{r:List Int}(hn:inP (C.drop k)=some (v,r))(h:SD S B R w C k false X):Calls prog 294 #[.pointer (some ⟨R,0,none⟩)] w λe w'=>∃k',r=C.drop k'/\k<k'/\e=.returned (I v)/\SD S B R w' C k' false X/\Kp (λj=>j=R) w w':=by
 have:=Zqw B R C k X w h;rw[hn]at this;exact this
theorem ZCL{S:Nat->Prop}{B R:Nat}{C:List Int}{k:Nat}{X:List Nd}{w:World}(hn:inP (C.drop k)=none)(h:SD S B R w C k false X):Calls prog 294 #[.pointer (some ⟨R,0,none⟩)] w λe w'=>∃v k',e=.returned (I v)/\SD S B R w' C k' true X/\Kp (λj=>j=R) w w':=by
 have:=Zqw B R C k X w h;rw[hn]at this;exact this
def ClE(C:List Int)(k:Nat)(X:List Nd)(nt bd:Bool)(kl:Nat)(L:List (Int×Int)):Prop:=
 (bd=false/\(C.length-kl+L.length<=400)/\∃f,BrE (C.drop k) X nt f (C.drop kl) L)\/(bd=true/\L.length<=401/\brP (C.drop k) X=none)
theorem ZxS(B R:Nat)(C:List Int)(k:Nat)(X:List Nd)(w:World)(hX:X.length<=120)(h:SD (λj=>B<=j) B R w C k false X):Calls prog 280 #[.pointer (some ⟨R,0,none⟩)] w (RaS B R C w (brP (C.drop k) X)):=by
 obtain⟨i0,hi0,hz0,hz1,hz2⟩:=info_parts Zvf;have hB:=ZcI h;have hC4:=h.1.2.2;have hs:=Zhl h;have E0:∃(nt:Bool) (k1:Nat),k<=k1/\ClE C k X nt false k1 []/\Calls prog 180 #[.pointer (some ⟨R,0,none⟩),I 94] w λe w'=>e=.returned (.bool nt)/\SD (λj=>B<=j/\j<w.heap.size) B R w' C k1 false X/\Kp (λj=>j=R) w w':=by
  by_cases e:(C.drop k).head?=some 94
  ·have e2:=ZaH e;obtain⟨-,e3,hlt⟩:=ZbM e2;refine⟨true,k+1,by omega,.inl ⟨rfl,by simp;omega,(C.drop k).length+1,?_,?_⟩,Zgu B R C k 94 _ X w hs e2⟩
   ·simp;omega
   ·unfold brP;rw[Zd e,Zh e,e3];rfl
  ·refine⟨false,k,Zb _,.inl ⟨rfl,by simp;omega,(C.drop k).length+1,Zb _,?_⟩,Zgo B R C k 94 X w hs e⟩;unfold brP;rw[Za e,Zg e];rfl
 obtain⟨nt,k1,hk1,hE,hT⟩:=E0;have HT:=J hT;have HE:=J hE;have HS:=J hs;clear h hs hT hE;go_enter func280,ntmps280
 go_wp2_with fail
 refine ZM HT.out ?_;rintro w1 ⟨h1,q1⟩;have hsz1:=q1.size;have bA:=(Ze w1.heap.size w1).alloc (Zb _) (.cells #[I 2,.bool nt,.slice none 0 0,I 0,I 0,I 0,I 0] 204);have HBK:Hid (BS B R w1.heap.size w.heap.size (w1.alloc (.cells #[I 2,.bool nt,.slice none 0 0,I 0,I 0,I 0,I 0] 204)) C k1 false X nt none [] 0):=J ⟨Zg9 h1 bA,Zz w1 _,ZEo _ _ _ _,λk hk=>(by cases hk),hsz1,hB⟩;have HB1:Hid (Below B w (w1.alloc (.cells #[I 2,.bool nt,.slice none 0 0,I 0,I 0,I 0,I 0] 204))):=J ((ZU HS.out q1).trans (bA.mono (by omega)));obtain⟨N,hN⟩:=ZX w1.heap.size;rw[hN]at HBK;clear h1 q1 HT HS bA;go_wp2_with fail
 clear hN hsz1
 go_loopw [] (λwr=>∃(kl:Nat) (bd:Bool) (ra:Option Addr) (L:List (Int×Int)) (rc:Nat),Hid (BS B R N w.heap.size wr C kl bd X nt ra L rc)/\Hid (Below B w wr)/\Hid (ClE C k X nt bd kl L)) (λwr=>msS R C.length wr)
 case atStart=>exact⟨k1,false,none,[],0,HBK,HB1,HE⟩
 case round=>
  clear HBK HB1 HE;obtain⟨kl,bd,ra,L,rc,HBK,HB,HE⟩:=hrel;cases bd
  case true=>
   have E:Hid (brP (C.drop k) X=none):=J (by rcases HE.out with ⟨h,-⟩|⟨-,-,h⟩;cases h;exact h);obtain⟨_,_,_,_,⟨c0,c1,c2,c3⟩,f,-⟩:=Zal HBK.out.rd;have f2:=f 2;clear f HE;have HB9:=J (HB.out.trans (ZU HBK.out.rd (Zd9 _ R 2 (.bool true))));have HS9:=J (Zdy (Zia HBK.out.rd true));go_wp2;go_ret;exact .inr ⟨⟨0,kl,X,rfl,HS9.out⟩,λu' X' h9=>(by rw[E.out]at h9;cases h9),HB9.out⟩
  case false=>
   obtain⟨hlen,f,hE⟩:(C.length-kl+L.length<=400)/\∃f,BrE (C.drop k) X nt f (C.drop kl) L:=by
    rcases HE.out with ⟨-,h⟩|⟨h,-⟩
    ·exact h
    ·cases h
   obtain⟨f,rfl⟩:∃g,f=g+1:=⟨f-1,by have:=hE.1;omega⟩;have HE:=J hE;have hkl:=HBK.out.rd.1.2.1;clear hE;have hms:=ZfY HBK.out.rd;obtain⟨_,_,_,_,⟨c0,c1,c2,c3⟩,ff,-⟩:=Zal HBK.out.rd;clear ff c0 c1 c3;by_cases e1:(C.drop kl).head?=some 93
   ·have e2:=ZaH e1;obtain⟨-,e3,hlt⟩:=ZbM e2;have E:Hid (brP (C.drop k) X=some (C.drop (kl+1),X++[clN nt L])):=J (by rw[HE.out.2,brF,Zd e1,e3]);have HT:=J (Zgu B R C kl 93 _ X wr HBK.out.rd e2);clear HE e1 e2 e3;go_wp2_with fail
    refine ZM HT.out ?_;rintro w2 ⟨h2,q2⟩;have HBK2:=J (Zur HBK.out q2 h2);have HB2:=J (HB.out.trans (ZU HBK.out.rd q2));obtain⟨⟨n0,n1,n2,n3,n4,n5,n6⟩,nf⟩:=Zb6 HBK2.out.nd;obtain⟨_,_,_,_,⟨-,-,d2,-⟩,ff,-⟩:=Zal h2;have CN:=J (Zec 2 nt ra L.length rc 0 0 0 0 (λi=>(L[i]?.getD (0,0)).1) (λi=>(L[i]?.getD (0,0)).2) w2 (by unfold maxLen;omega) (Zjs HBK2.out.ow));have hnd:ZxY (clN nt L)=ZR 2 nt L.length (λi=>(L[i]?.getD (0,0)).1) (λi=>(L[i]?.getD (0,0)).2) 0 0 0 0:=rfl;rw[<-hnd]at CN;have ff2:=ff 2;clear h2 q2 HT HBK hnd ff c2;cases hok:ZxY (clN nt L)
    ·rw[hok]at CN;have HK:=J hok;clear hok;go_wp2_with fail
     refine ZM CN.out ?_;rintro w3 hb3;have HBK3:=J (Zzi HBK2.out hb3);have HB3:=J (HB2.out.trans (hb3.mono (ZcI HBK2.out.rd)));obtain⟨_,_,_,_,⟨-,-,d2',-⟩,ff,-⟩:=Zal HBK3.out.rd;have ff3:=ff 2;have HB9:=J (HB3.out.trans (ZU HBK3.out.rd (Zd9 _ R 2 (.bool true))));have HS9:=J (Zdy (Zia HBK3.out.rd true));clear hb3 ff;go_wp2;go_ret;exact .inr ⟨⟨0,kl+1,X,rfl,HS9.out⟩,λu' X' h9=>(by rw[E.out]at h9;cases h9;exact .inr ⟨_,by simp,HK.out⟩),HB9.out⟩
    ·rw[hok]at CN;clear hok;go_wp2_with fail
     refine ZM CN.out ?_;rintro w3 hb3;have HBK3:=J (Zzi HBK2.out hb3);have HB3:=J (HB2.out.trans (hb3.mono (ZcI HBK2.out.rd)));obtain⟨⟨n0',n1',n2',n3',n4',n5',n6'⟩,nf'⟩:=Zb6 HBK3.out.nd;have HA:=J (ZrH B R C (kl+1) X (clN nt L) ra rc w3 hX (by show L.length<=500;omega) HBK3.out.rd (λj hj=>hj.1) HBK3.out.ow (λk hk=>by have h9:=HBK3.out.hi k hk;exact⟨ZDA hB h9,λh10=>by have:=h10.2;omega⟩));clear hb3 n0 n1 n2 n3 n4 n5 n6 nf;go_wp2_with fail
     refine ZM HA.out ?_;rintro w4 ⟨h4,b4⟩;have H4:=J h4;have HB4:=J (HB3.out.trans b4);clear h4 b4 HA;go_wp2;go_ret;by_cases hb:120<X.length+1
     ·refine .inr ⟨⟨X.length,kl+1,X++[clN nt L],rfl,?_⟩,λu' X' h9=>(by rw[E.out]at h9;cases h9;exact .inl (by simp;omega)),HB4.out⟩;have:=H4.out;rw[Zh hb]at this;exact this
     ·refine .inl ⟨kl+1,X++[clN nt L],E.out,by simp;omega,by simp,?_,HB4.out⟩;have:=H4.out;rw[Zg hb]at this;exact this
   ·have HT:=J (Zgo B R C kl 93 X wr HBK.out.rd e1);go_wp2_with fail
    refine ZM HT.out ?_;rintro w2 ⟨h2,q2⟩;have HBK2:=J (Zur HBK.out q2 h2);have HB2:=J (HB.out.trans (ZU HBK.out.rd q2));clear q2 HT HBK HB c2;rcases hn:inP (C.drop kl) with _|⟨a,u1⟩
    ·have E:Hid (brP (C.drop k) X=none):=J (by rw[HE.out.2,brF,Za e1,hn]);have HI:=J (ZCL hn h2);clear HE e1 hn h2;go_wp2_with fail
     refine HI.out.mono ?_;rintro e w3 ⟨v,k3,rfl,h3,q3⟩;have HBK3:=J (Zur HBK2.out q3 h3);have HB3:=J (HB2.out.trans (ZU HBK2.out.rd q3));have HJ:=J (ZoA B R C k3 45 X w3 h3);clear h3 q3 HBK2 HB2 HI;go_wp2_with fail
     refine ZM HJ.out ?_;rintro w4 ⟨h4,q4⟩;have HBK4:=J (Zur HBK3.out q4 h4);have HB4:=J (HB3.out.trans (ZU HBK3.out.rd q4));obtain⟨⟨n0,n1,n2,n3,n4,n5,n6⟩,nf⟩:=Zb6 HBK4.out.nd;have HOW:=J HBK4.out.ow;obtain⟨m,hm⟩:=ZX L.length;have HM:=J hm;have hm4:m<=400:=(by omega);have hm5:L.length<=400:=(by omega);rw[hm]at n2 HOW;clear h4 q4 HJ HBK3 HB3 n0 n1 n3 n4 n5 n6 hm;go_wp2_with (at_builtin;refine wpList_append_lies _ (by rfl) (.tmp 27) (.tmp 31) 202 (by rfl) 0 238 i0 _ 2 16 underlying202 hi0 hz0 hz1 hz2 rfl (by omega) (.slice ra m rc) m (prV L) (by rfl) (HOW.out.alloc _) ⟨w4.heap.size,0,none⟩ 1 1 [I v,I v] (by rfl) (by rfl) (World.news_of_block (cs:=#[I v,I v]) (t:=238) (fr:=(0,0)) (Zz w4 _)) (by simp[Value.oneCell']) (by omega) (by unfold maxLen;omega) (by omega) (by simp<;>omega) (w4.heap.size+1) (by simp) ?_;intro gg cap' w9 hown9 hgrow9 hat9 hlt9;rw[<-HM.out]at hown9 hgrow9 hat9 ⊢;obtain⟨hc9,hf9,h9,hb9⟩:=Zng HBK4.out hown9 hgrow9 hat9;have H9:=J h9;have HB9:=J (HB4.out.trans hb9);clear hown9 hgrow9 hat9 h9 hb9)
     go_roundw
     case rel=>exact⟨k3,true,some ⟨gg,0,none⟩,L++[(v,v)],cap',H9,HB9,J (.inr ⟨rfl,by simp;omega,E.out⟩)⟩
     case measure=>rw[ZfB H9.out.rd,hms];omega
    ·have hl1:=ZiC hn;have HI:=J (ZCO hn h2);have HE1:Hid (brP (C.drop k) X=match (if u1.head?=some 45 then (match inP u1.tail with
    |none=>none
    |some (b,u2)=>brF f u2 (L++[(a,b)]))
   else brF f u1 (L++[(a,a)])) with
     |none=>none
     |some (r,L')=>some (r,X++[clN nt L'])):=J (by rw[HE.out.2,brF,Za e1,hn];rfl)
     have hf:=HE.out.1;simp only[ZDC]at hf hl1;clear HE e1 hn h2;go_wp2_with fail
     refine HI.out.mono ?_;rintro e w3 ⟨k3,hu1,hk3,rfl,h3,q3⟩;subst hu1;simp only[ZDC]at hl1;have hk3l:=h3.1.2.1;have HBK3:=J (Zur HBK2.out q3 h3);have HB3:=J (HB2.out.trans (ZU HBK2.out.rd q3));clear q3 HI HBK2 HB2;by_cases e2:(C.drop k3).head?=some 45
     ·have e4:=ZaH e2;obtain⟨-,e5,hlt5⟩:=ZbM e4;have HT:=J (Zgu B R C k3 45 _ X w3 h3 e4);have HE2:Hid (brP (C.drop k) X=match (match inP (C.drop (k3+1)) with
    |none=>none
    |some (b,u2)=>brF f u2 (L++[(a,b)])) with
     |none=>none
     |some (r,L')=>some (r,X++[clN nt L'])):=J (by rw[HE1.out,Zd e2,e5])
      clear h3 HE1 e2 e4 e5;go_wp2_with fail
      refine ZM HT.out ?_;rintro w4 ⟨h4,q4⟩;have HBK4:=J (Zur HBK3.out q4 h4);have HB4:=J (HB3.out.trans (ZU HBK3.out.rd q4));clear q4 HT HBK3 HB3;rcases hn2:inP (C.drop (k3+1)) with _|⟨b,u2⟩
      ·have E:Hid (brP (C.drop k) X=none):=J (by rw[HE2.out,hn2]);have HI:=J (ZCL hn2 h4);clear h4 HE2 hn2;go_wp2_with fail
       refine HI.out.mono ?_;rintro e w5 ⟨v,k5,rfl,h5,q5⟩;have HBK5:=J (Zur HBK4.out q5 h5);have HB5:=J (HB4.out.trans (ZU HBK4.out.rd q5));obtain⟨⟨n0,n1,n2,n3,n4,n5,n6⟩,nf⟩:=Zb6 HBK5.out.nd;have HOW:=J HBK5.out.ow;obtain⟨m,hm⟩:=ZX L.length;have HM:=J hm;have hm4:m<=400:=(by omega);have hm5:L.length<=400:=(by omega);rw[hm]at n2 HOW;clear h5 q5 HI HBK4 HB4 n0 n1 n3 n4 n5 n6 hm;go_wp2_with (at_builtin;refine wpList_append_lies _ (by rfl) (.tmp 27) (.tmp 31) 202 (by rfl) 0 238 i0 _ 2 16 underlying202 hi0 hz0 hz1 hz2 rfl (by omega) (.slice ra m rc) m (prV L) (by rfl) (HOW.out.alloc _) ⟨w5.heap.size,0,none⟩ 1 1 [I a,I v] (by rfl) (by rfl) (World.news_of_block (cs:=#[I a,I v]) (t:=238) (fr:=(0,0)) (Zz w5 _)) (by simp[Value.oneCell']) (by omega) (by unfold maxLen;omega) (by omega) (by simp<;>omega) (w5.heap.size+1) (by simp) ?_;intro gg cap' w9 hown9 hgrow9 hat9 hlt9;rw[<-HM.out]at hown9 hgrow9 hat9 ⊢;obtain⟨hc9,hf9,h9,hb9⟩:=Zng HBK5.out hown9 hgrow9 hat9;have H9:=J h9;have HB9:=J (HB5.out.trans hb9);clear hown9 hgrow9 hat9 h9 hb9)
       go_roundw
       case rel=>exact⟨k5,true,some ⟨gg,0,none⟩,L++[(a,v)],cap',H9,HB9,J (.inr ⟨rfl,by simp;omega,E.out⟩)⟩
       case measure=>rw[ZfB H9.out.rd,hms];omega
      ·have hl2:=ZiC hn2;have HE3:Hid (brP (C.drop k) X=match brF f u2 (L++[(a,b)]) with
       |none=>none
       |some (r,L')=>some (r,X++[clN nt L'])):=J (by rw[HE2.out,hn2])
       have HI:=J (ZCO hn2 h4);clear h4 HE2 hn2;go_wp2_with fail
       refine HI.out.mono ?_;rintro e w5 ⟨k5,hu2,hk5,rfl,h5,q5⟩;subst hu2;simp only[ZDC]at hl2;have hk5l:=h5.1.2.1;have HBK5:=J (Zur HBK4.out q5 h5);have HB5:=J (HB4.out.trans (ZU HBK4.out.rd q5));obtain⟨⟨n0,n1,n2,n3,n4,n5,n6⟩,nf⟩:=Zb6 HBK5.out.nd;have HOW:=J HBK5.out.ow;obtain⟨m,hm⟩:=ZX L.length;have HM:=J hm;have hm4:m<=400:=(by omega);have hm5:L.length<=400:=(by omega);rw[hm]at n2 HOW;clear h5 q5 HI HBK4 HB4 n0 n1 n3 n4 n5 n6 hm;go_wp2_with (at_builtin;refine wpList_append_lies _ (by rfl) (.tmp 27) (.tmp 31) 202 (by rfl) 0 238 i0 _ 2 16 underlying202 hi0 hz0 hz1 hz2 rfl (by omega) (.slice ra m rc) m (prV L) (by rfl) (HOW.out.alloc _) ⟨w5.heap.size,0,none⟩ 1 1 [I a,I b] (by rfl) (by rfl) (World.news_of_block (cs:=#[I a,I b]) (t:=238) (fr:=(0,0)) (Zz w5 _)) (by simp[Value.oneCell']) (by omega) (by unfold maxLen;omega) (by omega) (by simp<;>omega) (w5.heap.size+1) (by simp) ?_;intro gg cap' w9 hown9 hgrow9 hat9 hlt9;rw[<-HM.out]at hown9 hgrow9 hat9 ⊢;obtain⟨hc9,hf9,h9,hb9⟩:=Zng HBK5.out hown9 hgrow9 hat9;have H9:=J h9;have HB9:=J (HB5.out.trans hb9);clear hown9 hgrow9 hat9 h9 hb9)
       go_roundw
       case rel=>exact⟨k5,false,some ⟨gg,0,none⟩,L++[(a,b)],cap',H9,HB9,J (.inl ⟨rfl,by simp;omega,f,by simp;omega,HE3.out⟩)⟩
       case measure=>rw[ZfY H9.out.rd,hms];omega
     ·have HT:=J (Zgo B R C k3 45 X w3 h3 e2);have HE3:Hid (brP (C.drop k) X=match brF f (C.drop k3) (L++[(a,a)]) with
       |none=>none
       |some (r,L')=>some (r,X++[clN nt L'])):=J (by rw[HE1.out,Za e2])
      clear h3 HE1 e2;go_wp2_with fail
      refine ZM HT.out ?_;rintro w4 ⟨h4,q4⟩;have HBK4:=J (Zur HBK3.out q4 h4);have HB4:=J (HB3.out.trans (ZU HBK3.out.rd q4));obtain⟨⟨n0,n1,n2,n3,n4,n5,n6⟩,nf⟩:=Zb6 HBK4.out.nd;have HOW:=J HBK4.out.ow;obtain⟨m,hm⟩:=ZX L.length;have HM:=J hm;have hm4:m<=400:=(by omega);have hm5:L.length<=400:=(by omega);rw[hm]at n2 HOW;clear h4 q4 HT HBK3 HB3 n0 n1 n3 n4 n5 n6 hm;go_wp2_with (at_builtin;refine wpList_append_lies _ (by rfl) (.tmp 27) (.tmp 31) 202 (by rfl) 0 238 i0 _ 2 16 underlying202 hi0 hz0 hz1 hz2 rfl (by omega) (.slice ra m rc) m (prV L) (by rfl) (HOW.out.alloc _) ⟨w4.heap.size,0,none⟩ 1 1 [I a,I a] (by rfl) (by rfl) (World.news_of_block (cs:=#[I a,I a]) (t:=238) (fr:=(0,0)) (Zz w4 _)) (by simp[Value.oneCell']) (by omega) (by unfold maxLen;omega) (by omega) (by simp<;>omega) (w4.heap.size+1) (by simp) ?_;intro gg cap' w9 hown9 hgrow9 hat9 hlt9;rw[<-HM.out]at hown9 hgrow9 hat9 ⊢;obtain⟨hc9,hf9,h9,hb9⟩:=Zng HBK4.out hown9 hgrow9 hat9;have H9:=J h9;have HB9:=J (HB4.out.trans hb9);clear hown9 hgrow9 hat9 h9 hb9)
      go_roundw
      case rel=>exact⟨k3,false,some ⟨gg,0,none⟩,L++[(a,a)],cap',H9,HB9,J (.inl ⟨rfl,by simp;omega,f,by simp;omega,HE3.out⟩)⟩
      case measure=>rw[ZfY H9.out.rd,hms];omega
def dsN(C:List Int)(k:Nat):Nat->Int
 |0=>0
 |j+1=>10*dsN C k j+(C[k+j]?.getD 0)-48
def dgs(C:List Int)(k m:Nat):Prop:=m<=3/\(∀j,j<m->∃c,C[k+j]?=some c/\48<=c/\c<=57)/\(m<3->∀c,C[k+m]?=some c->¬(48<=c/\c<=57))
theorem Zu1(C:List Int)(k:Nat):∃m,dgs C k m:=by
 have hd:∀i:Nat,(∃c,C[i]?=some c/\48<=c/\c<=57)\/(∀c,C[i]?=some c->¬(48<=c/\c<=57)):=λi=>by
  cases h:C[i]? with
  |none=>exact .inr (λc hc=>by cases hc)
  |some c=>
   by_cases h9:48<=c/\c<=57
   ·exact .inl ⟨c,rfl,h9⟩
   ·exact .inr (λd hd=>by cases hd;exact h9)
 rcases hd (k+0) with h0|h0
 ·rcases hd (k+1) with h1|h1
  ·rcases hd (k+2) with h2|h2
   ·exact⟨3,by omega,λj hj=>by rcases(show j=0\/j=1\/j=2 by omega) with rfl|rfl|rfl<;>assumption,λh=>absurd h (by omega)⟩
   ·exact⟨2,by omega,λj hj=>by rcases(show j=0\/j=1 by omega) with rfl|rfl<;>assumption,λ_=>h2⟩
  ·exact⟨1,by omega,λj hj=>(by obtain rfl:j=0:=(by omega);exact h0),λ_=>h1⟩
 ·exact⟨0,by omega,λj hj=>absurd hj (Nat.not_lt_zero _),λ_=>h0⟩
theorem Zwx{C:List Int}{k m:Nat}(h:dgs C k m):∀j,j<=m->0<=dsN C k j/\(j=0->dsN C k j=0)/\(j<=1->dsN C k j<=9)/\(j<=2->dsN C k j<=99)/\dsN C k j<=999:=by
 intro j hj;have h3:=h.1;have hc:∀i,i<m->48<=C[k+i]?.getD 0/\C[k+i]?.getD 0<=57:=λi hi=>by
  obtain⟨c,e,h1,h2⟩:=h.2.1 i hi;rw[e];exact⟨h1,h2⟩
 rcases(show j=0\/j=1\/j=2\/j=3 by omega) with rfl|rfl|rfl|rfl
 ·simp[dsN]
 ·have a:=hc 0 (by omega);simp only[dsN];omega
 ·have a:=hc 0 (by omega);have b:=hc 1 (by omega);simp only[dsN];omega
 ·have a:=hc 0 (by omega);have b:=hc 1 (by omega);have c:=hc 2 (by omega);simp only[dsN];omega
theorem ZbH{C:List Int}{k:Nat}{c:Int}(h:C[k]?=some c):C.drop k=c::C.drop (k+1):=by
 have hlt:=(List.getElem?_eq_some_iff.1 h).1;rw[List.drop_eq_getElem_cons hlt];rw[Zv hlt]at h;cases h;rfl
theorem ZCj{C:List Int}{k m:Nat}(h:dgs C k m)(hk:k<=C.length):(m=0->nmP (C.drop k)=none)/\(m=1->nmP (C.drop k)=some (dsN C k 1,C.drop (k+1)))/\(m=2->C[k]?.getD 0≠48->nmP (C.drop k)=some (dsN C k 2,C.drop (k+2)))/\
  (m=2->C[k]?.getD 0=48->∃v d r,nmP (C.drop k)=some (v,d::r)/\dgB d=true)/\(m=3->∃v d r,nmP (C.drop k)=some (v,d::r)/\dgB d=true):=by
 obtain⟨h3,hd,hn⟩:=h;refine⟨λe=>?_,λe=>?_,λe e48=>?_,λe e48=>?_,λe=>?_⟩
 ·subst e;cases hr:C.drop k with
  |nil=>rfl
  |cons c r=>
   have:=hn (by omega) c (ZbM hr).1;rw[nmP,Za (by unfold dgB;rw[ZD1];exact this)]
 ·subst e;obtain⟨c,e,h1,h2⟩:=hd 0 (by omega);have e':C[k]?=some c:=e;have hdg:dgB c=true:=Zh ⟨h1,h2⟩;have hv:dsN C k 1=c-48:=by simp[dsN,e']
  rw[hv,ZbH e',nmP,Zd hdg];by_cases h48:c=48
  ·rw[Zd h48];simp[h48]
  ·rw[Za h48];cases hr:C.drop (k+1) with
   |nil=>rfl
   |cons d r=>
    have:=hn (by omega) d (ZbM hr).1;rw[nm2,Za (by unfold dgB;rw[ZD1];exact this)]
 ·subst e;obtain⟨c,e,h1,h2⟩:=hd 0 (by omega);obtain⟨d,e2,h4,h5⟩:=hd 1 (by omega);have e':C[k]?=some c:=e;have hdg:dgB c=true:=Zh ⟨h1,h2⟩;have hdd:dgB d=true:=Zh ⟨h4,h5⟩;have hc:c≠48:=by rw[e']at e48;exact e48
  have hv:dsN C k 2=(c-48)*10+(d-48):=by simp[dsN,e',e2];omega
  rw[hv,ZbH e',nmP,Zd hdg,Za hc,ZbH e2,nm2,Zd hdd]
 ·subst e;obtain⟨c,e,h1,h2⟩:=hd 0 (by omega);obtain⟨d,e2,h4,h5⟩:=hd 1 (by omega);have e':C[k]?=some c:=e;have hdg:dgB c=true:=Zh ⟨h1,h2⟩;have hc:c=48:=by rw[e']at e48;exact e48
  exact⟨0,d,C.drop (k+1+1),by rw[ZbH e',nmP,Zd hdg,Zd hc,ZbH e2],Zh ⟨h4,h5⟩⟩
 ·subst e;obtain⟨c,e,h1,h2⟩:=hd 0 (by omega);obtain⟨d,e2,h4,h5⟩:=hd 1 (by omega);obtain⟨f,e3,h6,h7⟩:=hd 2 (by omega);have e':C[k]?=some c:=e;have hdg:dgB c=true:=Zh ⟨h1,h2⟩;have hdd:dgB d=true:=Zh ⟨h4,h5⟩;by_cases hc:c=48
  ·exact⟨0,d,C.drop (k+1+1),by rw[ZbH e',nmP,Zd hdg,Zd hc,ZbH e2],hdd⟩
  ·refine⟨(c-48)*10+(d-48),f,C.drop (k+2+1),?_,Zh ⟨h6,h7⟩⟩;rw[ZbH e',nmP,Zd hdg,Za hc,ZbH e2,nm2,Zd hdd,show k+1+1=k+2 by omega,ZbH e3]
def NmA(S:Nat->Prop)(B R:Nat)(C:List Int)(k:Nat)(X:List Nd)(w:World)(e:Ending)(w':World):Prop:=
 (∃v k',nmP (C.drop k)=some (v,C.drop k')/\k<k'/\e=.returned (I v)/\SD S B R w' C k' false X/\Kp (λj=>j=R) w w')\/
 ((∃v k',e=.returned (I v)/\SD S B R w' C k' true X)/\Kp (λj=>j=R) w w'/\(nmP (C.drop k)=none\/∃v d r,nmP (C.drop k)=some (v,d::r)/\dgB d=true))
theorem ZnP{S:Nat->Prop}(B R:Nat)(C:List Int)(k:Nat)(X:List Nd)(w:World)(h:SD S B R w C k false X):
  Calls prog 256 #[.pointer (some ⟨R,0,none⟩)] w (NmA S B R C k X w):=by
 have H0:=J h;have h4:=h.1.2.2;have h5:=h.1.2.1;obtain⟨m,hm⟩:=Zu1 C k;have HM:=J hm;have HN:=J (ZCj hm h5);have hm3:=hm.1;obtain⟨ta,tc,ad,cp,⟨c0,c1,c2,c3⟩,f,-⟩:=Zal h;have hw3:IntKind.i64.wrap ((k:Int)+3)=(k:Int)+3:=by rw[ZY];omega
 have hw2:IntKind.i64.wrap ((k:Int)+2)=(k:Int)+2:=by rw[ZY];omega
 clear h hm f;go_enter func256,ntmps256
 go_wp2_with fail
 clear c0 c1 c2 c3
 go_loopw [3] (λv3 wr=>∃(j:Nat),j<=m/\v3=I (dsN C k j)/\Hid (SD S B R wr C (k+j) false X)/\Hid (Kp (λj=>j=R) w wr)) (λ_ wr=>match wr.cell? ⟨R,1,none⟩ with|some (.int _ q)=>k+m-q.toNat|_=>0)
 case atStart=>exact⟨0,Zx _,rfl,H0,J (Kp.refl _ _)⟩
 case round=>
  clear H0;obtain⟨j,hj,rfl,HS,HK⟩:=hrel;have ej:((k+j:Nat):Int)=(k:Int)+(j:Int):=by omega
  have hkj:k+j<=C.length:=HS.out.1.2.1;by_cases hlt:j<m
  ·obtain⟨c,ec,h48,h57⟩:=HM.out.2.1 j hlt;obtain⟨b,off,tc,ad,cp,c0,c1,c2,c3,f1,f2,ck,hl2⟩:=Zbj HS.out (ZbH ec);have hds:=(Zwx HM.out j (by omega));have HD:Hid (dsN C k (j+1)=10*dsN C k j+c-48):=J (by simp[dsN,ec]);obtain⟨dv,hdv⟩:=ZX (dsN C k j);rw[hdv]at HD hds;rw[hdv];have hd1:decide (c>=48)=true:=Zh h48;have hd2:decide (c<=57)=true:=Zh h57;have hd0:decide (((k+j:Nat):Int)<(C.length:Int))=true:=Zh (by omega);have hd3:decide (((k+j:Nat):Int)<(k:Int)+3)=true:=Zh (by omega);have hi0:(0:Int)<=((k+j:Nat):Int):=by omega
   have hi1:((k+j:Nat):Int)<(C.length:Int):=by omega
   have hi3:((k+j:Nat):Int)<(k:Int)+3:=by omega
   have hw:IntKind.i64.wrap (((k+j:Nat):Int)+1)=((k+j:Nat):Int)+1:=by rw[ZY];omega
   have hx1:IntKind.i64.wrap (10*dv)=10*dv:=by rw[ZY];omega
   have hx2:IntKind.i64.wrap (10*dv+c)=10*dv+c:=by rw[ZY];omega
   have hx3:IntKind.i64.wrap (10*dv+c-48)=10*dv+c-48:=by rw[ZY];omega
   obtain⟨p,hp⟩:=ZX (k+j);rw[hp]at HS c1 ck hd0 hd3 hi0 hi1 hi3 hw hl2;have c1':=c1;clear hdv ec hds ej hkj;go_wp2;go_quiet (fail)
   revert nq;intro n1
   go_wp2;go_quiet (fail)
   revert nq;intro n2
   go_wp2;have H9:=J (Zg3 (Zbu HS.out (n1+n2)) hl2)
   go_roundw
   case rel=>exact⟨j+1,by omega,by rw[HD.out],by rw[show k+(j+1)=p+1 by omega];exact H9,J (ZaS (ZaS HK.out (Zar _ _)) (Zd9 _ R 1 _))⟩
   case measure=>
    obtain⟨_,_,_,_,⟨-,d1,-⟩,-⟩:=Zal H9.out;rw[d1,c1'];simp;omega
  ·obtain rfl:j=m:=by omega
   have hds:=(Zwx HM.out j (by omega));have hcell:(C.length<=k+j)\/∃c,C[k+j]?=some c/\(c<48\/(48<=c/\57<c)\/(48<=c/\c<=57/\j=3)):=by
    rcases Nat.lt_or_ge (k+j) C.length with h9|h9
    ·refine .inr ⟨C[k+j],Zv h9,?_⟩;by_cases h3:j<3
     ·have:=HM.out.2.2 h3 _ (Zv h9);omega
     ·omega
    ·exact .inl h9
   have H00:=J (λ(hj2:0<j)=>by
    obtain⟨c,ec,h48,h57⟩:=HM.out.2.1 0 hj2;have ec':C[k]?=some c:=ec;exact(⟨c,ec',h48,h57⟩:∃c,C[k]?=some c/\48<=c/\c<=57))
   obtain⟨ta,tc,ad,cp,⟨c0,c1,c2,c3⟩,f,htc⟩:=Zal HS.out;have f2:=f 2;rcases(show j=0\/j=1\/j=2\/j=3 by omega) with rfl|rfl|rfl|rfl
   ·rcases hcell with hA|⟨c,ec,hB|hC|hD⟩
    ·have hn0:¬(k+0<C.length):=(by omega);have hn1:decide (k+0<C.length)=false:=Zg hn0;have hd0:decide (((k+0:Nat):Int)<(C.length:Int))=false:=Zg (by omega);have hi0:¬((k+0:Nat):Int)<(C.length:Int):=(by omega);have he1:(((k+0:Nat):Int)==(k:Int))=true:=(by simp<;>omega);have hg1:decide (((k+0:Nat):Int)>(k:Int)+2)=false:=Zg (by omega);have hg2:¬((k:Int)+2<((k+0:Nat):Int)):=(by omega);have he2:(((k+0:Nat):Int)==(k:Int)+2)=false:=(by simp<;>omega);have hg3:¬(k+2<k+0):=(by omega);have hg4:decide (k+2<k+0)=false:=Zg hg3;have he3:(k+0==k)=true:=(by simp);have he4:(k+0==k+2)=false:=(by simp<;>omega);obtain⟨p,hp⟩:=ZX (k+0);have HP:=J hp;rw[hp]at HS c1 hd0 hi0 he1 hg1 hg2 he2 hn0 hn1 hg3 hg4 he3 he4;clear hp ej hkj;have HZ:=J (HN.out.1 rfl);clear HN;obtain⟨dv,hdv⟩:=ZX (dsN C k 0);rw[hdv]at hds ⊢;clear hdv;go_wp2;go_quiet (fail)
     go_wp2;go_ret;exact .inr ⟨⟨_,_,rfl,Zia (Zbu HS.out _) true⟩,ZaS (ZaS HK.out (Zar _ _)) (Zd9 _ R 2 _),.inl HZ.out⟩
    ·have hn0:k+0<C.length:=(List.getElem?_eq_some_iff.1 ec).1;have hn1:decide (k+0<C.length)=true:=Zh hn0;clear c0 c1 c2 c3 f2 htc f;obtain⟨b,off,tc,ad,cp,c0,c1,c2,c3,f1,f2,ck,hl2⟩:=Zbj HS.out (ZbH ec);have hd0:decide (((k+0:Nat):Int)<(C.length:Int))=true:=Zh (by omega);have hi0:((k+0:Nat):Int)<(C.length:Int):=(by omega);have hi1:(0:Int)<=((k+0:Nat):Int):=(by omega);have hd1:decide (c>=48)=false:=Zg (by omega);have hp1:¬48<=c:=(by omega);have hp2:decide (48<=c)=false:=Zg hp1;have he1:(((k+0:Nat):Int)==(k:Int))=true:=(by simp<;>omega);have hg1:decide (((k+0:Nat):Int)>(k:Int)+2)=false:=Zg (by omega);have hg2:¬((k:Int)+2<((k+0:Nat):Int)):=(by omega);have he2:(((k+0:Nat):Int)==(k:Int)+2)=false:=(by simp<;>omega);have hg3:¬(k+2<k+0):=(by omega);have hg4:decide (k+2<k+0)=false:=Zg hg3;have he3:(k+0==k)=true:=(by simp);have he4:(k+0==k+2)=false:=(by simp<;>omega);obtain⟨p,hp⟩:=ZX (k+0);have HP:=J hp;rw[hp]at HS c1 hd0 hi0 he1 hg1 hg2 he2 hn0 hn1 hg3 hg4 he3 he4 ck hi1;clear hp ej hkj;have HZ:=J (HN.out.1 rfl);clear HN;obtain⟨dv,hdv⟩:=ZX (dsN C k 0);rw[hdv]at hds ⊢;clear hdv;go_wp2;go_quiet (fail)
     go_wp2;go_ret;exact .inr ⟨⟨_,_,rfl,Zia (Zbu HS.out _) true⟩,ZaS (ZaS HK.out (Zar _ _)) (Zd9 _ R 2 _),.inl HZ.out⟩
    ·have hn0:k+0<C.length:=(List.getElem?_eq_some_iff.1 ec).1;have hn1:decide (k+0<C.length)=true:=Zh hn0;clear c0 c1 c2 c3 f2 htc f;obtain⟨b,off,tc,ad,cp,c0,c1,c2,c3,f1,f2,ck,hl2⟩:=Zbj HS.out (ZbH ec);have hd0:decide (((k+0:Nat):Int)<(C.length:Int))=true:=Zh (by omega);have hi0:((k+0:Nat):Int)<(C.length:Int):=(by omega);have hi1:(0:Int)<=((k+0:Nat):Int):=(by omega);have hp1:48<=c:=(by omega);have hp2:¬c<=57:=(by omega);have hp3:decide (48<=c)=true:=Zh hp1;have hd1:decide (c>=48)=true:=Zh (by omega);have hd2:decide (c<=57)=false:=Zg (by omega);have he1:(((k+0:Nat):Int)==(k:Int))=true:=(by simp<;>omega);have hg1:decide (((k+0:Nat):Int)>(k:Int)+2)=false:=Zg (by omega);have hg2:¬((k:Int)+2<((k+0:Nat):Int)):=(by omega);have he2:(((k+0:Nat):Int)==(k:Int)+2)=false:=(by simp<;>omega);have hg3:¬(k+2<k+0):=(by omega);have hg4:decide (k+2<k+0)=false:=Zg hg3;have he3:(k+0==k)=true:=(by simp);have he4:(k+0==k+2)=false:=(by simp<;>omega);obtain⟨p,hp⟩:=ZX (k+0);have HP:=J hp;rw[hp]at HS c1 hd0 hi0 he1 hg1 hg2 he2 hn0 hn1 hg3 hg4 he3 he4 ck hi1;clear hp ej hkj;have HZ:=J (HN.out.1 rfl);clear HN;obtain⟨dv,hdv⟩:=ZX (dsN C k 0);rw[hdv]at hds ⊢;clear hdv;go_wp2;go_quiet (fail)
     go_wp2;go_ret;exact .inr ⟨⟨_,_,rfl,Zia (Zbu HS.out _) true⟩,ZaS (ZaS HK.out (Zar _ _)) (Zd9 _ R 2 _),.inl HZ.out⟩
    ·omega
   ·rcases hcell with hA|⟨c,ec,hB|hC|hD⟩
    ·have hn0:¬(k+1<C.length):=(by omega);have hn1:decide (k+1<C.length)=false:=Zg hn0;have hd0:decide (((k+1:Nat):Int)<(C.length:Int))=false:=Zg (by omega);have hi0:¬((k+1:Nat):Int)<(C.length:Int):=(by omega);have he1:(((k+1:Nat):Int)==(k:Int))=false:=(by simp<;>omega);have hg1:decide (((k+1:Nat):Int)>(k:Int)+2)=false:=Zg (by omega);have hg2:¬((k:Int)+2<((k+1:Nat):Int)):=(by omega);have he2:(((k+1:Nat):Int)==(k:Int)+2)=false:=(by simp<;>omega);have hg3:¬(k+2<k+1):=(by omega);have hg4:decide (k+2<k+1)=false:=Zg hg3;have he3:(k+1==k)=false:=(by simp);have he4:(k+1==k+2)=false:=(by simp<;>omega);obtain⟨p,hp⟩:=ZX (k+1);have HP:=J hp;rw[hp]at HS c1 hd0 hi0 he1 hg1 hg2 he2 hn0 hn1 hg3 hg4 he3 he4;clear hp ej hkj;have HZ:=J (HN.out.2.1 rfl);clear HN;obtain⟨dv,hdv⟩:=ZX (dsN C k 1);rw[hdv]at HZ hds ⊢;clear hdv;go_wp2;go_quiet (fail)
     go_wp2;go_ret;exact .inl ⟨_,k+1,HZ.out,by omega,rfl,by rw[HP.out];exact Zbu HS.out _,ZaS HK.out (Zar _ _)⟩
    ·have hn0:k+1<C.length:=(List.getElem?_eq_some_iff.1 ec).1;have hn1:decide (k+1<C.length)=true:=Zh hn0;clear c0 c1 c2 c3 f2 htc f;obtain⟨b,off,tc,ad,cp,c0,c1,c2,c3,f1,f2,ck,hl2⟩:=Zbj HS.out (ZbH ec);have hd0:decide (((k+1:Nat):Int)<(C.length:Int))=true:=Zh (by omega);have hi0:((k+1:Nat):Int)<(C.length:Int):=(by omega);have hi1:(0:Int)<=((k+1:Nat):Int):=(by omega);have hd1:decide (c>=48)=false:=Zg (by omega);have hp1:¬48<=c:=(by omega);have hp2:decide (48<=c)=false:=Zg hp1;have he1:(((k+1:Nat):Int)==(k:Int))=false:=(by simp<;>omega);have hg1:decide (((k+1:Nat):Int)>(k:Int)+2)=false:=Zg (by omega);have hg2:¬((k:Int)+2<((k+1:Nat):Int)):=(by omega);have he2:(((k+1:Nat):Int)==(k:Int)+2)=false:=(by simp<;>omega);have hg3:¬(k+2<k+1):=(by omega);have hg4:decide (k+2<k+1)=false:=Zg hg3;have he3:(k+1==k)=false:=(by simp);have he4:(k+1==k+2)=false:=(by simp<;>omega);obtain⟨p,hp⟩:=ZX (k+1);have HP:=J hp;rw[hp]at HS c1 hd0 hi0 he1 hg1 hg2 he2 hn0 hn1 hg3 hg4 he3 he4 ck hi1;clear hp ej hkj;have HZ:=J (HN.out.2.1 rfl);clear HN;obtain⟨dv,hdv⟩:=ZX (dsN C k 1);rw[hdv]at HZ hds ⊢;clear hdv;go_wp2;go_quiet (fail)
     go_wp2;go_ret;exact .inl ⟨_,k+1,HZ.out,by omega,rfl,by rw[HP.out];exact Zbu HS.out _,ZaS HK.out (Zar _ _)⟩
    ·have hn0:k+1<C.length:=(List.getElem?_eq_some_iff.1 ec).1;have hn1:decide (k+1<C.length)=true:=Zh hn0;clear c0 c1 c2 c3 f2 htc f;obtain⟨b,off,tc,ad,cp,c0,c1,c2,c3,f1,f2,ck,hl2⟩:=Zbj HS.out (ZbH ec);have hd0:decide (((k+1:Nat):Int)<(C.length:Int))=true:=Zh (by omega);have hi0:((k+1:Nat):Int)<(C.length:Int):=(by omega);have hi1:(0:Int)<=((k+1:Nat):Int):=(by omega);have hp1:48<=c:=(by omega);have hp2:¬c<=57:=(by omega);have hp3:decide (48<=c)=true:=Zh hp1;have hd1:decide (c>=48)=true:=Zh (by omega);have hd2:decide (c<=57)=false:=Zg (by omega);have he1:(((k+1:Nat):Int)==(k:Int))=false:=(by simp<;>omega);have hg1:decide (((k+1:Nat):Int)>(k:Int)+2)=false:=Zg (by omega);have hg2:¬((k:Int)+2<((k+1:Nat):Int)):=(by omega);have he2:(((k+1:Nat):Int)==(k:Int)+2)=false:=(by simp<;>omega);have hg3:¬(k+2<k+1):=(by omega);have hg4:decide (k+2<k+1)=false:=Zg hg3;have he3:(k+1==k)=false:=(by simp);have he4:(k+1==k+2)=false:=(by simp<;>omega);obtain⟨p,hp⟩:=ZX (k+1);have HP:=J hp;rw[hp]at HS c1 hd0 hi0 he1 hg1 hg2 he2 hn0 hn1 hg3 hg4 he3 he4 ck hi1;clear hp ej hkj;have HZ:=J (HN.out.2.1 rfl);clear HN;obtain⟨dv,hdv⟩:=ZX (dsN C k 1);rw[hdv]at HZ hds ⊢;clear hdv;go_wp2;go_quiet (fail)
     go_wp2;go_ret;exact .inl ⟨_,k+1,HZ.out,by omega,rfl,by rw[HP.out];exact Zbu HS.out _,ZaS HK.out (Zar _ _)⟩
    ·omega
   ·rcases hcell with hA|⟨c,ec,hB|hC|hD⟩
    ·have hn0:¬(k+2<C.length):=(by omega);have hn1:decide (k+2<C.length)=false:=Zg hn0;have hd0:decide (((k+2:Nat):Int)<(C.length:Int))=false:=Zg (by omega);have hi0:¬((k+2:Nat):Int)<(C.length:Int):=(by omega);have he1:(((k+2:Nat):Int)==(k:Int))=false:=(by simp<;>omega);have hg1:decide (((k+2:Nat):Int)>(k:Int)+2)=false:=Zg (by omega);have hg2:¬((k:Int)+2<((k+2:Nat):Int)):=(by omega);have he2:(((k+2:Nat):Int)==(k:Int)+2)=true:=(by simp<;>omega);have hg3:¬(k+2<k+2):=(by omega);have hg4:decide (k+2<k+2)=false:=Zg hg3;have he3:(k+2==k)=false:=(by simp);have he4:(k+2==k+2)=true:=(by simp<;>omega);obtain⟨p,hp⟩:=ZX (k+2);have HP:=J hp;rw[hp]at HS c1 hd0 hi0 he1 hg1 hg2 he2 hn0 hn1 hg3 hg4 he3 he4;clear hp ej hkj;obtain⟨cc,ecc,hc48,hc57⟩:=H00.out (by omega);have hgd:C[k]?.getD 0=cc:=(by rw[ecc];rfl);have hCl:0<C.length:=(by have:=(List.getElem?_eq_some_iff.1 ecc).1;omega);obtain⟨b,off,rfl,hcc⟩:=htc hCl;have ckk:=hcc k cc ecc;have hkl:(k:Int)<(C.length:Int):=(by have:=(List.getElem?_eq_some_iff.1 ecc).1;omega);have hk0:(0:Int)<=(k:Int):=(by omega);by_cases hz:cc=48
     ·have HZ:=J (HN.out.2.2.2.1 rfl (hgd.trans hz));have hzb:(cc==48)=true:=(by simp[hz]);clear hgd hz HN;obtain⟨dv,hdv⟩:=ZX (dsN C k 2);rw[hdv]at hds ⊢;clear hdv;go_wp2;go_quiet (fail)
      go_wp2;go_ret;exact .inr ⟨⟨_,_,rfl,Zia (Zbu HS.out _) true⟩,ZaS (ZaS HK.out (Zar _ _)) (Zd9 _ R 2 _),.inr HZ.out⟩
     ·have HZ:=J (HN.out.2.2.1 rfl (by rw[hgd];exact hz));have hzb:(cc==48)=false:=(by simp[hz]);clear hgd hz;obtain⟨dv,hdv⟩:=ZX (dsN C k 2);rw[hdv]at HZ hds ⊢;clear hdv HN;go_wp2;go_quiet (fail)
      go_wp2;go_ret;exact .inl ⟨_,k+2,HZ.out,by omega,rfl,by rw[HP.out];exact Zbu HS.out _,ZaS HK.out (Zar _ _)⟩
    ·have hn0:k+2<C.length:=(List.getElem?_eq_some_iff.1 ec).1;have hn1:decide (k+2<C.length)=true:=Zh hn0;clear c0 c1 c2 c3 f2 htc f;obtain⟨b,off,tc,ad,cp,c0,c1,c2,c3,f1,f2,ck,hl2⟩:=Zbj HS.out (ZbH ec);have hd0:decide (((k+2:Nat):Int)<(C.length:Int))=true:=Zh (by omega);have hi0:((k+2:Nat):Int)<(C.length:Int):=(by omega);have hi1:(0:Int)<=((k+2:Nat):Int):=(by omega);have hd1:decide (c>=48)=false:=Zg (by omega);have hp1:¬48<=c:=(by omega);have hp2:decide (48<=c)=false:=Zg hp1;have he1:(((k+2:Nat):Int)==(k:Int))=false:=(by simp<;>omega);have hg1:decide (((k+2:Nat):Int)>(k:Int)+2)=false:=Zg (by omega);have hg2:¬((k:Int)+2<((k+2:Nat):Int)):=(by omega);have he2:(((k+2:Nat):Int)==(k:Int)+2)=true:=(by simp<;>omega);have hg3:¬(k+2<k+2):=(by omega);have hg4:decide (k+2<k+2)=false:=Zg hg3;have he3:(k+2==k)=false:=(by simp);have he4:(k+2==k+2)=true:=(by simp<;>omega);obtain⟨p,hp⟩:=ZX (k+2);have HP:=J hp;rw[hp]at HS c1 hd0 hi0 he1 hg1 hg2 he2 hn0 hn1 hg3 hg4 he3 he4 ck hi1;clear hp ej hkj;obtain⟨cc,ecc,hc48,hc57⟩:=H00.out (by omega);have hgd:C[k]?.getD 0=cc:=(by rw[ecc];rfl);have hCl:0<C.length:=(by have:=(List.getElem?_eq_some_iff.1 ecc).1;omega);obtain⟨ta2,tc2,ad2,cp2,⟨c02,-⟩,-,htc2⟩:=Zal HS.out;obtain⟨b2,off2,rfl,hcc⟩:=htc2 hCl;have hbb:some (Value.slice (some ⟨b2,off2,none⟩) C.length tc2)=some (Value.slice (some ⟨b,off,none⟩) C.length tc):=c02.symm.trans c0;simp only[ZDJ,ZDG,Addr.mk.injEq,Z3,ZZ]at hbb;obtain⟨⟨rfl,rfl⟩,rfl⟩:=hbb;have ckk:=hcc k cc ecc;clear c02 htc2 hcc;have hkl:(k:Int)<(C.length:Int):=(by have:=(List.getElem?_eq_some_iff.1 ecc).1;omega);have hk0:(0:Int)<=(k:Int):=(by omega);by_cases hz:cc=48
     ·have HZ:=J (HN.out.2.2.2.1 rfl (hgd.trans hz));have hzb:(cc==48)=true:=(by simp[hz]);clear hgd hz HN;obtain⟨dv,hdv⟩:=ZX (dsN C k 2);rw[hdv]at hds ⊢;clear hdv;go_wp2;go_quiet (fail)
      go_wp2;go_ret;exact .inr ⟨⟨_,_,rfl,Zia (Zbu HS.out _) true⟩,ZaS (ZaS HK.out (Zar _ _)) (Zd9 _ R 2 _),.inr HZ.out⟩
     ·have HZ:=J (HN.out.2.2.1 rfl (by rw[hgd];exact hz));have hzb:(cc==48)=false:=(by simp[hz]);clear hgd hz;obtain⟨dv,hdv⟩:=ZX (dsN C k 2);rw[hdv]at HZ hds ⊢;clear hdv HN;go_wp2;go_quiet (fail)
      go_wp2;go_ret;exact .inl ⟨_,k+2,HZ.out,by omega,rfl,by rw[HP.out];exact Zbu HS.out _,ZaS HK.out (Zar _ _)⟩
    ·have hn0:k+2<C.length:=(List.getElem?_eq_some_iff.1 ec).1;have hn1:decide (k+2<C.length)=true:=Zh hn0;clear c0 c1 c2 c3 f2 htc f;obtain⟨b,off,tc,ad,cp,c0,c1,c2,c3,f1,f2,ck,hl2⟩:=Zbj HS.out (ZbH ec);have hd0:decide (((k+2:Nat):Int)<(C.length:Int))=true:=Zh (by omega);have hi0:((k+2:Nat):Int)<(C.length:Int):=(by omega);have hi1:(0:Int)<=((k+2:Nat):Int):=(by omega);have hp1:48<=c:=(by omega);have hp2:¬c<=57:=(by omega);have hp3:decide (48<=c)=true:=Zh hp1;have hd1:decide (c>=48)=true:=Zh (by omega);have hd2:decide (c<=57)=false:=Zg (by omega);have he1:(((k+2:Nat):Int)==(k:Int))=false:=(by simp<;>omega);have hg1:decide (((k+2:Nat):Int)>(k:Int)+2)=false:=Zg (by omega);have hg2:¬((k:Int)+2<((k+2:Nat):Int)):=(by omega);have he2:(((k+2:Nat):Int)==(k:Int)+2)=true:=(by simp<;>omega);have hg3:¬(k+2<k+2):=(by omega);have hg4:decide (k+2<k+2)=false:=Zg hg3;have he3:(k+2==k)=false:=(by simp);have he4:(k+2==k+2)=true:=(by simp<;>omega);obtain⟨p,hp⟩:=ZX (k+2);have HP:=J hp;rw[hp]at HS c1 hd0 hi0 he1 hg1 hg2 he2 hn0 hn1 hg3 hg4 he3 he4 ck hi1;clear hp ej hkj;obtain⟨cc,ecc,hc48,hc57⟩:=H00.out (by omega);have hgd:C[k]?.getD 0=cc:=(by rw[ecc];rfl);have hCl:0<C.length:=(by have:=(List.getElem?_eq_some_iff.1 ecc).1;omega);obtain⟨ta2,tc2,ad2,cp2,⟨c02,-⟩,-,htc2⟩:=Zal HS.out;obtain⟨b2,off2,rfl,hcc⟩:=htc2 hCl;have hbb:some (Value.slice (some ⟨b2,off2,none⟩) C.length tc2)=some (Value.slice (some ⟨b,off,none⟩) C.length tc):=c02.symm.trans c0;simp only[ZDJ,ZDG,Addr.mk.injEq,Z3,ZZ]at hbb;obtain⟨⟨rfl,rfl⟩,rfl⟩:=hbb;have ckk:=hcc k cc ecc;clear c02 htc2 hcc;have hkl:(k:Int)<(C.length:Int):=(by have:=(List.getElem?_eq_some_iff.1 ecc).1;omega);have hk0:(0:Int)<=(k:Int):=(by omega);by_cases hz:cc=48
     ·have HZ:=J (HN.out.2.2.2.1 rfl (hgd.trans hz));have hzb:(cc==48)=true:=(by simp[hz]);clear hgd hz HN;obtain⟨dv,hdv⟩:=ZX (dsN C k 2);rw[hdv]at hds ⊢;clear hdv;go_wp2;go_quiet (fail)
      go_wp2;go_ret;exact .inr ⟨⟨_,_,rfl,Zia (Zbu HS.out _) true⟩,ZaS (ZaS HK.out (Zar _ _)) (Zd9 _ R 2 _),.inr HZ.out⟩
     ·have HZ:=J (HN.out.2.2.1 rfl (by rw[hgd];exact hz));have hzb:(cc==48)=false:=(by simp[hz]);clear hgd hz;obtain⟨dv,hdv⟩:=ZX (dsN C k 2);rw[hdv]at HZ hds ⊢;clear hdv HN;go_wp2;go_quiet (fail)
      go_wp2;go_ret;exact .inl ⟨_,k+2,HZ.out,by omega,rfl,by rw[HP.out];exact Zbu HS.out _,ZaS HK.out (Zar _ _)⟩
    ·omega
   ·rcases hcell with hA|⟨c,ec,hB|hC|hD⟩
    ·have hn0:¬(k+3<C.length):=(by omega);have hn1:decide (k+3<C.length)=false:=Zg hn0;have hd0:decide (((k+3:Nat):Int)<(C.length:Int))=false:=Zg (by omega);have hi0:¬((k+3:Nat):Int)<(C.length:Int):=(by omega);have he1:(((k+3:Nat):Int)==(k:Int))=false:=(by simp<;>omega);have hg1:decide (((k+3:Nat):Int)>(k:Int)+2)=true:=Zh (by omega);have hg2 :  ((k:Int)+2<((k+3:Nat):Int)):=(by omega);have he2:(((k+3:Nat):Int)==(k:Int)+2)=false:=(by simp<;>omega);have hg3:(k+2<k+3):=(by omega);have hg4:decide (k+2<k+3)=true:=Zh hg3;have he3:(k+3==k)=false:=(by simp);have he4:(k+3==k+2)=false:=(by simp<;>omega);obtain⟨p,hp⟩:=ZX (k+3);have HP:=J hp;rw[hp]at HS c1 hd0 hi0 he1 hg1 hg2 he2 hn0 hn1 hg3 hg4 he3 he4;clear hp ej hkj;have HZ:=J (HN.out.2.2.2.2 rfl);clear HN;obtain⟨dv,hdv⟩:=ZX (dsN C k 3);rw[hdv]at hds ⊢;clear hdv;go_wp2;go_quiet (fail)
     go_wp2;go_ret;exact .inr ⟨⟨_,_,rfl,Zia (Zbu HS.out _) true⟩,ZaS (ZaS HK.out (Zar _ _)) (Zd9 _ R 2 _),.inr HZ.out⟩
    ·have hn0:k+3<C.length:=(List.getElem?_eq_some_iff.1 ec).1;have hn1:decide (k+3<C.length)=true:=Zh hn0;clear c0 c1 c2 c3 f2 htc f;obtain⟨b,off,tc,ad,cp,c0,c1,c2,c3,f1,f2,ck,hl2⟩:=Zbj HS.out (ZbH ec);have hd0:decide (((k+3:Nat):Int)<(C.length:Int))=true:=Zh (by omega);have hi0:((k+3:Nat):Int)<(C.length:Int):=(by omega);have hi1:(0:Int)<=((k+3:Nat):Int):=(by omega);have hd1:decide (c>=48)=false:=Zg (by omega);have hp1:¬48<=c:=(by omega);have hp2:decide (48<=c)=false:=Zg hp1;have he1:(((k+3:Nat):Int)==(k:Int))=false:=(by simp<;>omega);have hg1:decide (((k+3:Nat):Int)>(k:Int)+2)=true:=Zh (by omega);have hg2 :  ((k:Int)+2<((k+3:Nat):Int)):=(by omega);have he2:(((k+3:Nat):Int)==(k:Int)+2)=false:=(by simp<;>omega);have hg3:(k+2<k+3):=(by omega);have hg4:decide (k+2<k+3)=true:=Zh hg3;have he3:(k+3==k)=false:=(by simp);have he4:(k+3==k+2)=false:=(by simp<;>omega);obtain⟨p,hp⟩:=ZX (k+3);have HP:=J hp;rw[hp]at HS c1 hd0 hi0 he1 hg1 hg2 he2 hn0 hn1 hg3 hg4 he3 he4 ck hi1;clear hp ej hkj;have HZ:=J (HN.out.2.2.2.2 rfl);clear HN;obtain⟨dv,hdv⟩:=ZX (dsN C k 3);rw[hdv]at hds ⊢;clear hdv;go_wp2;go_quiet (fail)
     go_wp2;go_ret;exact .inr ⟨⟨_,_,rfl,Zia (Zbu HS.out _) true⟩,ZaS (ZaS HK.out (Zar _ _)) (Zd9 _ R 2 _),.inr HZ.out⟩
    ·have hn0:k+3<C.length:=(List.getElem?_eq_some_iff.1 ec).1;have hn1:decide (k+3<C.length)=true:=Zh hn0;clear c0 c1 c2 c3 f2 htc f;obtain⟨b,off,tc,ad,cp,c0,c1,c2,c3,f1,f2,ck,hl2⟩:=Zbj HS.out (ZbH ec);have hd0:decide (((k+3:Nat):Int)<(C.length:Int))=true:=Zh (by omega);have hi0:((k+3:Nat):Int)<(C.length:Int):=(by omega);have hi1:(0:Int)<=((k+3:Nat):Int):=(by omega);have hp1:48<=c:=(by omega);have hp2:¬c<=57:=(by omega);have hp3:decide (48<=c)=true:=Zh hp1;have hd1:decide (c>=48)=true:=Zh (by omega);have hd2:decide (c<=57)=false:=Zg (by omega);have he1:(((k+3:Nat):Int)==(k:Int))=false:=(by simp<;>omega);have hg1:decide (((k+3:Nat):Int)>(k:Int)+2)=true:=Zh (by omega);have hg2 :  ((k:Int)+2<((k+3:Nat):Int)):=(by omega);have he2:(((k+3:Nat):Int)==(k:Int)+2)=false:=(by simp<;>omega);have hg3:(k+2<k+3):=(by omega);have hg4:decide (k+2<k+3)=true:=Zh hg3;have he3:(k+3==k)=false:=(by simp);have he4:(k+3==k+2)=false:=(by simp<;>omega);obtain⟨p,hp⟩:=ZX (k+3);have HP:=J hp;rw[hp]at HS c1 hd0 hi0 he1 hg1 hg2 he2 hn0 hn1 hg3 hg4 he3 he4 ck hi1;clear hp ej hkj;have HZ:=J (HN.out.2.2.2.2 rfl);clear HN;obtain⟨dv,hdv⟩:=ZX (dsN C k 3);rw[hdv]at hds ⊢;clear hdv;go_wp2;go_quiet (fail)
     go_wp2;go_ret;exact .inr ⟨⟨_,_,rfl,Zia (Zbu HS.out _) true⟩,ZaS (ZaS HK.out (Zar _ _)) (Zd9 _ R 2 _),.inr HZ.out⟩
    ·have hn0:k+3<C.length:=(List.getElem?_eq_some_iff.1 ec).1;have hn1:decide (k+3<C.length)=true:=Zh hn0;have hn2:¬k+3<k+3:=(by omega);have hn3:decide (k+3<k+3)=false:=Zg hn2;clear c0 c1 c2 c3 f2 htc f;obtain⟨b,off,tc,ad,cp,c0,c1,c2,c3,f1,f2,ck,hl2⟩:=Zbj HS.out (ZbH ec);have hd0:decide (((k+3:Nat):Int)<(C.length:Int))=true:=Zh (by omega);have hi0:((k+3:Nat):Int)<(C.length:Int):=(by omega);have hi1:(0:Int)<=((k+3:Nat):Int):=(by omega);have hp1:48<=c:=(by omega);have hp2:c<=57:=(by omega);have hp3:decide (48<=c)=true:=Zh hp1;have hd1:decide (c>=48)=true:=Zh (by omega);have hd2:decide (c<=57)=true:=Zh (by omega);have hd3:decide (((k+3:Nat):Int)<(k:Int)+3)=false:=Zg (by omega);have hd4:¬((k+3:Nat):Int)<(k:Int)+3:=(by omega);have he1:(((k+3:Nat):Int)==(k:Int))=false:=(by simp<;>omega);have hg1:decide (((k+3:Nat):Int)>(k:Int)+2)=true:=Zh (by omega);have hg2 :  ((k:Int)+2<((k+3:Nat):Int)):=(by omega);have he2:(((k+3:Nat):Int)==(k:Int)+2)=false:=(by simp<;>omega);have hg3:(k+2<k+3):=(by omega);have hg4:decide (k+2<k+3)=true:=Zh hg3;have he3:(k+3==k)=false:=(by simp);have he4:(k+3==k+2)=false:=(by simp<;>omega);obtain⟨p,hp⟩:=ZX (k+3);have HP:=J hp;rw[hp]at HS c1 hd0 hi0 he1 hg1 hg2 he2 hn0 hn1 hg3 hg4 he3 he4 ck hi1 hd3 hd4 hn2 hn3;clear hp ej hkj;have HZ:=J (HN.out.2.2.2.2 rfl);clear HN;obtain⟨dv,hdv⟩:=ZX (dsN C k 3);rw[hdv]at hds ⊢;clear hdv;go_wp2;go_quiet (fail)
     go_wp2;go_ret;exact .inr ⟨⟨_,_,rfl,Zia (Zbu HS.out _) true⟩,ZaS (ZaS HK.out (Zar _ _)) (Zd9 _ R 2 _),.inr HZ.out⟩
end
section
open Go.RowKit Go.Joins Go.Maps
theorem ZtL(X:Rx)(len:Nat)(hX:X.len=len)(hlen:len<=120)(hnr:∀j,j<len->X.NR j<=maxLen)(b0 off cap B R:Nat)(M:List Sp)(K b:Nat)(s:ZB)(C:List Int)(N:Nat)(bb:Bool)(hs:s.size<=1048576)(hC:ZF (rns s)=C)(hbb:(rns s).isSome=bb)(hN:C.length=N)(hM:M.length=K)(hK1:1<=K)(hK4:K<=400000)(hW:Wf X M)(S:Nat->Bool)(hcl:Clo M S)(w:World)(hT:Ztz w)(hr:Zch w b0 off X B)(hb0:b0<B)(h:MG B w R (.slice (some ⟨b0,off,none⟩) len cap) (.map (some b)) (I 0) M)(hps:PS w b S K):
  Calls prog 129 #[.pointer (some ⟨R,13,none⟩),.string s] w (TkA X M C bb S w):=by
 have CR:=J (Zdd s C bb w hs hT hC hbb);have hB:=(ZtE h).1;have HM:=J h;have HR:=J hr;have HW:=J hW;have HPS:=J hps;have HCL:=J hcl;have HML:=J hM;have HNL:=J hN;have HXL:=J hX;have HNR:=J hnr;rw[hN]at CR;have hN2:N<=20000:=by rw[<-hN,<-hC];exact Zb0 s
 clear hC hbb hT h hr hW hps hcl hM hN hX hnr;go_enter func129,ntmps129
 go_wp2_with fail
 refine CR.out.mono ?_;rintro e w1 ⟨ad,c,rfl,ho,hb1⟩;have HO:=J (Zdi HNL.out ho);have HB1:=J hb1;have hsz1:=hb1.size;clear ho hb1 CR;cases bb
 ·go_wp2;go_ret;exact⟨false,rfl,⟨λe=>(by cases e),λe=>(by cases e.1)⟩,HB1.out⟩
 ·by_cases h3:(300:Int)<(N:Int)
  ·go_wp2;go_ret;exact⟨false,rfl,⟨λe=>(by cases e),λe=>(by have:=e.2.1;rw[HNL.out]at this;omega)⟩,HB1.out⟩
  ·obtain⟨sa,sc,d0,d1,d2,d3,-⟩:=ZoQ (ZkD HM.out HB1.out);go_wp2;clear sa sc d0 d1 d2 d3
   go_loopw [7,30] (λv7 v30 wr=>∃(i bh:Nat) (Sh:Nat->Bool),v7=.map (some bh)/\v30=I i/\i<=N/\Hid (PS wr bh Sh K)/\Hid (Clo M Sh)/\Hid (Hr M (clX X C) N Sh i↔Hr M (clX X C) N S 0)/\Hid (ZL w1 wr)) (λ_ v _=>N-(Zi v).toNat)
   case atStart=>exact⟨0,b,S,rfl,rfl,Zx _,J (Zfl HPS.out (Zew HB1.out (λ_=>False)) (λe=>e)),HCL,J Iff.rfl,J (Ze _ _)⟩
   case round=>
    obtain⟨i,bh,Sh,rfl,rfl,hi,HP,HC,HH,HB⟩:=hrel;have HMr:=J (ZkD (ZkD HM.out HB1.out) HB.out);by_cases hlt:i<N
    ·obtain⟨g,o,rfl,hg,hc⟩:=HO.out (by intro e;have:=HNL.out;rw[e]at this;simp at this;omega);obtain⟨ch,hch⟩:=ZX (C[i]?.getD 0);have hci:wr.cell? ⟨g,o+i,none⟩=some (I ch):=(HB.out.cell (p:=⟨g,o+i,none⟩) hg).trans (by rw[hc i (by rw[HNL.out];exact hlt),<-hch]);have HCH:=J hch;have CA:=J (Zm9 X len HXL.out hlen HNR.out b0 off cap B R (.map (some bh)) (I 0) M K bh ch HML.out hK4 HW.out Sh wr);have CA2:=J (λve=>Zm9 X len HXL.out hlen HNR.out b0 off cap B R (.map (some b)) (I 0) M K bh ch HML.out hK4 HW.out Sh wr (ZaN (ZaN HR.out hb0 (HB1.out.mono hB)) hb0 (HB.out.mono (ZDA hB hsz1))) hb0 HMr.out ve);clear hc CA hch;go_wp2_with (go_at_call 176;refine(CA2.out HP.out).mono ?_;rintro e w4 ⟨T4,rfl,hp4,hc4,ha4,hb4⟩;have HP4:=J hp4;have HC4:=J hc4;have HA4:=J ha4;have HB4:=J (HB.out.trans (hb4.mono HB.out.size));clear hp4 hc4 ha4 hb4)
     go_roundw
     case rel=>
      refine⟨i+1,wr.heap.size,T4,rfl,by go_num,by omega,HP4,HC4,J ?_,HB4⟩;rw[<-HH.out];refine Zxk hlt HC.out (λx=>?_);have e:(λn=>clX X C n i)=dX X ch:=by
       funext n
       rw[ZvQ (by rw[HNL.out];exact hlt),HCH.out];rfl
      rw[e];exact HA4.out x
     case measure=>simp[Zi];omega
    ·have hin:i=N:=(by omega);subst hin;obtain⟨sa,sc,d0,d1,d2,d3,-⟩:=ZoQ HMr.out;obtain⟨n,D,hown,hn,hmap,hh,hSK⟩:=HP.out;have HOW:=J hown;have hkey:keyOf prog 2 (I (0:Int))=some (Lit.int .i64 (0:Int)):=ZCh (p:=0) (by omega);obtain⟨z,hz⟩:=ZX (Sh 0);have HHas:Maps.has D (Lit.int .i64 (0:Int))=z:=(ZnY hh 0).trans hz;have HZ:=J hz;clear hown hmap hh hSK hz;go_wp2_with (at_lookup;refine wpList_lookup_own_unit _ rfl _ _ 60 rfl 2 93 Zox underlying60 (Zme _) bh n _ rfl HOW.out _ _ rfl hkey ?_;rw[HHas])
     go_ret;refine⟨z,rfl,?_,(HB1.out.trans (HB.out.mono hsz1)).alloc (ZDA hsz1 HB.out.size) _⟩;rw[HNL.out,<-HH.out,Zzh HC.out (λn i hc=>by have:=ZAm hc;rw[HNL.out]at this;exact this),HZ.out];exact⟨λe=>⟨rfl,by omega,e⟩,λe=>e.2.2⟩
end
end Go.Proofs.YtcdnilpdohknfaaGreatDoor
