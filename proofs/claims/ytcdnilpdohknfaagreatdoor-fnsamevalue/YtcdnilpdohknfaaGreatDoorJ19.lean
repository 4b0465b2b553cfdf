import Derived.Test.YtcdnilpdohknfaaGreatDoorJ16
import Derived.Test.YtcdnilpdohknfaaGreatDoorJ10
import Derived.Lib.RuneCount
import Derived.Test.YtcdnilpdohknfaaGreatDoorJ17
set_option linter.unusedVariables false
set_option linter.unusedSimpArgs false
set_option maxRecDepth 100000
set_option maxHeartbeats 16000000
namespace Go.Proofs.YtcdnilpdohknfaaGreatDoor
open Tryz
section
open Go.Lib
theorem Zup(n m b0 b1 b2 b3 c1 c2 c3:Nat)(hn:1<=n)(hm:n<m)(h1:1<n->b1=c1)(h2:2<n->b2=c2)(h3:3<n->b3=c3)(k1:n=1->c1<128)(k2:n=2->c2<128)(k3:n=3->c3<128):
  decodeN n b0 b1 b2 b3=decodeN m b0 c1 c2 c3:=by
 rcases(show n=1\/n=2\/n=3\/4<=n by omega) with e|e|e|e
 ·subst e;have:=k1 rfl;unfold decodeN;simp only[show ¬(1<1) by omega,show ¬(2<1) by omega,show ¬(3<1) by omega,show ¬(c1/64=2) by omega,Z1,Z2,if_false]
 ·subst e;have e1:=h1 (by omega);subst e1;have:=k2 rfl;unfold decodeN;simp only[show(1<2) by omega,show(1<m) by omega,show ¬(2<2) by omega,show ¬(3<2) by omega,show ¬(c2/64=2) by omega,Z1,Z2,ZZ,if_false]
 ·subst e;have e1:=h1 (by omega);have e2:=h2 (by omega);subst e1 e2;have:=k3 rfl;unfold decodeN;simp only[show(1<3) by omega,show(1<m) by omega,show(2<3) by omega,show(2<m) by omega,show ¬(3<3) by omega,show ¬(c3/64=2) by omega,Z1,Z2,ZZ,if_false]
 ·have e1:=h1 (by omega);have e2:=h2 (by omega);have e3:=h3 (by omega);subst e1 e2 e3;unfold decodeN;simp only[show(1<n) by omega,show(1<m) by omega,show(2<n) by omega,show(2<m) by omega,show(3<n) by omega,show(3<m) by omega]
theorem ZyG(a b:List UInt8)(c:UInt8)(ha:a≠[])(hc:c.toNat<128):decodeL (a++c::b)=decodeL a:=by
 have hl:1<=a.length:=List.length_pos_iff.2 ha;have hg:∀i,i<a.length->(a++c::b).getD i 0=a.getD i 0:=λi hi=>by
  simp[List.getD,List.getElem?_append_left hi]
 have hx:∀i,a.length=i->(a++c::b).getD i 0=c:=λi hi=>by
  subst hi;simp[List.getD]
 rw[decodeL_N,decodeL_N a];have e0:=hg 0 (by omega);rw[e0];refine(Zup _ _ _ _ _ _ _ _ _ hl (by simp) (λh=>by rw[hg 1 h]) (λh=>by rw[hg 2 h]) (λh=>by rw[hg 3 h]) (λh=>by rw[hx 1 h];exact hc) (λh=>by rw[hx 2 h];exact hc) (λh=>by rw[hx 3 h];exact hc)).symm
theorem Zqn(c:UInt8)(b:List UInt8)(hc:c.toNat<128):Z9 (c::b)=(Z9 b).map ((c.toNat:Int)::·):=by
 have e:decodeL (c::b)=(c.toNat,1):=decodeL_ascii c b hc;rw[ZbA (by simp) (by rw[e];intro h;have:=(Prod.mk.inj h).1;omega),e];rfl
theorem ZkK:∀(f:Nat) (a b:List UInt8) (c:UInt8),a.length<=f->c.toNat<128->Z9 (a++c::b)=(Z9 a).bind λx=>(Z9 (c::b)).map λy=>x++y
 |0,a,b,c,hf,hc=>by
  have:a=[]:=List.length_eq_zero_iff.1 (by omega);subst this;rw[List.nil_append,Zbs];simp
 |f+1,a,b,c,hf,hc=>by
  by_cases ha:a=[]
  ·subst ha;rw[List.nil_append,Zbs];simp
  ·have ed:=ZyG a b c ha hc;have hne:a++c::b≠[]:=by simp
   have hle:=decodeL_le a ha;have hw:=decodeL_width a;by_cases hb:decodeL a=(65533,1)
   ·rw[Zb7 hne (ed.trans hb),Zb7 ha hb];rfl
   ·rw[ZbA hne (λe=>hb (ed.symm.trans e)),ZbA ha hb,ed,List.drop_append_of_le_length hle,ZkK f _ b c (by rw[ZDC];omega) hc];cases Z9 (a.drop (decodeL a).2)<;>cases Z9 (c::b)<;>simp
def plL(l:List UInt8):Bool:=(Z9 l).isSome&&((Z9 l).getD []).all ZgG
theorem ZvH:plL []=true:=rfl
theorem Zqs(a b:List UInt8)(c:UInt8)(hc:c.toNat<128):plL (a++c::b)=(plL a&&(ZgG (c.toNat:Int)&&plL b)):=by
 unfold plL;rw[ZkK a.length a b c (Zb _) hc,Zqn c b hc];cases Z9 a with
 |none=>simp
 |some x=>
  cases Z9 b with
  |none=>simp
  |some y=>simp[List.all_append,Bool.and_assoc]
theorem Zc7(s:ZB):ZD s=(decide (s.size<=20000)&&plL s.data.toList):=by
 unfold ZD plL;by_cases h:s.size<=20000
 ·rw[ZfK h];simp[h,ZF]
 ·rw[Zjo h];simp[h]
theorem ZBr{c:UInt8}(h:blB c=true):c.toNat<128/\ZgG (c.toNat:Int)=true:=by
 unfold blB at h;simp only[ZDI,ZEd]at h;rcases h with ((rfl|rfl)|rfl)|rfl<;>decide
theorem Ztr:∀(l w:List UInt8),plL (w++l)=(wdB w l).all plL
 |[],w=>by
  rw[List.append_nil,wdB];by_cases e:w=[]
  ·rw[Zd e,e];rfl
  ·rw[Za e];simp
 |c::l,w=>by
  rw[wdB];by_cases hb:blB c=true
  ·obtain⟨h1,h2⟩:=ZBr hb;have ih:=Ztr l [];rw[List.nil_append]at ih;rw[Zd hb,Zqs w l c h1,h2,Bool.true_and,ih];by_cases e:w=[]
   ·rw[Zd e,e,ZvH,Bool.true_and]
   ·rw[Za e,List.all_cons]
  ·rw[Za hb,<-Ztr l (w++[c])];simp
theorem ZmX:∀W:List (List UInt8),plL (Lib.join W [32])=W.all plL
 |[]=>rfl
 |[x]=>by rw[Lib.join_one];simp
 |x::y::r=>by
  rw[Zd4,Zqs _ _ 32 (by decide),ZmX (y::r)];rw[show ZgG (((32:UInt8).toNat:Nat):Int)=true from by decide,Bool.true_and,<-List.all_cons]
theorem Zm2(s:ZB):(jnB s).data.toList=Lib.join (wdB [] s.data.toList) [32]:=rfl
theorem ZCg(s:ZB):plL (jnB s).data.toList=plL s.data.toList:=by
 rw[Zm2,ZmX,<-Ztr];rfl
theorem Zop:∀W:List (List UInt8),(Lib.join W [32]).length+1<=W.flatten.length+W.length+1
 |[]=>by simp[Lib.join_nil]
 |[x]=>by rw[Lib.join_one];simp
 |x::y::r=>by
  have:=Zop (y::r);rw[Zd4];simp only[ZDz,ZDB,List.flatten_cons]at this ⊢;omega
theorem Zky:∀W:List (List UInt8),W≠[]->(Lib.join W [32]).length+1=W.flatten.length+W.length
 |[],h=>absurd rfl h
 |[x],_=>by rw[Lib.join_one];simp
 |x::y::r,_=>by
  have:=Zky (y::r) (by simp);rw[Zd4];simp only[ZDz,ZDB,List.flatten_cons]at this ⊢;omega
theorem Zii:∀(l w:List UInt8),(wdB w l).flatten.length+(wdB w l).length<=w.length+l.length+1
 |[],w=>by
  rw[wdB];by_cases e:w=[]
  ·rw[Zd e];simp
  ·rw[Za e];simp
 |c::l,w=>by
  rw[wdB];by_cases hb:blB c=true
  ·have ih:=Zii l [];rw[Zd hb];by_cases e:w=[]
   ·rw[Zd e];simp only[List.length_nil,ZDB]at ih ⊢;omega
   ·rw[Za e];simp only[List.flatten_cons,ZDz,ZDB,List.length_nil]at ih ⊢;omega
  ·have ih:=Zii l (w++[c]);rw[Za hb];simp only[ZDz,ZDB,List.length_nil]at ih ⊢;omega
theorem Zer(s:ZB):(jnB s).size<=s.size:=by
 have h1:(jnB s).size=(Lib.join (wdB [] s.data.toList) [32]).length:=by
  show(Lib.join (wdB [] s.data.toList) [32]).toArray.size=_;rw[List.size_toArray]
 have h2:s.data.toList.length=s.size:=by simp
 have h3:=Zii s.data.toList [];rw[h1];by_cases e:wdB [] s.data.toList=[]
 ·rw[e,Lib.join_nil];simp
 ·have h4:=Zky _ e;simp only[List.length_nil]at h3;omega
theorem ZjE{s:ZB}(h:s.size<=20000):ZD (jnB s)=ZD s:=by
 have:=Zer s;rw[Zc7,Zc7,ZCg];simp[h,show(jnB s).size<=20000 by omega]
theorem Zb5{s:ZB}(h:ZD s=true):s.size<=20000:=by
 rw[Zc7]at h;simp at h;exact h.1
theorem ZrP(s:ZB){x:List UInt8}(hx:x∈wdB [] s.data.toList):x.length<=s.size:=by
 have h3:=Zii s.data.toList [];have h2:s.data.toList.length=s.size:=by simp
 have h5:∀(W:List (List UInt8)),x∈W->x.length+1<=W.flatten.length+W.length:=λW=>by
  induction W with
  |nil=>intro h;cases h
  |cons y r ih=>
   intro h;simp only[List.flatten_cons,ZDz,ZDB];rcases List.mem_cons.1 h with rfl|h
   ·omega
   ·have:=ih h;omega
 have:=h5 _ hx;simp only[List.length_nil]at h3;omega
theorem ZjL{s:ZB}(h:ZD s=true){x:List UInt8}(hx:x∈wdB [] s.data.toList):ZD ⟨x.toArray⟩=true:=by
 have hs:=Zb5 h;have hl:=ZrP s hx;rw[Zc7]at h ⊢;simp only[ZW,Z6]at h ⊢;refine⟨by show x.toArray.size<=_;rw[List.size_toArray];omega,?_⟩;have h2:=Ztr s.data.toList [];rw[List.nil_append,h.2]at h2;exact List.all_eq_true.1 h2.symm x hx
theorem Znm:∀l:List UInt8,(∀c∈l,c.toNat<128/\ZgG (c.toNat:Int)=true)->plL l=true
 |[],_=>rfl
 |c::l,h=>by
  obtain⟨h1,h2⟩:=h c (ZDH ..);have:=Zqs [] l c h1;rw[List.nil_append]at this;rw[this,ZvH,h2,Znm l (λd hd=>h d (ZDN _ hd))];rfl
theorem ZeE{s:ZB}(hs:s.size<=20000)(h:∀c∈(jnB s).data.toList,c.toNat<128/\ZgG (c.toNat:Int)=true):ZD s=true:=by
 rw[<-ZjE hs,Zc7,Znm _ h];have:=Zer s;simp;omega
theorem Zi6(s:ZB):∀(f pos:Nat) (x:List Int),s.size<=pos+f->pos<=s.size->Z9 (s.data.toList.drop pos)=some x->runeCountFrom s f pos=x.length
 |0,pos,x,hf,hp,h=>by
  have:s.data.toList.drop pos=[]:=List.drop_eq_nil_of_le (by simp;omega);rw[this,Zbs]at h;cases h;rfl
 |f+1,pos,x,hf,hp,h=>by
  by_cases hlt:pos<s.size
  ·have hne:s.data.toList.drop pos≠[]:=λe=>by
    have:=Zn List.length e;simp at this;omega
   have hw:=decode_width_pos s pos hlt;by_cases hb:decodeL (s.data.toList.drop pos)=(65533,1)
   ·rw[Zb7 hne hb]at h;cases h
   ·have hle:=decodeL_le _ hne;rw[decodeL_drop]at hle;rw[ZbA hne hb,decodeL_drop,List.drop_drop]at h;rcases hy:Z9 (s.data.toList.drop (pos+(Utf8.decode s pos).2)) with _|y
    ·rw[hy]at h;cases h
    ·rw[hy]at h;cases h;have h9:(s.data.toList.drop pos).length=s.size-pos:=(by simp);rw[runeCountFrom,Zd hlt,Zi6 s f _ y (by omega) (by omega) hy];simp;omega
  ·have:s.data.toList.drop pos=[]:=List.drop_eq_nil_of_le (by simp;omega);rw[this,Zbs]at h;cases h;exact runeCountFrom_end s _ _ hlt
theorem Zmo{s:ZB}(h:ZD s=true):Lib.runeCount s=(ZF (rns s)).length:=by
 have hs:=Zb5 h;unfold ZD at h;rw[ZW]at h;have h1:=h.1;rw[ZfK hs]at h1 ⊢;rcases hy:Z9 s.data.toList with _|y
 ·rw[hy]at h1;cases h1
 ·exact Zi6 s s.size 0 y (by omega) (Zx _) (by rw[List.drop_zero];exact hy)
end
section
open Go.RowKit Go.Joins
def EnA(X:Rx)(B R:Nat)(v0 v2 v3:Value)(M:List Sp)(n next:Nat)(w:World)(e:Ending)(w':World):Prop:=∃p M',e=.returned (I (p:Nat))/\Ent X M (λc=>tkX X c n) next p M'/\M'.length<=M.length+tsX X n/\MA B w' R v0 v2 v3 M'/\Bf B R w w'
def EnC(X:Rx)(len b off cap B n:Nat):Prop:=∀(R:Nat) (v2 v3:Value) (M:List Sp) (next:Nat) (w:World),Zch w b off X B->b<B->MA B w R (.slice (some ⟨b,off,none⟩) len cap) v2 v3 M->M≠[]->next<M.length->M.length+tsX X n<=300000->
 Calls prog 190 #[.pointer (some ⟨R,0,none⟩),I n,I next] w (EnA X B R (.slice (some ⟨b,off,none⟩) len cap) v2 v3 M n next w)
def LoA(X:Rx)(B R:Nat)(v0 v2 v3:Value)(M:List Sp)(n next:Nat)(w:World)(e:Ending)(w':World):Prop:=∃M',e=.returned (I (M.length:Nat))/\Ent X M (λc=>stR (tkX X c n)) next M.length M'/\M'.length<=M.length+tsX X n+1/\MA B w' R v0 v2 v3 M'/\Bf B R w w'
def LfR(X:Rx)(n0 n:Nat):Prop:=n<=n0/\(∃f,trX X n=some f)/\tsX X n<=tsX X n0/\∀c i j,stR (tkX X c n) i j↔stR (tkX X c n0) i j
theorem Zw0{X:Rx}{n f:Nat}(h:trX X n=some f):LfR X n n:=⟨Zb _,⟨f,h⟩,Zb _,λ_ _ _=>Iff.rfl⟩
theorem ZxI{kd mn mx:Int}(h:lfB kd mn mx=true):kd=5/\mn=0/\(mx=1\/mx = -1):=by
 unfold lfB at h;simp only[ZW,ZDI,ZD1]at h;exact⟨h.1.1,h.1.2,h.2⟩
theorem ZyW{X:Rx}{n0 n:Nat}(h:LfR X n0 n)(hl:lfB (X.K n) (X.MN n) (X.MX n)=true):X.A n=((n-1:Nat):Int)/\n-1<n/\LfR X n0 (n-1):=by
 obtain⟨h1,⟨f,h2⟩,h3,h4⟩:=h;obtain⟨k5,hmn,hmx⟩:=ZxI hl;obtain⟨hA,ha,t1⟩:=Zhe h2 k5;refine⟨hA,ha,by omega,⟨f,t1⟩,?_,λc i j=>?_⟩
 ·rw[ZqL k5 hA ha]at h3;refine ZDA ?_ h3;have hm:=Zrc X n;have:1*(tsX X (n-1)+1)<=(muX X n).toNat*(tsX X (n-1)+1):=Nat.mul_le_mul (by omega) (Zb _);omega
 ·rw[<-h4,Zsb k5 hA ha,hmn];exact(ZxF hmx i j).symm
theorem ZAT{B R g sc k:Nat}{v0 v2 v3:Value}{M:List Sp}{w:World}(h:MA B w R v0 v2 v3 M)(hc:w.cell? ⟨R,1,none⟩=some (.slice (some ⟨g,0,none⟩) M.length sc))(s:Sp)(hk:k<M.length):
  MA B ((((w.setCell ⟨g,k*4,none⟩ (.bool s.fk)).setCell ⟨g,k*4+1,none⟩ (I s.cs)).setCell ⟨g,k*4+2,none⟩ (I s.nx)).setCell ⟨g,k*4+3,none⟩ (I s.ot)) R v0 v2 v3 (M.set k s)/\
  Bf B R w ((((w.setCell ⟨g,k*4,none⟩ (.bool s.fk)).setCell ⟨g,k*4+1,none⟩ (I s.cs)).setCell ⟨g,k*4+2,none⟩ (I s.nx)).setCell ⟨g,k*4+3,none⟩ (I s.ot)):=by
 have hlt:=Zey h;obtain⟨h0,sa,sc',h1,h2⟩:=h;rw[(ZdG h1).2.1]at hc;simp only[ZDJ,ZDG]at hc;obtain⟨rfl,-,rfl⟩:=hc;have hne:g≠R:=Zbf h2 rfl h1 (by decide);have hgB:=(h2.lt g rfl).1;have ks:∀(u:World) (i:Nat) (v:Value),Kp (λj=>j=g) u (u.setCell ⟨g,i,none⟩ v):=λu i v=>Zex (S:=λj=>j=g) _ _ _ rfl
 have kk:=(((ks w (k*4) (.bool s.fk)).trans (ks _ (k*4+1) (I s.cs)) (λ_ _ e=>e)).trans (ks _ (k*4+2) (I s.nx)) (λ_ _ e=>e)).trans (ks _ (k*4+3) (I s.ot)) (λ_ _ e=>e);have o1:=(h2.stored (k*4) (.bool s.fk)).1;have o2:=(o1.stored (k*4+1) (I s.cs)).1;have o3:=(o2.stored (k*4+2) (I s.nx)).1;have o4:=(o3.stored (k*4+3) (I s.ot)).1;refine⟨⟨h0,some ⟨g,0,none⟩,sc',?_,?_⟩,ZaB kk hlt.1 (λj hj=>by have hj':j=g:=hj;omega),⟨kk.os,kk.tape,kk.output,kk.size,λj hj hs=>kk.block j hj (λe=>hs (.inr (by have e':j=g:=e;subst e';exact Zff h2 rfl)))⟩⟩
 ·rw[List.length_set];exact(kk.block R hlt.2 (λe=>hne e.symm)).trans h1
 ·rw[List.length_set,Zqz M k s hk];exact o4
theorem ZuF{X:Rx}{B R m p:Nat}{v0 v2 v3:Value}{M M':List Sp}{w:World}{Q:(Nat->Nat->Bool)->Nat->Nat->Prop}(hM:M.length=m)(he:Ent X (M++[⟨true,0,m,m⟩]) Q m p M')(h:MA B w R v0 v2 v3 M'):∃sc g:Nat,w.cell? ⟨R,1,none⟩=some (.slice (some ⟨g,0,none⟩) M'.length sc)/\(m:Int)<(M'.length:Int)/\g<w.heap.size/\w.frozen? ⟨g,m*4,none⟩=false/\w.frozen? ⟨g,m*4+1,none⟩=false/\w.frozen? ⟨g,m*4+2,none⟩=false/\w.frozen? ⟨g,m*4+3,none⟩=false/\w.cell? ⟨g,m*4,none⟩=some (.bool true)/\w.cell? ⟨g,m*4+1,none⟩=some (I 0)/\w.cell? ⟨g,m*4+2,none⟩=some (I m)/\w.cell? ⟨g,m*4+3,none⟩=some (I m):=by
 obtain⟨⟨E,rfl⟩,-,-⟩:=he;have hat:=ZfZ h;obtain⟨h0,sa,sc,h1,h2⟩:=h;have hl:m<(M++[⟨true,0,m,m⟩]++E:List Sp).length:=by simp;omega
 rcases h2.2 with ⟨-,hz⟩|⟨g,cap,cur,hv,hg⟩
 ·omega
 ·have hv':=hv;simp only[ZDG]at hv';obtain⟨rfl,-,-⟩:=hv';refine⟨sc,g,(ZdG h1).2.1,by omega,(h2.lt g rfl).2,h2.frozenAt _,h2.frozenAt _,h2.frozenAt _,h2.frozenAt _,?_⟩;obtain⟨sa',sc',-,e1,-,-,ha⟩:=hat;rw[(ZdG h1).2.1]at e1;obtain⟨g',rfl,-,a0,a1,a2,a3⟩:=ha m ⟨true,0,m,m⟩ (by rw[List.getElem?_append_left (by simp;omega),<-hM];simp);simp only[ZDJ,ZDG,Addr.mk.injEq]at e1;obtain⟨⟨rfl,-⟩,-⟩:=e1;exact⟨a0,a1,a2,a3⟩
theorem ZBy(X:Rx)(len:Nat)(hX:X.len=len)(hlen:len<=120)(b off cap B n0 f0:Nat)(hn0:n0<len)(hf:trX X n0=some f0)(CE:∀n f,n<=n0->trX X n=some f->EnC X len b off cap B n)
  (R:Nat) (v2 v3:Value) (M:List Sp) (m next:Nat) (w:World) (hr:Zch w b off X B) (hb:b<B) (h:MA B w R (.slice (some ⟨b,off,none⟩) len cap) v2 v3 M) (hM:M.length=m) (h0:M≠[]) (hx:next<m) (hz:m+tsX X n0+1<=300000):
  Calls prog 264 #[.pointer (some ⟨R,0,none⟩),I n0,I next] w (LoA X B R (.slice (some ⟨b,off,none⟩) len cap) v2 v3 M n0 next w):=by
 have HC:=J CE;have HR:=J hr;have HM:=J h;have HL0:=J (Zw0 hf);have hB:=(Zey h).1;have HMM:=J hM;have HXL:=J hX;have HN:=J h0;clear CE hr h hf hM hX h0;go_enter func264,ntmps264
 go_wp2
 go_loopw [1] (λv wr=>∃n:Nat,v=I n/\Hid (LfR X n0 n)/\Hid (ZL w wr)) (λv _=>(Zi v).toNat)
 case atStart=>exact⟨n0,rfl,HL0,J (Ze _ _)⟩
 case round=>
  obtain⟨n,rfl,HL,HB⟩:=hrel;have hn:n<=n0:=HL.out.1;obtain⟨ad,cp,hc,-⟩:=(ZaN HR.out hb (HB.out.mono hB)) n (by rw[HXL.out];omega);obtain⟨c0,c1,c2,c3,c4,c5,c6⟩:=hc;have HMr:=J (Zg4 HM.out HB.out);obtain⟨sa,sc,d0,d1,d2,d3,-⟩:=ZfZ HMr.out;have hi:(n:Int)<(len:Int):=by omega
  have hi0:(0:Int)<=(n:Int):=by omega
  have CL:=J (ZBn (X.K n) (X.NT n) ad (X.NR n) cp (X.A n) (X.B n) (X.MN n) (X.MX n) wr);cases hlf:lfB (X.K n) (X.MN n) (X.MX n)
  ·rw[hlf]at CL;clear hlf;go_wp2_with (go_at_call 287;refine ZM CL.out ?_;rintro w2 hb2;have HB2:=J (HB.out.trans (hb2.mono HB.out.size));have HM2:=J (Zg4 HMr.out hb2);clear hb2)
   refine ZM (ZkU B R _ v2 v3 M m w2 HMM.out (by omega) HM2.out) ?_;rintro w3 ⟨hm3,hb3⟩;have HM3:=J hm3;have HB3:=J (Zbe (ZCH (R:=R) hB HB2.out) hb3);clear hm3 hb3;have hl3:(M++[(⟨true,0,m,m⟩:Sp)]).length=m+1:=by rw[ZDz,HMM.out];rfl
   have CE2:=J (HC.out n _ hn (Classical.choose_spec HL.out.2.1) R v2 v3 (M++[⟨true,0,m,m⟩]) m w3 (ZaN HR.out hb HB3.out.1) hb HM3.out (by simp) (by omega) (by have:=HL.out.2.2.1;omega));clear hl3;go_wp2_with (go_at_call 190;refine CE2.out.mono ?_;rintro e w4 ⟨p,M4,rfl,he4,hl4,hm4,hb4⟩;have HE4:=J he4;have HL4:=J hl4;have HM4:=J hm4;have HB4:=J (Zbe HB3.out hb4);obtain⟨k1,k2,k3,k4,k5,k6,k7,k8,k9,a0,a1,a2,a3⟩:=ZuF HMM.out he4 hm4;clear he4 hl4 hm4 hb4)
   go_ret;have hm4:m<M4.length:=by omega
   obtain⟨hm9,hb9⟩:=ZAT HM4.out k3 ⟨true,0,p,next⟩ hm4;have hE:=ZuZ HN.out (by rw[HMM.out];exact hx) (by rw[HMM.out];exact HE4.out);rw[HMM.out]at hE;refine⟨M4.set m ⟨true,0,p,next⟩,by rw[HMM.out];rfl,?_,?_,hm9,Zbe HB4.out hb9⟩
   ·rw[HMM.out];exact Zbw hE (λc i j=>HL.out.2.2.2 c i j)
   ·rw[List.length_set,HMM.out];have h9:=HL4.out;rw[ZDz,HMM.out]at h9;have:=HL.out.2.2.1;simp at h9;omega
  ·obtain⟨hA,ha,hL⟩:=ZyW HL.out hlf;rw[hlf]at CL;rw[hA]at c3 CL;have HL2:=J hL;clear hlf hL hA;go_wp2_with (go_at_call 287;refine ZM CL.out ?_;rintro w2 hb2;have HB2:=J (HB.out.trans (hb2.mono HB.out.size));have HM2:=J (Zg4 HMr.out hb2);have e3:w2.cell? ⟨b,off+n*7+3,none⟩=some (I ((n-1:Nat):Int)):=(hb2.cell (p:=⟨b,off+n*7+3,none⟩) (ZDy hb (ZDA hB HB.out.size))).trans c3;obtain⟨sa,sc,q0,q1,q2,q3,-⟩:=ZfZ HM2.out;clear hb2)
   go_roundw
   case rel=>exact⟨n-1,rfl,HL2,HB2⟩
   case measure=>simp[Zi];omega
def Q1(mx:Int)(t:Nat)(R:Nat->Nat->Prop)(i j:Nat):Prop:=(mx = -1/\stR R i j)\/(mx≠-1/\∃k,k<=t/\cnR R k i j)
theorem ZwU{mx:Int}(h:mx≠-1){R:Nat->Nat->Prop}(i j:Nat):i=j↔Q1 mx 0 R i j:=by
 constructor
 ·intro e;exact .inr ⟨h,0,Zb _,e⟩
 ·rintro (⟨e,-⟩|⟨-,k,hk,hc⟩)
  ·exact absurd e h
  ·have:k=0:=by omega
   subst this;exact hc
theorem Zyi{mx:Int}(h:mx≠-1){R:Nat->Nat->Prop}(t i j:Nat):((∃m,R i m/\Q1 mx t R m j)\/i=j)↔Q1 mx (t+1) R i j:=by
 constructor
 ·rintro (⟨m,h1,⟨e,-⟩|⟨-,k,hk,hc⟩⟩|e)
  ·exact absurd e h
  ·exact .inr ⟨h,k+1,by omega,m,h1,hc⟩
  ·exact .inr ⟨h,0,by omega,e⟩
 ·rintro (⟨e,-⟩|⟨-,k,hk,hc⟩)
  ·exact absurd e h
  ·cases k with
   |zero=>exact .inr hc
   |succ k=>
    obtain⟨m,h1,h2⟩:=hc;exact .inl ⟨m,h1,.inr ⟨h,k,by omega,h2⟩⟩
theorem ZAP{mx:Int}{q D:Nat}(hmx:mx = -1\/(q:Int)<=mx)(hD:D=(mx-q).toNat){R:Nat->Nat->Prop}(i j:Nat):(∃m,cnR R q i m/\Q1 mx D R m j)↔ctR q mx R i j:=by
 constructor
 ·rintro ⟨m,h1,⟨e,k,hk⟩|⟨e,k,hk,hc⟩⟩
  ·exact⟨q+k,by omega,.inl e,Znw _ _ _ _ _ h1 hk⟩
  ·exact⟨q+k,by omega,.inr (by omega),Znw _ _ _ _ _ h1 hc⟩
 ·rintro ⟨k,h1,h2,h3⟩;obtain⟨d,rfl⟩:∃d,k=q+d:=⟨k-q,by omega⟩;obtain⟨m,h4,h5⟩:=Zm6 _ _ _ _ h3;refine⟨m,h4,?_⟩;by_cases e:mx = -1
  ·exact .inl ⟨e,d,h5⟩
  ·exact .inr ⟨e,d,by omega,h5⟩
theorem ZsD{R Q:Nat->Nat->Prop}(u i j:Nat):(∃m,R i m/\∃m2,cnR R u m m2/\Q m2 j)↔∃m,cnR R (u+1) i m/\Q m j:=by
 constructor
 ·rintro ⟨m,h1,m2,h2,h3⟩;exact⟨m2,⟨m,h1,h2⟩,h3⟩
 ·rintro ⟨m2,⟨m,h1,h2⟩,h3⟩;exact⟨m,h1,m2,h2,h3⟩
theorem Zsd{R Q:Nat->Nat->Prop}(i j:Nat):Q i j↔∃m,cnR R 0 i m/\Q m j:=by
 constructor
 ·intro h;exact⟨i,rfl,h⟩
 ·rintro ⟨m,rfl,h⟩;exact h
def s0F(mx:Int)(T:Nat):Nat:=if mx = -1 then T+1 else 0
theorem ZB3{mx:Int}{q D T mu:Nat}(hmx:mx = -1\/(q:Int)<=mx)(hD:D=(mx-q).toNat)(h1:q+1<=mu)(h2:mx<=mu):s0F mx T+D*(T+1)+q*T<=mu*(T+1):=by
 unfold s0F;split
 ·rename_i e;have:D=0:=by omega
  subst this;have h3:(q+1)*(T+1)<=mu*(T+1):=Nat.mul_le_mul h1 (Zb _);have h4:(q+1)*(T+1)=q*T+q+(T+1):=by rw[Nat.succ_mul,Nat.mul_succ]
  omega
 ·have h3:(D+q)*(T+1)<=mu*(T+1):=Nat.mul_le_mul (by omega) (Zb _);have h4:(D+q)*(T+1)=D*(T+1)+(q*T+q):=by rw[Nat.add_mul,Nat.mul_succ q T]
  omega
theorem Zp9{t D T:Nat}(h:t<D):t*T+T<=D*T:=by
 have:=Nat.mul_le_mul (show t+1<=D by omega) (Zb T);rw[Nat.succ_mul]at this;exact this
theorem ZlM{M:List Sp}(h:0<M.length):M≠[]:=List.length_pos_iff.1 h
theorem Zvz{M M3:List Sp}{p q r:Nat}(h:EiP M p q r M3):M3.length<=M.length+1:=by
 rcases h with ⟨-,-,rfl⟩|⟨-,-,-,rfl⟩|⟨-,-,rfl⟩
 ·omega
 ·omega
 ·simp
theorem Zdz{X:Rx}{M M':List Sp}{Q:(Nat->Nat->Bool)->Nat->Nat->Prop}{next p:Nat}(h:Ent X M Q next p M'):M.length<=M'.length/\p<M'.length:=by
 obtain⟨⟨E,rfl⟩,h2,-⟩:=h;exact⟨by simp,h2⟩
theorem Zuv(X:Rx)(len:Nat)(hX:X.len=len)(hlen:len<=120)(b off cap B n i f q D mu:Nat)(mx:Int)(ad:Option Addr)(cp:Nat)(hn:n<len)(hk5:X.K n=5)(hA:X.A n=(i:Int))(hai:i<n)(hMN:X.MN n=(q:Int))(hMX:X.MX n=mx)(hq20:q<=20)(hm20:mx<=20)(hmx:mx = -1\/(q:Int)<=mx)(hD:D=(mx-q).toNat)(hmu:(muX X n).toNat=mu)
  (hf:trX X i=some f) (CE:∀n f,n<=i->trX X n=some f->EnC X len b off cap B n)
  (R:Nat) (v2 v3:Value) (M:List Sp) (m next:Nat) (w:World) (hr:Zch w b off X B) (hb:b<B) (h:MA B w R (.slice (some ⟨b,off,none⟩) len cap) v2 v3 M) (hM:M.length=m) (h0:M≠[]) (hx:next<m) (hz:m+tsX X n<=300000):
  Calls prog 227 #[.pointer (some ⟨R,0,none⟩),.agg #[I 5,.bool (X.NT n),.slice ad (X.NR n) cp,I (i:Int),I (X.B n),I (q:Int),I mx],I next] w (EnA X B R (.slice (some ⟨b,off,none⟩) len cap) v2 v3 M n next w):=by
 have hmu1:q+1<=mu/\mx<=mu:=by
  rw[<-hmu];unfold muX;rw[hMN,hMX];omega
 obtain⟨T,hT⟩:=ZX (tsX X i);have hZ:=ZB3 (T:=T) hmx hD hmu1.1 hmu1.2;have hts:=ZqL hk5 hA hai;rw[hmu,hT]at hts;rw[hts]at hz;obtain⟨Z,hZe⟩:=ZX (mu*(T+1));rw[hZe]at hZ hz hts;obtain⟨s0,hs0⟩:=ZX (s0F mx T);obtain⟨z1,hz1⟩:=ZX (D*(T+1));obtain⟨z2,hz2⟩:=ZX (q*T);rw[hs0,hz1,hz2]at hZ;have HZ1:=J (λt (h:t<D)=>by have:=Zp9 (T:=T+1) h;rw[hz1]at this;exact this);have HZ2:=J (λt (h:t<q)=>by have:=Zp9 (T:=T) h;rw[hz2]at this;exact this);have HTS:=J hts;have HT:=J hT;have HTK:=J (λc=>Zsb (c:=c) hk5 hA hai);rw[hMN,hMX]at HTK;have HQE:=J (λ(R:Nat->Nat->Prop) i j=>ZAP hmx hD (R:=R) i j);have HS0:=J hs0;have HZ1e:=J hz1;have HZ2e:=J hz2;have CEi:=J (CE i f (Zb _) hf);have CE0:=J CE;have HF:=J hf;have HR:=J hr;have HM:=J h;have hB:=(Zey h).1;have hRw:=(Zey h).2;have HMM:=J hM;have HN:=J h0;have HXL:=J hX;have HA:=J hA;have H5:=J hk5;have hil:i<len:=by omega
 have hDm:mx≠-1->(q:Int)+D=mx:=λe=>by omega
 have hD0:mx = -1->D=0:=λe=>by omega
 have HBX:=J (Zfs w 5 (X.NT n) ad (X.NR n) cp (i:Int) (X.B n) (q:Int) mx);have HBA:=J (ZdI (R:=R) hB (.cells #[I 5,.bool (X.NT n),.slice ad (X.NR n) cp,I (i:Int),I (X.B n),I (q:Int),I mx] 204));have HMA:=J (Zg4 h ((Ze w.heap.size w).alloc (Zb _) (.cells #[I 5,.bool (X.NT n),.slice ad (X.NR n) cp,I (i:Int),I (X.B n),I (q:Int),I mx] 204)));have hne:w.heap.size≠R:=by omega
 have HGE:=J hne;clear CE hr h hM h0 hX hA hk5 hMN hMX hf hmu hts hZe hs0 hz1 hz2 hT hne hD;by_cases hmx1:mx = -1
 ·have hd:=hD0 hmx1;subst hd;have HS1:Hid (s0=T+1):=J (by rw[<-HS0.out];unfold s0F;rw[Zd hmx1]);have HQ0:Hid (∀(R:Nat->Nat->Prop) i j,stR R i j↔Q1 mx 0 R i j):=J (λR i j=>⟨λh => .inl ⟨hmx1,h⟩,λh=>by
   rcases h with ⟨-,h⟩|⟨e,-⟩
   ·exact h
   ·exact absurd hmx1 e⟩)
  have CL:=J (ZBy X len HXL.out hlen b off cap B i f hil HF.out CE0.out R v2 v3 M m next _ (ZaN HR.out hb HBA.out.1) hb HMA.out HMM.out HN.out hx (by rw[HT.out];have:=HS1.out;omega));subst hmx1;clear hDm hD0;go_enter func227,ntmps227
  go_wp2_with (go_at_call 264;refine CL.out.mono ?_;rintro e w4 ⟨M4,rfl,he4,hl4,hm4,hb4⟩;have HE0:=J (Zbw he4 (λc i0 j=>HQ0.out _ i0 j));have HL0:Hid (M4.length<=m+s0+0*(T+1)):=J (by rw[HMM.out,HT.out]at hl4;have:=HS1.out;omega);have HM0:=J hm4;have HB0:=J (Zbe HBA.out hb4);have HX0:=J (ZdN hb4 HBX.out HGE.out);obtain⟨n0,n1,n2,n3,n4,n5,n6⟩:=Zav (Zfk HX0.out);clear he4 hl4 hm4 hb4)
  go_loopw [7,8] (λv7 v8 wr=>∃(t p:Nat) (M1:List Sp),t<=0/\v7=I p/\v8=I ((q:Int)+t)/\Hid (Ent X M (λc=>Q1 (-1) t (tkX X c i)) next p M1)/\Hid (M1.length<=m+s0+t*(T+1))/\Hid (MA B wr R (.slice (some ⟨b,off,none⟩) len cap) v2 v3 M1)/\Hid (Bf B R w wr)/\Hid (BXm wr w.heap.size 5 (X.NT n) ad (X.NR n) cp (i:Int) (X.B n) (q:Int) (-1))) (λ_ v8 _=>(q+0)-(Zi v8).toNat)
  case atStart=>exact⟨0,M.length,M4,Zx _,rfl,by simp,HE0,HL0,HM0,HB0,HX0⟩
  case round=>
   obtain⟨t,p,M1,htD,rfl,rfl,HE,HL,HMr,HB,HX⟩:=hrel;obtain⟨n0,n1,n2,n3,n4,n5,n6⟩:=Zav (Zfk HX.out);have hlen1:=Zdz HE.out;rw[HMM.out]at hlen1;by_cases hlt:t<0
   ·omega
   ·have htD2:t=0:=(by omega);subst htD2;have hcmp:¬((q:Int)+(0:Nat) < -1):=(by omega);have HL1:Hid (M1.length<=m+s0+z1):=J (by have:=HL.out;rw[HZ1e.out]at this;exact this);clear HL hlen1 hlt htD;go_wp2
    go_loopw [7,36] (λv7 v36 wr=>∃(u p:Nat) (M1:List Sp),u<=q/\v7=I p/\v36=I u/\Hid (Ent X M (λc i0 j=>∃m,cnR (tkX X c i) u i0 m/\Q1 (-1) 0 (tkX X c i) m j) next p M1)/\Hid (M1.length<=m+s0+z1+u*T)/\Hid (MA B wr R (.slice (some ⟨b,off,none⟩) len cap) v2 v3 M1)/\Hid (Bf B R w wr)/\Hid (BXm wr w.heap.size 5 (X.NT n) ad (X.NR n) cp (i:Int) (X.B n) (q:Int) (-1))) (λ_ v _=>q-(Zi v).toNat)
    case atStart=>exact⟨0,p,M1,Zx _,rfl,rfl,J (Zbw HE.out (λc i0 j=>Zsd i0 j)),J (by have:=HL1.out;omega),HMr,HB,HX⟩
    case round=>
     obtain⟨u,p,M1,huq,rfl,rfl,HE,HL,HMr,HB,HX⟩:=hrel;obtain⟨n0,n1,n2,n3,n4,n5,n6⟩:=Zav (Zfk HX.out);have hlen1:=Zdz HE.out;rw[HMM.out]at hlen1;by_cases hlt:u<q
     ·have hs2:=HZ2.out u hlt;have hL:=HL.out;have CC:=J (CEi.out R v2 v3 M1 p wr (ZaN HR.out hb HB.out.1) hb HMr.out (ZlM (by omega)) hlen1.2 (by rw[HT.out];omega));clear hL hs2;go_wp2_with (go_at_call 190;refine CC.out.mono ?_;rintro e w4 ⟨p4,M4,rfl,he4,hl4,hm4,hb4⟩;have HE4:=J he4;have HL4:=J hl4;have HM4:=J hm4;have HB4:=J (Zbe HB.out hb4);have HX4:=J (ZdN hb4 HX.out HGE.out);clear he4 hl4 hm4 hb4)
      go_roundw
      case rel=>exact⟨u+1,p4,M4,by omega,rfl,by go_num,J (Zbw (Zhn HE.out HE4.out) (λc i0 j=>ZsD u i0 j)),J (by have h1:=HL4.out;have h2:=HL.out;rw[HT.out]at h1;rw[Nat.succ_mul];omega),HM4,HB4,HX4⟩
      case measure=>simp[Zi];omega
     ·have hu:u=q:=(by omega);subst hu;go_wp2;go_ret;refine⟨p,M1,rfl,Zbw HE.out (λc i0 j=>by rw[HTK.out c];exact HQE.out _ i0 j),?_,HMr.out,HB.out⟩;have h1:=HL.out;rw[HZ2e.out]at h1;rw[HTS.out,HMM.out];omega
 ·have HS1:Hid (s0=0):=J (by rw[<-HS0.out];unfold s0F;rw[Za hmx1]);have hmxb:(mx == -1)=false:=by rw[ZDU];exact hmx1
  have HE0:Hid (Ent X M (λc=>Q1 mx 0 (tkX X c i)) next next M):=J (Zbw (ZjJ (by rw[HMM.out];exact hx)) (λc i0 j=>ZwU hmx1 i0 j));have HL0:Hid (M.length<=m+s0+0*(T+1)):=J (by rw[HMM.out];omega);go_enter func227,ntmps227
  go_wp2;have HM0:=HMA;have HB0:=HBA;have HX0:=HBX
  go_loopw [7,8] (λv7 v8 wr=>∃(t p:Nat) (M1:List Sp),t<=D/\v7=I p/\v8=I ((q:Int)+t)/\Hid (Ent X M (λc=>Q1 mx t (tkX X c i)) next p M1)/\Hid (M1.length<=m+s0+t*(T+1))/\Hid (MA B wr R (.slice (some ⟨b,off,none⟩) len cap) v2 v3 M1)/\Hid (Bf B R w wr)/\Hid (BXm wr w.heap.size 5 (X.NT n) ad (X.NR n) cp (i:Int) (X.B n) (q:Int) mx)) (λ_ v8 _=>(q+D)-(Zi v8).toNat)
  case atStart=>exact⟨0,next,M,Zx _,rfl,by simp,HE0,HL0,HM0,HB0,HX0⟩
  case round=>
   obtain⟨t,p,M1,htD,rfl,rfl,HE,HL,HMr,HB,HX⟩:=hrel;obtain⟨n0,n1,n2,n3,n4,n5,n6⟩:=Zav (Zfk HX.out);have hlen1:=Zdz HE.out;rw[HMM.out]at hlen1;by_cases hlt:t<D
   ·have hcmp:(q:Int)+t<mx:=(by have:=hDm hmx1;omega);have hs1:=HZ1.out t hlt;have hL:=HL.out;have CC:=J (CEi.out R v2 v3 M1 p wr (ZaN HR.out hb HB.out.1) hb HMr.out (ZlM (by omega)) hlen1.2 (by rw[HT.out];omega));have HLa:=J hL;clear hL;go_wp2_with fail
    refine CC.out.mono ?_;rintro e w4 ⟨p4,M4,rfl,he4,hl4,hm4,hb4⟩;rw[HT.out]at hl4;have hlen4:=Zdz he4;have HE4:=J he4;have HL4:=J hl4;have HM4:=J hm4;have HB4:=J (Zbe HB.out hb4);have HX4:=J (ZdN hb4 HX.out HGE.out);have CI:=J (ZnF B R (.slice (some ⟨b,off,none⟩) len cap) v2 v3 M4 p4 next M4.length w4 rfl (by have:=HLa.out;omega) hlen4.2 (by omega) hm4);have hx4:next<M4.length:=(by omega)
    clear he4 hl4 hm4 hb4 hlen4;go_wp2_with (go_at_call 226;refine CI.out.mono ?_;rintro e w5 ⟨p5,M5,rfl,he5,hm5,hb5⟩;have HE5:=J he5;have HM5:=J hm5;have HB5:=J (Zbe HB4.out hb5);have HX5:=J (ZdN hb5 HX4.out HGE.out);clear he5 hm5 hb5)
    go_roundw
    case rel=>
     refine⟨t+1,p5,M5,by omega,rfl,by go_num,J ?_,J ?_,HM5,HB5,HX5⟩
     ·exact Zbw (Zjb HN.out (Zhn HE.out HE4.out) (ZjJ hx4) HE5.out) (λc i0 j=>Zyi hmx1 t i0 j)
     ·have h1:=Zvz HE5.out;have h2:=HL4.out;have h3:=HLa.out;rw[Nat.succ_mul];omega
    case measure=>simp[Zi];omega
   ·have htD2:t=D:=(by omega);subst htD2;have hcmp:¬((q:Int)+t<mx):=(by have:=hDm hmx1;omega);have HL1:Hid (M1.length<=m+s0+z1):=J (by have:=HL.out;rw[HZ1e.out]at this;exact this);clear HL hlen1 hlt htD;go_wp2
    go_loopw [7,36] (λv7 v36 wr=>∃(u p:Nat) (M1:List Sp),u<=q/\v7=I p/\v36=I u/\Hid (Ent X M (λc i0 j=>∃m,cnR (tkX X c i) u i0 m/\Q1 mx t (tkX X c i) m j) next p M1)/\Hid (M1.length<=m+s0+z1+u*T)/\Hid (MA B wr R (.slice (some ⟨b,off,none⟩) len cap) v2 v3 M1)/\Hid (Bf B R w wr)/\Hid (BXm wr w.heap.size 5 (X.NT n) ad (X.NR n) cp (i:Int) (X.B n) (q:Int) mx)) (λ_ v _=>q-(Zi v).toNat)
    case atStart=>exact⟨0,p,M1,Zx _,rfl,rfl,J (Zbw HE.out (λc i0 j=>Zsd i0 j)),J (by have:=HL1.out;omega),HMr,HB,HX⟩
    case round=>
     obtain⟨u,p,M1,huq,rfl,rfl,HE,HL,HMr,HB,HX⟩:=hrel;obtain⟨n0,n1,n2,n3,n4,n5,n6⟩:=Zav (Zfk HX.out);have hlen1:=Zdz HE.out;rw[HMM.out]at hlen1;by_cases hlt:u<q
     ·have hs2:=HZ2.out u hlt;have hL:=HL.out;have CC:=J (CEi.out R v2 v3 M1 p wr (ZaN HR.out hb HB.out.1) hb HMr.out (ZlM (by omega)) hlen1.2 (by rw[HT.out];omega));clear hL hs2;go_wp2_with (go_at_call 190;refine CC.out.mono ?_;rintro e w4 ⟨p4,M4,rfl,he4,hl4,hm4,hb4⟩;have HE4:=J he4;have HL4:=J hl4;have HM4:=J hm4;have HB4:=J (Zbe HB.out hb4);have HX4:=J (ZdN hb4 HX.out HGE.out);clear he4 hl4 hm4 hb4)
      go_roundw
      case rel=>exact⟨u+1,p4,M4,by omega,rfl,by go_num,J (Zbw (Zhn HE.out HE4.out) (λc i0 j=>ZsD u i0 j)),J (by have h1:=HL4.out;have h2:=HL.out;rw[HT.out]at h1;rw[Nat.succ_mul];omega),HM4,HB4,HX4⟩
      case measure=>simp[Zi];omega
     ·have hu:u=q:=(by omega);subst hu;go_wp2;go_ret;refine⟨p,M1,rfl,Zbw HE.out (λc i0 j=>by rw[HTK.out c];exact HQE.out _ i0 j),?_,HMr.out,HB.out⟩;have h1:=HL.out;rw[HZ2e.out]at h1;rw[HTS.out,HMM.out];omega
def StA(m:Nat)(R:Nat->Nat->Prop)(f:List Bool)(w:World)(e:Ending)(w':World):Prop:=∃g c G,e=.returned (.slice (some ⟨g,0,none⟩) ((m:Nat)+1) c)/\BoX w.heap.size w' g c (m+1) G/\Fwd f G m R/\ZL w w'
def StC(X:Rx)(C:List Int)(len m b off cap:Nat)(sa:Option Addr)(sc n:Nat):Prop:=∀(f:List Bool) (fa:Option Addr) (fc:Nat) (w:World),b<w.heap.size->Zch w b off X w.heap.size->ZcZ .i64 w sa C w.heap.size->f.length=m+1->Zkt w fa f w.heap.size->
 Calls prog 136 #[.slice (some ⟨b,off,none⟩) len cap,I n,.slice sa m sc,.slice fa ((m:Nat)+1) fc] w (StA m (tkX X (clX X C) n) f w)
theorem ZBf{B:Nat}{w:World}(hB:B<=w.heap.size):(w.alloc (.cells #[] 4)).ownsRow B 4 1 (.slice (some ⟨w.heap.size,0,none⟩) 0 0) 0 []:=World.ownsRow_made (base:=B) (e:=4) (size:=1) w #[] 0 hB (Zx _) rfl
theorem Zft{w w':World}{a:Option Addr}{xs:List Int}(h:ZcZ .i64 w a xs w.heap.size)(k:ZL w w'):ZcZ .i64 w' a xs w'.heap.size:=λh0=>by
 obtain⟨b,off,e,hb,hc⟩:=h h0;exact⟨b,off,e,ZDy hb k.size,λj hj=>(k.cell (p:=⟨b,off+j,none⟩) hb).trans (hc j hj)⟩
theorem Zg5{w w':World}{G:Nat}{kd:Int}{nt:Bool}{a:Option Addr}{n c:Nat}{A B mn mx:Int}(h:BXm w G kd nt a n c A B mn mx)(k:ZL w w'):BXm w' G kd nt a n c A B mn mx:=(k.block G (Array.getElem?_eq_some_iff.1 h).1).trans h
theorem Zgr{w:World}{G:Nat}{kd:Int}{nt:Bool}{a:Option Addr}{n c:Nat}{A B mn mx:Int}(h:BXm w G kd nt a n c A B mn mx){p:Addr}(hp:p.block≠G)(v:Value):BXm (w.setCell p v) G kd nt a n c A B mn mx:=(Zc9 w p v G hp).trans h
theorem ZAq{w:World}{G:Nat}{kd:Int}{nt:Bool}{a:Option Addr}{n c:Nat}{A B mn mx:Int}(h:BXm w G kd nt a n c A B mn mx):G<w.heap.size:=(Array.getElem?_eq_some_iff.1 h).1
theorem Zjj{ops:Array Oper}{rest:List Oper}{o:Oper}{a:Act}{Q:Exit->Act->World->Prop}(w:World)(hg:o.guard=none)(x y:Operand)(hop:o.op=Op.call { callee:=Callee.builtin Builtin.append,args:=#[x,y],argTypes:=#[158,158] })(m:Nat)(hm:m<=300)(W0:World)(hW:w=W0.alloc (.cells #[] 4))(hx:a.eval x=.slice (some ⟨W0.heap.size,0,none⟩) 0 0)(f:List Bool)(hf:f.length=m+1)(fa:Option Addr)(fc:Nat)(hy:a.eval y=.slice fa ((m:Nat)+1) fc)(hfa:Zkt W0 fa f W0.heap.size)
  (hK:∀g c w9,BoX W0.heap.size w9 g c (m+1) f->ZL W0 w9->wpList prog ops Q rest (a.put o.dst (.slice (some ⟨g,0,none⟩) ((m:Nat)+1) c)) w9):wpList prog ops Q (o::rest) a w:=by
 subst hW;obtain⟨fb,fo,rfl,hfb,hfc⟩:=hfa;obtain⟨i0,hi0,hz0,hz1,hz2⟩:=info_parts ZhL;refine Zd8 hg x y 158 hop W0.heap.size 4 i0 (.bool false) 1 1 underlying158 hi0 hz0 hz1 hz2 rfl (by decide) (.slice (some ⟨W0.heap.size,0,none⟩) 0 0) 0 [] hx (ZBf (Zb _)) (some ⟨fb,fo,none⟩) (m+1) fc (f.map Value.bool) hy (by rw[ZDD,Nat.mul_one,hf]) (λ_=>⟨_,rfl,ZBP (λj hj=>(((Ze W0.heap.size W0).alloc (Zb _) _).cell (p:=⟨fb,fo+j,none⟩) hfb).trans (hfc j hj))⟩) (ZrQ _) (by unfold maxLen;omega) (by omega) (by simp) ?_;intro a9 c9 w9 hown9 hgr9;rw[ZDE,List.nil_append]at hown9;obtain⟨g9,rfl,hx9⟩:=ZBw hf (by omega) hown9;rw[ZDE];exact hK g9 c9 w9 hx9 (((Ze W0.heap.size W0).alloc (Zb _) _).grown hgr9 (by simp) (λk hk=>by have h9:W0.heap.size=k:=(by simpa[Value.ownBlock] using hk);omega))
theorem Zw8(X:Rx)(C:List Int)(len m:Nat)(hX:X.len=len)(hlen:len<=120)(hC:C.length=m)(hm:m<=300)(b off cap:Nat)(sa:Option Addr)(sc n:Nat)(hn:n<len)(f:List Bool)(fa:Option Addr)(fc:Nat)(w:World)(hb:b<w.heap.size)(hr:Zch w b off X w.heap.size)(hsr:ZcZ .i64 w sa C w.heap.size)(hf:f.length=m+1)(hfa:Zkt w fa f w.heap.size)(hk:X.K n=1):
  Calls prog 136 #[.slice (some ⟨b,off,none⟩) len cap,I n,.slice sa m sc,.slice fa ((m:Nat)+1) fc] w (StA m (tkX X (clX X C) n) f w):=by
 obtain⟨i0,hi0,hz0,hz1,hz2⟩:=info_parts ZhL;have HR:=J hr;have HSR:=J hsr;have HF:=J hf;have HFA:=J hfa;have HCL:=J hC;obtain⟨ad,cp,hc,hrg⟩:=hr n (by rw[hX];exact hn);obtain⟨c0,c1,c2,c3,c4,c5,c6⟩:=hc;have HRg:=J hrg;have hin:(n:Int)<(len:Int):=by omega
 have hin0:(0:Int)<=(n:Int):=by omega
 rw[hk]at c0;have HT:Hid (tkX X (clX X C) n=λi j=>i=j):=J (ZnB hk);clear hr hsr hf hfa hC hrg hk;go_enter func136,ntmps136
 go_upto_region 5 with (first|(at_make;refine wpList_make_full _ rfl _ _ 158 rfl w.heap.size 4 i0 (.bool false) 1 underlying158 hi0 hz0 hz1 .i64 .i64 _ _ (m+1) rfl rfl (by go_num) (by go_num) (by rw[hz2];omega) (by unfold maxLen;omega) (Zb _) ?_;intro w1 hown hgrow;rw[ZgC]at hown;have HX1:Hid (BoX w.heap.size w1 w.heap.size (m+1) (m+1) (List.replicate (m+1) false)):=J ⟨by rw[List.length_replicate],hown⟩;have HB1:Hid (ZL w w1):=J ((Ze _ _).grown hgrow (Zb _) (λk h=>by cases h));clear hown hgrow;have c0:=(HB1.out.cell (p:=⟨b,off+n*7,none⟩) hb).trans c0;have c1:=(HB1.out.cell (p:=⟨b,off+n*7+1,none⟩) hb).trans c1;have c2:=(HB1.out.cell (p:=⟨b,off+n*7+2,none⟩) hb).trans c2;have c3:=(HB1.out.cell (p:=⟨b,off+n*7+3,none⟩) hb).trans c3;have c4:=(HB1.out.cell (p:=⟨b,off+n*7+4,none⟩) hb).trans c4;have c5:=(HB1.out.cell (p:=⟨b,off+n*7+5,none⟩) hb).trans c5;have c6:=(HB1.out.cell (p:=⟨b,off+n*7+6,none⟩) hb).trans c6;have hb1l:b<w1.heap.size:=ZDy hb HB1.out.size))
 obtain⟨wy,hwy⟩:=ZX (w1.alloc (.cells #[I 1,.bool (X.NT n),.slice ad (X.NR n) cp,I (X.A n),I (X.B n),I (X.MN n),I (X.MX n)] 204));have HB2:=J (HB1.out.alloc HB1.out.size (.cells #[I 1,.bool (X.NT n),.slice ad (X.NR n) cp,I (X.A n),I (X.B n),I (X.MN n),I (X.MX n)] 204));rw[hwy]at HB2 ⊢;clear hwy c0 c1 c2 c3 c4 c5 c6 HX1 HB1 hb1l;go_wp2_with (at_builtin;refine Zjj _ (by rfl) _ _ (by rfl) m hm wy rfl (by rfl) f HF.out fa fc (by rfl) (Zp5 (Zpd HFA.out HB2.out) HB2.out.size) ?_;intro g9 c9 w9 hx9 hb9;have HX9:=J hx9;have HB9:=J (HB2.out.trans (hb9.mono HB2.out.size));clear hx9 hb9)
 go_ret;exact⟨g9,c9,f,rfl,ZdM HX9.out HB2.out.size,by rw[HT.out];exact Zv4 f m,HB9.out⟩
theorem ZyV(X:Rx)(C:List Int)(len m:Nat)(hX:X.len=len)(hlen:len<=120)(hC:C.length=m)(hm:m<=300)(b off cap:Nat)(sa:Option Addr)(sc n:Nat)(hn:n<len)(f:List Bool)(fa:Option Addr)(fc:Nat)(w:World)(hb:b<w.heap.size)(hr:Zch w b off X w.heap.size)(hsr:ZcZ .i64 w sa C w.heap.size)(hf:f.length=m+1)(hfa:Zkt w fa f w.heap.size)(hk:X.K n=2)(hno:ZdO X n=true)(hnr:X.NR n<=maxLen):
  Calls prog 136 #[.slice (some ⟨b,off,none⟩) len cap,I n,.slice sa m sc,.slice fa ((m:Nat)+1) fc] w (StA m (tkX X (clX X C) n) f w):=by
 obtain⟨i0,hi0,hz0,hz1,hz2⟩:=info_parts ZhL;have HR:=J hr;have HSR:=J hsr;have HF:=J hf;have HFA:=J hfa;have HCL:=J hC;obtain⟨ad,cp,hc,hrg⟩:=hr n (by rw[hX];exact hn);obtain⟨c0,c1,c2,c3,c4,c5,c6⟩:=hc;have HRg:=J hrg;have hin:(n:Int)<(len:Int):=by omega
 have hin0:(0:Int)<=(n:Int):=by omega
 have HCV:Hid (∀r,Zvm 2 (X.NT n) (X.NR n) (X.L n) (X.H n) (X.A n) (X.B n) (X.MN n) (X.MX n) r=inC (X.NT n) (X.NR n) (X.L n) (X.H n) r):=J (λr=>by
  unfold ZdO at hno;rw[hk]at hno;unfold Zvm inC;rw[Zd rfl,hno,Bool.true_and])
 rw[hk]at c0;have HT:Hid (tkX X (clX X C) n=λi j=>j=i+1/\clX X C n i=true):=J (Zoq hk);clear hr hsr hf hfa hC hrg hk hno;go_enter func136,ntmps136
 go_wp2_with (at_make;refine wpList_make_full _ rfl _ _ 158 rfl w.heap.size 4 i0 (.bool false) 1 underlying158 hi0 hz0 hz1 .i64 .i64 _ _ (m+1) rfl rfl (by go_num) (by go_num) (by rw[hz2];omega) (by unfold maxLen;omega) (Zb _) ?_;intro w1 hown hgrow;rw[ZgC]at hown;have HX1:Hid (BoX w.heap.size w1 w.heap.size (m+1) (m+1) (List.replicate (m+1) false)):=J ⟨by rw[List.length_replicate],hown⟩;have HB1:Hid (ZL w w1):=J ((Ze _ _).grown hgrow (Zb _) (λk h=>by cases h));clear hown hgrow;have c0:=(HB1.out.cell (p:=⟨b,off+n*7,none⟩) hb).trans c0;have c1:=(HB1.out.cell (p:=⟨b,off+n*7+1,none⟩) hb).trans c1;have c2:=(HB1.out.cell (p:=⟨b,off+n*7+2,none⟩) hb).trans c2;have c3:=(HB1.out.cell (p:=⟨b,off+n*7+3,none⟩) hb).trans c3;have c4:=(HB1.out.cell (p:=⟨b,off+n*7+4,none⟩) hb).trans c4;have c5:=(HB1.out.cell (p:=⟨b,off+n*7+5,none⟩) hb).trans c5;have c6:=(HB1.out.cell (p:=⟨b,off+n*7+6,none⟩) hb).trans c6;have hb1l:b<w1.heap.size:=ZDy hb HB1.out.size)
 obtain⟨wy,hwy⟩:=ZX (w1.alloc (.cells #[I 2,.bool (X.NT n),.slice ad (X.NR n) cp,I (X.A n),I (X.B n),I (X.MN n),I (X.MX n)] 204));have HX2:=J (Zih HX1.out (.cells #[I 2,.bool (X.NT n),.slice ad (X.NR n) cp,I (X.A n),I (X.B n),I (X.MN n),I (X.MX n)] 204));have HN2:=J (Zfs w1 2 (X.NT n) ad (X.NR n) cp (X.A n) (X.B n) (X.MN n) (X.MX n));have HB2:=J (HB1.out.alloc HB1.out.size (.cells #[I 2,.bool (X.NT n),.slice ad (X.NR n) cp,I (X.A n),I (X.B n),I (X.MN n),I (X.MX n)] 204));rw[hwy]at HX2 HN2 HB2 ⊢;obtain⟨NB,hNB⟩:=ZX w1.heap.size;have hNBg:w.heap.size<NB:=by rw[<-hNB];exact(Zbq HX1.out).2.1
 rw[hNB]at HN2 ⊢;clear hwy hNB c0 c1 c2 c3 c4 c5 c6 HX1 HB1 hb1l
 go_loopw [11] (λmv wr=>∃(i:Nat) (G:List Bool),i<=m/\mv=I i/\Hid (BoX w.heap.size wr w.heap.size (m+1) (m+1) G)/\Hid (BXm wr NB 2 (X.NT n) ad (X.NR n) cp (X.A n) (X.B n) (X.MN n) (X.MX n))/\Hid (ZL w wr)/\Hid (∀b,b<=m->(G[b]?.getD false=true↔∃a,a<i/\b=a+1/\f[a]?.getD false=true/\clX X C n a=true))) (λmv _=>m-(Zi mv).toNat)
 case atStart=>exact⟨0,List.replicate (m+1) false,Zx _,rfl,HX2,HN2,HB2,J (λb hb=>(by rw[Zvg];exact⟨λe=>(by cases e),λe=>(by obtain⟨a,ha,-⟩:=e;omega)⟩))⟩
 case round=>
  clear HX2 HN2 HB2;obtain⟨i,G,hi,rfl,HX,HN,HB,HA⟩:=hrel;by_cases hlt:i<m
  ·obtain⟨fb,fo,rfl,hfb,hfc⟩:=Zpd HFA.out HB.out;obtain⟨sb,so,rfl,hsb,hsc⟩:=HSR.out (by intro e;have:=HCL.out;rw[e]at this;simp at this;omega);have u0:=hfc i (by rw[HF.out];omega);obtain⟨ch,hch⟩:=ZX (C[i]?.getD 0);have v0:wr.cell? ⟨sb,so+i,none⟩=some (I ch):=(HB.out.cell (p:=⟨sb,so+i,none⟩) hsb).trans (by rw[hsc i (by rw[HCL.out];exact hlt),hch]);have HCH:Hid (clX X C n i=inC (X.NT n) (X.NR n) (X.L n) (X.H n) ch):=J (by rw[ZvQ (by rw[HCL.out];exact hlt),hch]);obtain⟨a0,a1,a2,a3,a4,a5,a6⟩:=Zav (Zfk HN.out);have hii:(i:Int)<(m:Int):=by omega
   have hii1:(i:Int)<((m:Nat)+1:Int):=by omega
   have hii2:(i:Int)+1<((m:Nat)+1:Int):=by omega
   have hii0:(0:Int)<=(i:Int):=by omega
   have hfw:=HB.out.size;have hNBw:=ZAq HN.out;have hst:Hid (BoX w.heap.size (wr.setCell ⟨w.heap.size,i+1,none⟩ (.bool true)) w.heap.size (m+1) (m+1) (G.set (i+1) true)):=J (ZfA HX.out (i+1) true);clear hfc hsc hch;cases hfi:f[i]?.getD false
   ·rw[hfi]at u0;have HFI:Hid (f[i]?.getD false=false):=J hfi;clear hfi;go_wp2;go_big_quiet (fail)
    go_wp2
    go_roundw
    case rel=>
     refine⟨i+1,G,by omega,by go_num,J (Zf5 HX.out (Za8 _ _)),J (Zg5 HN.out (Za8 _ _)),J (HB.out.trans ((Za8 _ _).mono HB.out.size)),J (λb hb=>?_)⟩;rw[HA.out b hb];constructor
     ·rintro ⟨a,h1,h2⟩;exact⟨a,by omega,h2⟩
     ·rintro ⟨a,h1,h2,h3,h4⟩;by_cases e:a=i
      ·subst e;rw[HFI.out]at h3;cases h3
      ·exact⟨a,by omega,h2,h3,h4⟩
    case measure=>simp[Zi];omega
   ·rw[hfi]at u0;have HFI:Hid (f[i]?.getD false=true):=J hfi;have HKS:Hid (∀W9,ZL wr W9->ZL wr W9/\W9.cell? ⟨fb,fo+i,none⟩=some (.bool true)/\W9.cell? ⟨sb,so+i,none⟩=some (I ch)/\W9.cell? ⟨NB,0,none⟩=some (I 2)/\W9.cell? ⟨NB,1,none⟩=some (.bool (X.NT n))/\W9.cell? ⟨NB,2,none⟩=some (.slice ad (X.NR n) cp)/\W9.cell? ⟨NB,3,none⟩=some (I (X.A n))/\W9.cell? ⟨NB,4,none⟩=some (I (X.B n))/\W9.cell? ⟨NB,5,none⟩=some (I (X.MN n))/\W9.cell? ⟨NB,6,none⟩=some (I (X.MX n))):=J (λW9 h9=>by
     obtain⟨z0,z1,z2,z3,z4,z5,z6⟩:=Zav (Zfk (Zg5 HN.out h9));exact⟨h9,(h9.cell (p:=⟨fb,fo+i,none⟩) (by show fb<_;omega)).trans u0,(h9.cell (p:=⟨sb,so+i,none⟩) (by show sb<_;omega)).trans v0,z0,z1,z2,z3,z4,z5,z6⟩)
    have CI:=J (λW9 (h9:ZL wr W9)=>Zy5 2 (X.NT n) ad (X.NR n) cp (X.A n) (X.B n) (X.MN n) (X.MX n) (X.L n) (X.H n) ch W9 hnr (Zb9 (Zck (Zb9 (Zck HRg.out HB.out) HB.out.size) h9) h9.size));rw[HCV.out ch,<-HCH.out]at CI;obtain⟨dv,hd⟩:=ZX (clX X C n i);rw[hd]at CI;have HD:=J hd;have XX:Hid (ZL wr wr.drew):=J ⟨rfl,rfl,rfl,Zb _,λ_ _=>rfl⟩;clear hd hfi;go_wp2
    go_cut [53] (λv wx=>v=.bool dv/\Hid (ZL wr wx))
    case first=>
     go_region_held3 (λW9=>ZL wr W9/\W9.cell? ⟨fb,fo+i,none⟩=some (.bool true)/\W9.cell? ⟨sb,so+i,none⟩=some (I ch)/\W9.cell? ⟨NB,0,none⟩=some (I 2)/\W9.cell? ⟨NB,1,none⟩=some (.bool (X.NT n))/\W9.cell? ⟨NB,2,none⟩=some (.slice ad (X.NR n) cp)/\W9.cell? ⟨NB,3,none⟩=some (I (X.A n))/\W9.cell? ⟨NB,4,none⟩=some (I (X.B n))/\W9.cell? ⟨NB,5,none⟩=some (I (X.MN n))/\W9.cell? ⟨NB,6,none⟩=some (I (X.MX n))) (first|assumption|exact HKS.out _ XX.out) (first|(go_at_call 185;refine ZM (CI.out _ XX.out) ?_;rintro w9 hb9;have X2:=J (XX.out.trans (hb9.mono XX.out.size));replace XX:=X2;clear X2 hb9))
     all_goals
      go_wp2;go_meet
      exact⟨rfl,XX⟩
    case rest=>
     obtain⟨rfl,HB2⟩:=hcut
     rename World=>w2
     have HX3:=J (Zf5 HX.out HB2.out);have HN3:=J (Zg5 HN.out HB2.out);have HB3:=J (HB.out.trans (HB2.out.mono HB.out.size));have hb2s:=HB2.out.size;clear XX u0 v0 a0 a1 a2 a3 a4 a5 a6;cases dv
     ·go_wp2
      go_roundw
      case rel=>
       refine⟨i+1,G,by omega,by go_num,HX3,HN3,HB3,J (λb hb=>?_)⟩;rw[HA.out b hb];constructor
       ·rintro ⟨a,h1,h2⟩;exact⟨a,by omega,h2⟩
       ·rintro ⟨a,h1,h2,h3,h4⟩;by_cases e:a=i
        ·subst e;rw[HD.out]at h4;cases h4
        ·exact⟨a,by omega,h2,h3,h4⟩
      case measure=>simp[Zi];omega
     ·have u1:=(Zbq HX3.out).2.2 (i+1) (by omega);have uz:=Zd7 HX3.out (i+1);have HXS:=J (ZfA HX3.out (i+1) true);have HNS:=J (Zgr HN3.out (p:=⟨w.heap.size,i+1,none⟩) (by show w.heap.size≠NB;omega) (.bool true));have HBS:=J (HB3.out.setCell (p:=⟨w.heap.size,i+1,none⟩) (Zb _) (.bool true));have HGL:=J HX3.out.1;go_wp2
      go_roundw
      case rel=>
       refine⟨i+1,G.set (i+1) true,by omega,by go_num,HXS,HNS,HBS,J (λb hb=>?_)⟩;rw[ZnR _ _ _ (by rw[HGL.out];omega)];by_cases e:b=i+1
       ·subst e;rw[Zd rfl];exact⟨λ_=>⟨i,by omega,rfl,HFI.out,HD.out⟩,λ_=>rfl⟩
       ·rw[Za e,HA.out b hb];constructor
        ·rintro ⟨a,h1,h2⟩;exact⟨a,by omega,h2⟩
        ·rintro ⟨a,h1,h2,h3,h4⟩;by_cases e2:a=i
         ·subst e2;exact absurd h2 e
         ·exact⟨a,by omega,h2,h3,h4⟩
      case measure=>simp[Zi];omega
  ·have him:i=m:=by omega
   subst him;go_wp2;go_ret;refine⟨w.heap.size,i+1,G,rfl,HX.out,λb hb=>?_,HB.out⟩;rw[HA.out b hb,HT.out];constructor
   ·rintro ⟨a,h1,h2,h3,h4⟩;exact⟨a,by omega,h3,h2,h4⟩
   ·rintro ⟨a,h1,h2,h3,h4⟩;exact⟨a,by omega,h3,h2,h4⟩
theorem ZaS{R:Nat}{w w1 w2:World}(h:Kp (λj=>j=R) w w1)(k:Kp (λj=>j=R) w1 w2):Kp (λj=>j=R) w w2:=h.trans k (λ_ _ hj=>hj)
def ChA(S:Nat->Prop)(B R:Nat)(C:List Int)(k:Nat)(X:List Nd)(w:World)(o:Option (Int×List Int))(e:Ending)(w':World):Prop:=match o with
 |some (v,r)=>∃k',r=C.drop k'/\k<k'/\e=.returned (I v)/\SD S B R w' C k' false X/\Kp (λj=>j=R) w w'
 |none=>∃v k',e=.returned (I v)/\SD S B R w' C k' true X/\Kp (λj=>j=R) w w'
theorem Zqw{S:Nat->Prop}(B R:Nat)(C:List Int)(k:Nat)(X:List Nd)(w:World)(h:SD S B R w C k false X):
  Calls prog 294 #[.pointer (some ⟨R,0,none⟩)] w (ChA S B R C k X w (inP (C.drop k))):=by
 have H0:=J h;have h4:=h.1.2.2;have h5:=h.1.2.1;cases hr:C.drop k with
 |nil=>
  have hk:C.length<=k:=List.drop_eq_nil_iff.1 hr;obtain⟨ta,tc,ad,cp,⟨c0,c1,c2,c3⟩,f,-⟩:=Zal h;have f2:=f 2;have hd:decide ((k:Int)>=(C.length:Int))=true:=Zh (by omega);have hi2:(C.length:Int)<=(k:Int):=by omega
  clear h hr f;go_enter func294,ntmps294
  go_wp2;go_quiet (fail)
  go_wp2;go_ret;exact⟨0,k,rfl,Zia (Zbu H0.out _) true,(Zar w _).trans (Zd9 _ R 2 _) (λj _ hj=>hj)⟩
 |cons c r=>
  obtain⟨b,off,tc,ad,cp,c0,c1,c2,c3,f1,f2,ck,hlt⟩:=Zbj h hr;obtain⟨-,hr1,-⟩:=ZbM hr;have hch:=ZkO h c (by rw[<-List.take_append_drop k C,hr];simp);have hd:decide ((k:Int)>=(C.length:Int))=false:=Zg (by omega);have hi0:(0:Int)<=(k:Int):=by omega
  have hi1:(k:Int)<(C.length:Int):=by omega
  have hi2:¬(C.length:Int)<=(k:Int):=by omega
  have hw:IntKind.i64.wrap ((k:Int)+1)=(k:Int)+1:=by rw[ZY];omega
  clear h;by_cases e1:c=92
  ·subst e1;have E0:Hid (inP (92::r)=esP r):=J (by rw[inP,Zd rfl]);go_enter func294,ntmps294
   go_wp2;go_quiet (fail)
   revert nq;intro n1
   go_wp2;go_quiet (fail)
   revert nq;intro n2
   go_wp2;have H1:=J (Zg3 (Zbu H0.out (n1+n2)) hlt);have K1:Hid (Kp (λj=>j=R) w ((w.drewN (n1+n2)).setCell ⟨R,1,none⟩ (I ((k:Int)+1)))):=J ((Zar w _).trans (Zd9 _ R 1 _) (λj _ hj=>hj));obtain⟨W,hW⟩:=ZX ((w.drewN (n1+n2)).setCell ⟨R,1,none⟩ (I ((k:Int)+1)));rw[hW]at H1 K1 ⊢;clear hW c0 c1 c2 c3 f1 f2 ck hd hi0 hi1 hi2 hw;cases hr2:C.drop (k+1) with
   |nil=>
    have hk:C.length<=k+1:=List.drop_eq_nil_iff.1 hr2;have E1:Hid (inP (92::r)=none):=J (by rw[E0.out,hr1,hr2];rfl);obtain⟨ta,tc,ad,cp,⟨c0,c1,c2,c3⟩,f,-⟩:=Zal H1.out;have f2:=f 2;have ek:((k+1:Nat):Int)=(k:Int)+1:=(by omega);rw[ek]at c1;have hd:decide ((k:Int)+1>=(C.length:Int))=true:=Zh (by omega);have hi2:(C.length:Int)<=(k:Int)+1:=(by omega);clear ek f hr2 hr1 hr;go_quiet (fail)
    go_wp2;go_ret;rw[E1.out];exact⟨0,k+1,rfl,Zia (Zbu H1.out _) true,ZaS (ZaS K1.out (Zar W _)) (Zd9 _ R 2 _)⟩
   |cons d r2=>
    obtain⟨b,off,tc,ad,cp,c0,c1,c2,c3,f1,f2,ck,hlt2⟩:=Zbj H1.out hr2;obtain⟨-,hr3,-⟩:=ZbM hr2;have hdc:=Zbl (ZkO H1.out d (by rw[<-List.take_append_drop (k+1) C,hr2];simp));have ek:((k+1:Nat):Int)=(k:Int)+1:=(by omega);rw[ek]at c1;have hd:decide ((k:Int)+1>=(C.length:Int))=false:=Zg (by omega);have hi0:(0:Int)<=(k:Int)+1:=(by omega);have hi1:(k:Int)+1<(C.length:Int):=(by omega);have hi2:¬(C.length:Int)<=(k:Int)+1:=(by omega);have hi3:((k:Int)+1).toNat=k+1:=(by omega);have hw:IntKind.i64.wrap ((k:Int)+1+1)=(k:Int)+1+1:=(by rw[ZY];omega);have CE:=J (λW=>ZzX d W);rcases ZzY (c:=d) (r:=r2) (by omega) with ⟨he,hn⟩|⟨he,hn⟩
    ·have E1:Hid (inP (92::r)=none):=J (by rw[E0.out,hr1,hr2,he]);obtain⟨x,hx⟩:=ZX (esC d);rw[hx]at CE hn;have hnd:decide (x<0)=true:=Zh hn;clear ek hr2 hr1 hr he hx;go_quiet (first|(go_at_call 282;exact ZA (CE.out _)))
     go_wp2;go_ret;rw[E1.out];exact⟨0,k+1,rfl,Zia (Zbu H1.out _) true,ZaS (ZaS K1.out (Zar W _)) (Zd9 _ R 2 _)⟩
    ·have E1:Hid (inP (92::r)=some (esC d,r2)):=J (by rw[E0.out,hr1,hr2,he]);have HR3:=J hr3;obtain⟨x,hx⟩:=ZX (esC d);rw[hx]at CE hn E1;have hnd:decide (x<0)=false:=Zg (by omega);have HR2:=J hr2;clear ek hr2 hr1 hr he hx hr3;go_quiet (first|(go_at_call 282;exact ZA (CE.out _)))
     revert nq;intro n1
     go_wp2;have H2:=J (Zbu H1.out n1);have K2:Hid (Kp (λj=>j=R) w (W.drewN n1)):=J (ZaS K1.out (Zar W _));obtain⟨W2,hW2⟩:=ZX (W.drewN n1);rw[hW2]at H2 K2 ⊢;clear hW2 c0 c1 c2 c3 f1 f2 ck;obtain⟨b,off,tc,ad,cp,c0,c1,c2,c3,f1,f2,ck,-⟩:=Zbj H2.out HR2.out;have ek:((k+1:Nat):Int)=(k:Int)+1:=(by omega);rw[ek]at c1;clear ek HR2;go_quiet (first|(go_at_call 282;exact ZA (CE.out _)))
     revert nq;intro n2
     go_wp2;go_ret;rw[E1.out];have h9:=Zg3 (Zbu H2.out n2) hlt2;have ek:((k+1:Nat):Int)+1=(k:Int)+1+1:=(by omega);rw[ek]at h9;exact⟨k+1+1,HR3.out,by omega,rfl,h9,ZaS (ZaS K2.out (Zar W2 _)) (Zd9 _ R 1 _)⟩
  ·have b0:(c==92)=false:=by simp[e1]
   have E0:Hid (inP (c::r)=if isS sgI c=true then none else some (c,r)):=J (by rw[inP,Za e1]);have HR1:=J hr1;by_cases e2:c=91\/c=93\/c=45\/c=94
   ·have E1:Hid (inP (c::r)=none):=J (by
     rw[E0.out,Zd];rcases e2 with rfl|rfl|rfl|rfl<;>decide)
    clear E0 hr1 hr e1;rcases e2 with rfl|rfl|rfl|rfl
    all_goals
     go_enter func294,ntmps294
     go_wp2;go_quiet (fail)
     revert nq;intro n1
     go_wp2;go_quiet (fail)
     revert nq;intro n2
     go_wp2;go_ret;rw[E1.out];exact⟨_,k+1,rfl,Zia (Zg3 (Zbu H0.out (n1+n2)) hlt) true,ZaS (ZaS (Zar w _) (Zd9 _ R 1 _)) (Zd9 _ R 2 _)⟩
   ·have b1:(c==91)=false:=(by simp;omega);have b2:(c==93)=false:=(by simp;omega);have b3:(c==45)=false:=(by simp;omega);have b4:(c==94)=false:=(by simp;omega);have E1:Hid (inP (c::r)=some (c,r)):=J (by
     rw[E0.out,Za];unfold isS sgI;simp;omega)
    clear E0 hr1 hr e1 e2;go_enter func294,ntmps294
    go_wp2;go_quiet (fail)
    revert nq;intro n1
    go_wp2;go_quiet (fail)
    revert nq;intro n2
    go_wp2;go_ret;rw[E1.out];exact⟨k+1,HR1.out,by omega,rfl,Zg3 (Zbu H0.out (n1+n2)) hlt,ZaS (Zar w _) (Zd9 _ R 1 _)⟩
end
end Go.Proofs.YtcdnilpdohknfaaGreatDoor
