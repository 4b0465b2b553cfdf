import Derived.Test.YtcdnilpdohknfaaGreatDoorJ12
import Derived.Test.YtcdnilpdohknfaaGreatDoorJ13
set_option linter.unusedVariables false
set_option linter.unusedSimpArgs false
set_option maxRecDepth 100000
set_option maxHeartbeats 16000000
namespace Go.Proofs.YtcdnilpdohknfaaGreatDoor
open Tryz
section
open Go.RowKit
inductive Rch (M:List Sp):Nat->Nat->Prop
 |refl (p:Nat):Rch M p p
 |nx {p x:Nat} {s:Sp}:M[p]?=some s->s.fk=true->Rch M s.nx x->Rch M p x
 |ot {p x:Nat} {s:Sp}:M[p]?=some s->s.fk=true->Rch M s.ot x->Rch M p x
def RcP(M:List Sp)(S:Nat->Bool)(p:Nat)(S':Nat->Bool):Prop:=
 (∀x,S x=true->S' x=true)/\S' p=true/\(∀x,S' x=true->S x=true\/Rch M p x)/\(∀x s,S' x=true->S x=false->M[x]?=some s->s.fk=true->S' s.nx=true/\S' s.ot=true)
def Zlc(S:Nat->Bool)(p:Nat):Nat->Bool:=λx=>S x||decide (x=p)
theorem Zd2(S:Nat->Bool)(p:Nat):Zlc S p p=true:=by simp[Zlc]
theorem Zfi{S:Nat->Bool}{p x:Nat}(h:S x=true):Zlc S p x=true:=by simp[Zlc,h]
theorem Ze7{S:Nat->Bool}{p x:Nat}(h:Zlc S p x=true):S x=true\/x=p:=by simpa[Zlc] using h
theorem Zv0{M:List Sp}{S:Nat->Bool}{p:Nat}(h:S p=true):RcP M S p S:=⟨λ_ h=>h,h,λ_ h => .inl h,λx s h1 h2=>by rw[h1]at h2;cases h2⟩
theorem ZrR{M:List Sp}{S:Nat->Bool}{p:Nat}{s:Sp}(hs:M[p]?=some s)(hf:s.fk=false):RcP M S p (Zlc S p):=by
 refine⟨λ_ h=>Zfi h,Zd2 _ _,λx h=>?_,λx u h1 h2 h3 h4=>?_⟩
 ·rcases Ze7 h with h|rfl
  ·exact .inl h
  ·exact .inr (.refl _)
 ·rcases Ze7 h1 with h|rfl
  ·rw[h]at h2;cases h2
  ·rw[hs]at h3;cases h3;rw[hf]at h4;cases h4
theorem ZsE{M:List Sp}{S S2 S3:Nat->Bool}{p:Nat}{s:Sp}(hs:M[p]?=some s)(hf:s.fk=true)(h:RcP M (Zlc S p) s.nx S2)(k:RcP M S2 s.ot S3):RcP M S p S3:=by
 obtain⟨a1,a2,a3,a4⟩:=h;obtain⟨b1,b2,b3,b4⟩:=k;refine⟨λx hx=>b1 x (a1 x (Zfi hx)),b1 p (a1 p (Zd2 _ _)),λx hx=>?_,λx u h1 h2 h3 h4=>?_⟩
 ·rcases b3 x hx with h|h
  ·rcases a3 x h with h|h
   ·rcases Ze7 h with h|rfl
    ·exact .inl h
    ·exact .inr (.refl _)
   ·exact .inr (.nx hs hf h)
  ·exact .inr (.ot hs hf h)
 ·cases e2:S2 x
  ·exact b4 x u h1 e2 h3 h4
  ·cases e1:Zlc S p x
   ·obtain⟨q1,q2⟩:=a4 x u e2 e1 h3 h4;exact⟨b1 _ q1,b1 _ q2⟩
   ·rcases Ze7 e1 with h|rfl
    ·rw[h]at h2;cases h2
    ·rw[hs]at h3;cases h3;exact⟨b1 _ a2,b2⟩
def Clo(M:List Sp)(S:Nat->Bool):Prop:=∀x s,S x=true->M[x]?=some s->s.fk=true->S s.nx=true/\S s.ot=true
theorem Zn6(M:List Sp):Clo M (λ_=>false):=λx s h=>by cases h
theorem ZwR{M:List Sp}{S:Nat->Bool}(hc:Clo M S){p x:Nat}(h:Rch M p x):S p=true->S x=true:=by
 induction h with
 |refl p=>exact λh=>h
 |nx h1 h2 _ ih=>exact λh=>ih (hc _ _ h h1 h2).1
 |ot h1 h2 _ ih=>exact λh=>ih (hc _ _ h h1 h2).2
theorem Zvq{M:List Sp}{S S':Nat->Bool}{p:Nat}(hc:Clo M S)(h:RcP M S p S'):Clo M S'/\∀x,S' x=true↔S x=true\/Rch M p x:=by
 obtain⟨a1,a2,a3,a4⟩:=h;have c:Clo M S':=λx s h1 h2 h3=>by
  cases e:S x
  ·exact a4 x s h1 e h2 h3
  ·obtain⟨q1,q2⟩:=hc x s e h2 h3;exact⟨a1 _ q1,a1 _ q2⟩
 refine⟨c,λx=>⟨a3 x,λh=>?_⟩⟩;rcases h with h|h
 ·exact a1 x h
 ·exact ZwR c h a2
def nf(S:Nat->Bool):Nat->Nat
 |0=>0
 |k+1=>nf S k+(if S k=true then 0 else 1)
theorem Zze(S:Nat->Bool):∀k,nf S k<=k
 |0=>Zb _
 |k+1=>by
  have:=Zze S k;rw[nf];split<;>omega
theorem ZjP{S S':Nat->Bool}(h:∀x,S x=true->S' x=true):∀k,nf S' k<=nf S k
 |0=>Zb _
 |k+1=>by
  have:=ZjP h k;rw[nf,nf];split
  ·omega
  ·rename_i e;rw[Za (λx=>e (h k x))];omega
theorem ZsG{S S':Nat->Bool}(h:∀x,S x=true->S' x=true){p:Nat}(h1:S p=false)(h2:S' p=true):∀k,p<k->nf S' k<nf S k
 |0,hk=>by omega
 |k+1,hk=>by
  rw[nf,nf];by_cases e:p=k
  ·subst e;have:=ZjP h p;rw[Zd h2,Za (by rw[h1];simp)];omega
  ·have:=ZsG h h1 h2 k (by omega);split
   ·omega
   ·rename_i e2;rw[Za (λx=>e2 (h k x))];omega
theorem Zmy:∀k,nf (λ_=>false) k=k
 |0=>rfl
 |k+1=>by rw[nf,Zmy k];rfl
section
variable {M:List Sp} {c:Nat->Nat->Bool} {N:Nat}
theorem Zvh{p x l i:Nat}(h:Rch M p x):ac M c N l x i->∃l',ac M c N l' p i:=by
 induction h with
 |refl p=>exact λh=>⟨l,h⟩
 |nx h1 h2 _ ih=>
  intro h;obtain⟨l',h3⟩:=ih h;exact⟨l'+1,.inr ⟨_,h1,.inl ⟨h2,.inl h3⟩⟩⟩
 |ot h1 h2 _ ih=>
  intro h;obtain⟨l',h3⟩:=ih h;exact⟨l'+1,.inr ⟨_,h1,.inl ⟨h2,.inr h3⟩⟩⟩
def Hr(M:List Sp)(c:Nat->Nat->Bool)(N:Nat)(S:Nat->Bool)(i:Nat):Prop:=∃x l,S x=true/\ac M c N l x i
theorem ZuH{S:Nat->Bool}{p i:Nat}(h:∀x,S x=true↔Rch M p x):Hr M c N S i↔∃l,ac M c N l p i:=by
 constructor
 ·rintro ⟨x,l,h1,h2⟩;exact Zvh ((h x).1 h1) h2
 ·rintro ⟨l,h1⟩;exact⟨p,l,(h p).2 (.refl _),h1⟩
def Aft(M:List Sp)(d:Nat->Bool)(S T:Nat->Bool):Prop:=∀x,T x=true↔∃p s,S p=true/\M[p]?=some s/\s.fk=false/\d s.cs=true/\Rch M s.nx x
theorem Zxk{S T:Nat->Bool}{i:Nat}(hi:i<N)(hc:Clo M S)(h:Aft M (λn=>c n i) S T):Hr M c N T (i+1)↔Hr M c N S i:=by
 constructor
 ·rintro ⟨x,l,h1,h2⟩;obtain⟨p,s,q1,q2,q3,q4,q5⟩:=(h x).1 h1;obtain⟨l',h3⟩:=Zvh q5 h2;exact⟨p,l'+1,q1,.inr ⟨s,q2,.inr ⟨q3,q4,h3⟩⟩⟩
 ·rintro ⟨x,l,h1,h2⟩
  revert x
  induction l with
  |zero=>intro x h1 h2;have:=h2.2;omega
  |succ l ih=>
   intro x h1 h2;rcases h2 with h2|⟨s,q1,⟨q2,q3|q3⟩|⟨q2,q3,q4⟩⟩
   ·omega
   ·exact ih _ (hc _ _ h1 q1 q2).1 q3
   ·exact ih _ (hc _ _ h1 q1 q2).2 q3
   ·exact⟨s.nx,l,(h _).2 ⟨x,s,h1,q1,q2,q3,.refl _⟩,q4⟩
theorem Zzh{S:Nat->Bool}(hc:Clo M S)(hcl:∀n i,c n i=true->i<N):Hr M c N S N↔S 0=true:=by
 constructor
 ·rintro ⟨x,l,h1,h2⟩
  revert x
  induction l with
  |zero=>intro x h1 h2;rw[h2.1]at h1;exact h1
  |succ l ih=>
   intro x h1 h2;rcases h2 with h2|⟨s,q1,⟨q2,q3|q3⟩|⟨q2,q3,q4⟩⟩
   ·rw[h2.1]at h1;exact h1
   ·exact ih _ (hc _ _ h1 q1 q2).1 q3
   ·exact ih _ (hc _ _ h1 q1 q2).2 q3
   ·have:=hcl _ _ q3;omega
 ·intro h;exact⟨0,0,h,rfl,rfl⟩
theorem ZAX{l j:Nat}(h0:M[0]?=some ⟨true,0,0,0⟩):ac M c N l 0 j->j=N:=by
 induction l with
 |zero=>exact λh=>h.2
 |succ l ih=>
  rintro (h|⟨s,q1,⟨q2,q3|q3⟩|⟨q2,q3,q4⟩⟩)
  ·exact h.2
  ·rw[h0]at q1;cases q1;exact ih q3
  ·rw[h0]at q1;cases q1;exact ih q3
  ·rw[h0]at q1;cases q1;cases q2
end
theorem ZrA{X:Rx}{n p:Nat}{M:List Sp}(c:Nat->Nat->Bool)(N:Nat)(h:Ent X [⟨true,0,0,0⟩] (λc=>tkX X c n) 0 p M):(∃l,ac M c N l p 0)↔tkX X c n 0 N:=by
 obtain⟨⟨E,rfl⟩,h2,h3,-⟩:=h;obtain⟨k1,k2⟩:=h3 _ c N (ZuT _);constructor
 ·rintro ⟨l,hl⟩;obtain⟨j,l',-,h5,h6⟩:=k1 l 0 hl;have:=ZAX (by simp) h6;rw[this]at h5;exact h5
 ·intro h;exact k2 0 N 0 h ⟨rfl,rfl⟩
theorem Zwo(X:Rx):Wf X [⟨true,0,0,0⟩]:=λk s h=>by
 cases k with
 |zero=>simp at h;subst h;exact⟨by simp,by simp,λe=>by cases e⟩
 |succ k=>simp at h
end
section
open Go.RowKit Go.Joins
theorem ZtN{X:Rx}{k:Nat}(hk:k<X.len)(h:trX X k=none):rxB X=false:=by
 by_cases ht:trX X (X.len-1)=some 0
 ·have:=Zny (ZeA X.K) (ZgD X.K) X.A X.B X.len (X.len-1) 0 (by omega) ht k (Zx _) (by omega);unfold trX at h;rw[h]at this;cases this
 ·unfold rxB;rw[Zg ht];simp
theorem ZAM:(prog.info? 243).map (λi=>(i.zero,i.size,i.bytes))=some (some (.agg #[I 0,I 0]),2,16):=by kernel_rfl
def ZpF(w wr:World)(X:Rx)(k:Nat)(ad:Option Addr)(c:Nat):Prop:=
 (∃xs,wr.ownsRow w.heap.size 243 2 (.slice ad k c) k xs/\Zp0 xs k (tI X) (wtX X))/\ZL w wr/\(∀j,j<k->ZdO X j=true)/\(∀j,j<k->(trX X j).isSome=true)
theorem ZsI{w wr w2:World}{X:Rx}{k:Nat}{ad:Option Addr}{c:Nat}(h:ZpF w wr X k ad c)(hb:ZL wr w2):ZpF w w2 X k ad c:=by
 obtain⟨⟨xs,ho,hp⟩,h2,h3,h4⟩:=h;exact⟨⟨xs,Zq6 ho hb,hp⟩,h2.trans (hb.mono h2.size),h3,h4⟩
theorem ZmY{w wr:World}{X:Rx}{k:Nat}{ad:Option Addr}{c:Nat}(h:ZpF w wr X k ad c):ZdV wr ad k (tI X) (wtX X) wr.heap.size:=by
 obtain⟨⟨xs,ho,hp⟩,h2,h3,h4⟩:=h;exact ZtB ho hp
theorem Zxx{w wr w2:World}{X:Rx}{k f:Nat}{ad ad2:Option Addr}{c c2:Nat}{xs:List Value}(ho:w2.ownsRow w.heap.size 243 2 (.slice ad2 (k+1) c2) (k+1) (xs++[I (f:Int),I (wtX X k)]))(hl:xs.length=k*2)(hp:Zp0 xs k (tI X) (wtX X))(hb:ZL w w2)(h:ZpF w wr X k ad c)(hn:ZdO X k=true)(ht:trX X k=some f):ZpF w w2 X (k+1) ad2 c2:=by
 refine⟨⟨_,ho,ZoN hp hl (Zfy ht) rfl⟩,hb,λj hj=>?_,λj hj=>?_⟩
 ·by_cases e:j=k
  ·subst e;exact hn
  ·exact h.2.2.1 j (by omega)
 ·by_cases e:j=k
  ·subst e;rw[ht];rfl
  ·exact h.2.2.2 j (by omega)
theorem Zpz{w w1 w2:World}{e:TypeId}{ad:Option Addr}{k c:Nat}{xs:List Value}{o1 o2:Obj}(hb:ZL w w1)(ho:w1.ownsRow w.heap.size e 2 (.slice ad k c) k xs)(hg:((w1.alloc o1).alloc o2).grownBy w2 (Value.slice ad k c).ownBlock):ZL w w2:=by
 have h1:ZL w ((w1.alloc o1).alloc o2):=(hb.alloc hb.size _).alloc (by have:=hb.size;simp;omega) _;refine h1.grown hg h1.size λj hj=>?_
 rcases ho.2 with ⟨hv,h0⟩|⟨g,cap,cur,hv,hB,rest⟩
 ·rw[hv]at hj;simp[Value.ownBlock]at hj
 ·rw[hv]at hj;simp[Value.ownBlock]at hj;omega
theorem Zuw(w:World)(o:Obj)(x y:Int)(T:TypeId)(j:Nat)(u:Value)(hj:[I x,I y][j]?=some u):((w.alloc o).alloc (.cells #[I x,I y] T)).cell? ((⟨w.heap.size+1,0,none⟩:Addr).add j)=some u:=by
 have h:=ZwH (w.alloc o) x y T j u hj;have e:(w.alloc o).heap.size=w.heap.size+1:=by simp
 rw[e]at h;exact h
theorem Zw1(X:Rx)(len:Nat)(a:Option Addr)(cap:Nat)(w:World)(hX:X.len=len)(hlen:len<=maxLen)(hnr:∀j,j<len->X.NR j<=maxLen)(hr:Zwq w a X w.heap.size):
  Calls prog 187 #[.slice a len cap] w λe w'=>e=.returned (.bool (rxB X))/\ZL w w':=by
 unfold maxLen at hlen;have HX:=J hX;have HNR:=J hnr;have HR:=J hr;clear hr hnr hX;by_cases hs:1<=len/\len<=120
 ·obtain⟨g1,g2⟩:=hs;have g3:(1:Int)<=len:=by omega
  have g4:(len:Int)<=120:=by omega
  obtain⟨b,off,rfl,hbs,hrow⟩:=HR.out (by rw[HX.out];omega);have HRW:=J hrow;clear hrow;obtain⟨i0,hi,hz0,hz1,hz2⟩:=info_parts ZAM;go_enter func187,ntmps187
  go_wp2
  go_loopw [3,19] (λv i wr=>∃(k:Nat) (ad:Option Addr) (c:Nat),k<=len/\i=I k/\v=.slice ad k c/\ZpF w wr X k ad c) (λ_ i _=>len-(Zi i).toNat)
  case atStart=>exact⟨0,none,0,Zx _,rfl,rfl,⟨[],⟨rfl,.inl ⟨rfl,rfl⟩⟩,λj h=>by omega⟩,Ze _ _,λj h=>by omega,λj h=>by omega⟩
  case round=>
   obtain⟨k,ad,c,hk,rfl,rfl,hrel⟩:=hrel;have hb:=hrel.2.1;by_cases hlt:k<len
   ·obtain⟨ar,cp,hc,hrg⟩:=HRW.out k (by rw[HX.out];omega);obtain⟨c0,c1,c2,c3,c4,c5,c6⟩:=ZdR hc hbs hb;have hbw:b<wr.heap.size:=ZDy hbs hb.size;have HG:=J (Zb9 (Zck hrg hb) hb.size);have HRL:=J hrel;have hi9:(k:Int)<(len:Int):=(by omega);clear hc hrg hb hrel;go_wp2_with fail
    refine ZM (ZtX _ _ _ _ _ _ _ _ _ (X.L k) (X.H k) _ (HNR.out k hlt) (Zb9 (Zck HG.out ((Ze _ _).alloc (Zb _) _)) (by simp))) ?_;rintro w2 hb2;have HX2:=J (ZnU hb2);have HRL2:=J (ZsI HRL.out HX2.out.2);clear hb2 c0 c1 c2 c3 c4 c5 c6;cases hno:ZdO X k
    ·rw[show ZR (X.K k) (X.NT k) (X.NR k) (X.L k) (X.H k) (X.A k) (X.B k) (X.MN k) (X.MX k)=false from hno];go_wp2;go_ret;exact⟨Zo (Zhg (by rw[HX.out];exact hlt) hno).symm,HRL2.out.2.1⟩
    ·rw[show ZR (X.K k) (X.NT k) (X.NR k) (X.L k) (X.H k) (X.A k) (X.B k) (X.MN k) (X.MX k)=true from hno];obtain⟨a0,a1,a2,a3,a4,a5,a6⟩:=Zav HX2.out.1;cases ht:trX X k with
     |none=>
      go_wp2_with fail
      refine ZM (Zo1 X k ad c ar cp _ (by omega) (ZmY HRL2.out) HRL2.out.2.2.2 ht) ?_;rintro w3 hb3;have HRL3:=J (ZsI HRL2.out hb3);clear hb3 a0 a1 a2 a3 a4 a5 a6;go_wp2;go_ret;exact⟨Zo (ZtN (by rw[HX.out];exact hlt) ht).symm,HRL3.out.2.1.alloc HRL3.out.2.1.size _⟩
     |some f=>
      go_wp2_with fail
      refine ZM (Zpb X k ad c ar cp _ (by omega) (ZmY HRL2.out) hno f ht) ?_;rintro w3 hb3;have HRL3:=J (ZsI HRL2.out hb3);clear hb3 a0 a1 a2 a3 a4 a5 a6;have HT:=J ht;have HNO:=J hno;clear ht hno;obtain⟨xs,ho,hp⟩:=HRL3.out.1;have HO:=J ho;have HP:=J hp;have hsz:w.heap.size<=w3.heap.size:=HRL3.out.2.1.size;obtain⟨z,hz⟩:=ZX (wtX X k);rw[hz];have HZ:=J hz;clear ho hp hz;go_wp2_with (at_builtin;refine wpList_append_own _ rfl (.tmp 34) (.tmp 36) 241 rfl w.heap.size 243 i0 (.agg #[I 0,I 0]) 2 16 underlying241 hi hz0 hz1 hz2 rfl (by decide) _ _ _ rfl ((HO.out.alloc _).alloc _) ⟨w3.heap.size+1,0,none⟩ 1 1 [I (f:Int),I z] rfl rfl (λj u hj=>Zuw w3 _ _ _ _ j u hj) (Zu0 _ _) (by unfold maxLen;omega) (by omega) (by simp;omega) ?_;intro v2 w4 hown2 hgrow2 _;obtain⟨ad2,c2,hv2⟩:=ZoL hown2;rw[hv2]at hown2 ⊢;clear hv2)
      have hbw4:=Zpz HRL3.out.2.1 HO.out hgrow2;have HRL4:=J (Zxx (f:=f) (by rw[HZ.out];exact hown2) HO.out.1 HP.out hbw4 HRL3.out HNO.out HT.out);clear hown2 hgrow2 hbw4
      go_roundw
      case rel=>exact⟨k+1,ad2,c2,by omega,by go_num,rfl,HRL4.out⟩
      case measure=>simp[Zi];omega
   ·have hkn:k=len:=(by omega);subst hkn;have HV:=J (ZpW (X:=X) (by rw[HX.out];exact⟨g1,g2⟩) (by rw[HX.out];exact hrel.2.2.1));rw[HX.out]at HV;obtain⟨b9,off9,rfl,hb9,hc9⟩:=ZmY hrel (by omega);obtain⟨d0,d1⟩:=hc9 (k-1) (by omega);have HB:=J hb;have hso:=hrel.2.2.2 (k-1) (by omega);obtain⟨f,hf⟩:∃f,trX X (k-1)=some f:=by
     cases h:trX X (k-1) with
     |none=>rw[h]at hso;cases hso
     |some f=>exact⟨f,rfl⟩
    rw[Zfy hf]at d0;have hf2:(trX X (k-1)=some 0)↔((f:Int)=0):=(by rw[hf];simp);rw[show decide (trX X (k-1)=some 0)=decide ((f:Int)=0) from by simp[hf2]]at HV;obtain⟨x,hx⟩:=ZX (wtX X (k-1));rw[hx]at d1 HV;have q3:(k:Int)-1<(k:Int):=(by omega);have q10:(1:Int)<=(k:Int):=(by omega);have q5:((k:Int)-1).toNat=k-1:=(by omega);clear hrel hb hc9 hso hf hf2 hx;by_cases hfz:f=0
    ·subst hfz;go_wp2;go_ret;exact⟨Zo (by rw[HV.out];simp),HB.out.alloc HB.out.size _⟩
    ·have hfz2:((f:Int)==0)=false:=(by simp;omega);have HV2:Hid (rxB X=false):=J (by rw[HV.out,Zg (by omega)];rfl);go_wp2;go_ret;exact⟨Zo HV2.out.symm,HB.out.alloc HB.out.size _⟩
 ·have e:=Zj5 (X:=X) (by rw[HX.out];exact hs);rw[e];by_cases g:len=0
  ·go_enter func187,ntmps187
   go_wp2;go_ret;exact⟨rfl,Ze _ _⟩
  ·have g2:(120:Int)<(len:Int):=by omega
   go_enter func187,ntmps187
   go_wp2;go_ret;exact⟨rfl,Ze _ _⟩
end
section
open Go.RowKit
theorem ZfT{w w1:World}{xs:Array Value}{T:TypeId}(h:Below (w.alloc (.cells xs T)).heap.size (w.alloc (.cells xs T)) w1):w1.heap[w.heap.size]?=some (.cells xs T (0,0)):=by
 rw[h.block w.heap.size (by simp)];exact Zz w _
theorem Zb3{w w1:World}{xs:Array Value}{T:TypeId}(h:Below (w.alloc (.cells xs T)).heap.size (w.alloc (.cells xs T)) w1):
  w1.frozen? ⟨w.heap.size,0,none⟩=false/\w1.frozen? ⟨w.heap.size,1,none⟩=false/\w1.frozen? ⟨w.heap.size,2,none⟩=false:=
 ⟨ZEm _ w.heap.size 0 _ T (ZfT h),ZEm _ w.heap.size 1 _ T (ZfT h),ZEm _ w.heap.size 2 _ T (ZfT h)⟩
theorem Zc4{w w1:World}{a b c:Value}{T:TypeId}(h:Below (w.alloc (.cells #[a,b,c] T)).heap.size (w.alloc (.cells #[a,b,c] T)) w1)(x y z:Value):
  (((w1.setCell ⟨w.heap.size,0,none⟩ x).setCell ⟨w.heap.size,1,none⟩ y).setCell ⟨w.heap.size,2,none⟩ z).cell? ⟨w.heap.size,0,none⟩=some x/\(((w1.setCell ⟨w.heap.size,0,none⟩ x).setCell ⟨w.heap.size,1,none⟩ y).setCell ⟨w.heap.size,2,none⟩ z).cell? ⟨w.heap.size,1,none⟩=some y/\(((w1.setCell ⟨w.heap.size,0,none⟩ x).setCell ⟨w.heap.size,1,none⟩ y).setCell ⟨w.heap.size,2,none⟩ z).cell? ⟨w.heap.size,2,none⟩=some z:=
 Zlh (ZfT h) x y z
theorem ZtZ(s:ZB)(w:World)(hs:s.size<=1048576)(h0:0<s.size)(h1:at8 s 0=45):Calls prog 104 #[.string s] w λe w'=>e=.returned (Zil (ZC s))/\ZL w w':=by
 have e1:Zhr s=true:=by simp[Zhr,h0,h1]
 have e2:ZcF s=s.extract 1 s.size:=by simp[ZcF,h0,h1]
 rw[ZaX s 0 h0]at h1;rw[ZC,e1,e2];obtain⟨r,hr⟩:=ZX (s.extract 1 s.size);have hrs:r.size<=1048576:=by rw[<-hr];simp;omega
 rw[hr];clear e1 e2;go_enter func104,ntmps104
 go_wp2
 go_loop [5] (λvi=>∃k:Nat,vi=I k/\k<=r.size/\Hid (∀j,j<k->r.data.toList[j]?≠some 46)) (λvi=>r.size-(Zi vi).toNat)
 case atStart=>exact⟨0,rfl,Zx _,J (λj h=>by omega)⟩
 case round=>
  obtain⟨k,rfl,hk,HN⟩:=hrel;rcases(show k=r.size\/k<r.size by omega) with hks|hks
  ·have HDOT:=J (Zei r.data.toList k (by simp;omega) HN.out (.inl (by simp;exact hks)));have HW:=J (show Zbg r=r.extract 0 k by rw[Zbg,HDOT.out]);have HP:=J (show ZbV r=⟨#[]⟩ by apply Zbb;simp[ZbV,HDOT.out];omega);obtain⟨x,hx⟩:=ZX (r.extract 0 k);have HX:=J (HW.out.trans hx);have hki:(k:Int)=(r.size:Int):=by omega
   have HKK:=J hks;subst hks;clear HN HW HDOT hki;have hxs:x.size<=1048576:=by rw[<-hx];simp;omega
   have HYE:=HP;rcases(show 180<r.size\/r.size<=180 by omega) with hbig|hbig
   ·have HR:=J (show Zy true r=(false,ByteArray.empty,0,false) by rw[Zy,Zd (by simp[ZS,hbig])]);go_wp2;exact bodyPost_ret (v:=ZJ) (by simp[ZJ,results,results104,go_sem]) rfl ⟨by rw[HR.out];rfl,(Ze _ _).alloc (Zb _) _⟩
   ·cases hdx:Zr x
    ·have HR:=J (show Zy true r=(false,ByteArray.empty,0,false) by rw[Zy,Zd (by simp[ZS,HX.out,hdx])]);go_wp2_with (go_at_call 137;refine Zc (ZbJ _ _ (by unfold maxLen;omega)) ?_)
     exact bodyPost_ret (v:=ZJ) (by simp[ZJ,results,results104,go_sem]) rfl ⟨by rw[HR.out];rfl,(Ze _ _).alloc (Zb _) _⟩
    ·have hdy:Zr (⟨#[]⟩:ZB)=true:=rfl
     ·have hws:=Zeo r;rw[HX.out,HYE.out]at hws;obtain⟨z,hz⟩:=ZX (x++(⟨#[]⟩:ZB));rw[hz]at hws;have hzs:z.size<=180:=(by omega);have hys:((⟨#[]⟩:ZB):ZB).size<=180:=(by omega);clear hws;rcases(show z.size=0\/0<z.size by omega) with hz0|hz0
      ·have HR:=J (show Zy true r=(false,ByteArray.empty,0,false) by rw[Zy,Zd (by simp[ZS,HX.out,HYE.out,hz,hz0])]);have hze:=Zbb z hz0;rw[hze]at hz;clear hze;go_wp2_with (go_at_call 137;refine Zc (ZbJ _ _ (by unfold maxLen;omega)) ?_)
       exact bodyPost_ret (v:=ZJ) (by simp[ZJ,results,results104,go_sem]) rfl ⟨by rw[HR.out];rfl,(Ze _ _).alloc (Zb _) _⟩
      ·have hne:=ZcC z hz0;have hdz:Zr z=true:=(by rw[<-hz,ZcW,hdx,hdy];rfl);have hbad:ZS r=false:=(by rw[ZS,HX.out,HYE.out,hz,hdx,hdy,Zg (show ¬180<r.size by omega),Zg (show ¬z.size=0 by omega)];rfl);obtain⟨R,hR⟩:=ZX (Za5 true (Zw z.data.toList) ((⟨#[]⟩:ZB):ZB).size);have HR:=J (show Zy true r=R by rw[Zy,Za (by rw[hbad];simp),HX.out,HYE.out,hz,hR]);have HRR:=J hR;clear hbad hR;have HDZ:=J ((ZbD z).1 hdz);go_wp2_with (first|(go_at_call 137;refine Zc (ZbJ _ _ (by unfold maxLen;omega)) ?_)|fail)
       refine ZM (ZiI true z _ _ (by omega) HDZ.out (by omega) (by omega)) ?_;rintro w1 hb1;rw[show Za5 true (Zw z.data.toList) (0:Int).toNat=R from HRR.out];obtain⟨n9,s9,c9,o9⟩:=R;obtain⟨a0,a1,a2,a3⟩:=ZaC (Zbc w false ⟨#[]⟩ 0 _) hb1;obtain⟨f0,f1,f2⟩:=Zb3 hb1;have HC:=J (Zc4 hb1 (.bool n9) (.string s9) (I c9));have HB:=J (ZaA hb1);clear hb1 a0;simp only[Zil];go_wp2;obtain⟨c0,c1,c2⟩:=HC.out;exact bodyPost_ret (v:=.tuple #[.agg #[.bool n9,.string s9,I c9],.bool o9]) (by simp[results,results104,go_sem,c0,c1,c2]) rfl ⟨by rw[HR.out];rfl,Zat HB.out _ _ _⟩
  ·by_cases hd:(r[k].toNat:Int)=46
   ·have hdd:r[k]=46:=UInt8.toNat_inj.1 (by show _=(46:Nat);omega);have HDOT:=J (Zei r.data.toList k (by simp;omega) HN.out (.inr (by rw[Zv (by simpa using hks)];exact Zn some hdd)));have HW:=J (show Zbg r=r.extract 0 k by rw[Zbg,HDOT.out]);have HP:=J (show ZbV r=r.extract (k+1) r.size by rw[ZbV,HDOT.out]);obtain⟨x,hx⟩:=ZX (r.extract 0 k);obtain⟨y,hy⟩:=ZX (r.extract (k+1) r.size);have HX:=J (HW.out.trans hx);have HY:=J (HP.out.trans hy);clear HN HW HP HDOT hdd;have hxs:x.size<=1048576:=(by rw[<-hx];simp;omega);have hys0:y.size<=1048576:=(by rw[<-hy];simp;omega);rcases(show 180<r.size\/r.size<=180 by omega) with hbig|hbig
    ·have HR:=J (show Zy true r=(false,ByteArray.empty,0,false) by rw[Zy,Zd (by simp[ZS,hbig])]);go_wp2;exact bodyPost_ret (v:=ZJ) (by simp[ZJ,results,results104,go_sem]) rfl ⟨by rw[HR.out];rfl,(Ze _ _).alloc (Zb _) _⟩
    ·cases hdx:Zr x
     ·have HR:=J (show Zy true r=(false,ByteArray.empty,0,false) by rw[Zy,Zd (by simp[ZS,HX.out,hdx])]);go_wp2_with (go_at_call 137;refine Zc (ZbJ _ _ (by unfold maxLen;omega)) ?_)
      exact bodyPost_ret (v:=ZJ) (by simp[ZJ,results,results104,go_sem]) rfl ⟨by rw[HR.out];rfl,(Ze _ _).alloc (Zb _) _⟩
     ·cases hdy:Zr y
      ·have HR:=J (show Zy true r=(false,ByteArray.empty,0,false) by rw[Zy,Zd (by simp[ZS,HY.out,hdy])]);go_wp2_with (go_at_call 137;refine Zc (ZbJ _ _ (by unfold maxLen;omega)) ?_)
       exact bodyPost_ret (v:=ZJ) (by simp[ZJ,results,results104,go_sem]) rfl ⟨by rw[HR.out];rfl,(Ze _ _).alloc (Zb _) _⟩
      ·have hws:=Zeo r;rw[HX.out,HY.out]at hws;obtain⟨z,hz⟩:=ZX (x++y);rw[hz]at hws;have hzs:z.size<=180:=(by omega);have hys:(y:ZB).size<=180:=(by omega);clear hws;rcases(show z.size=0\/0<z.size by omega) with hz0|hz0
       ·have HR:=J (show Zy true r=(false,ByteArray.empty,0,false) by rw[Zy,Zd (by simp[ZS,HX.out,HY.out,hz,hz0])]);have hze:=Zbb z hz0;rw[hze]at hz;clear hze;go_wp2_with (go_at_call 137;refine Zc (ZbJ _ _ (by unfold maxLen;omega)) ?_)
        exact bodyPost_ret (v:=ZJ) (by simp[ZJ,results,results104,go_sem]) rfl ⟨by rw[HR.out];rfl,(Ze _ _).alloc (Zb _) _⟩
       ·have hne:=ZcC z hz0;have hdz:Zr z=true:=(by rw[<-hz,ZcW,hdx,hdy];rfl);have hbad:ZS r=false:=(by rw[ZS,HX.out,HY.out,hz,hdx,hdy,Zg (show ¬180<r.size by omega),Zg (show ¬z.size=0 by omega)];rfl);obtain⟨R,hR⟩:=ZX (Za5 true (Zw z.data.toList) (y:ZB).size);have HR:=J (show Zy true r=R by rw[Zy,Za (by rw[hbad];simp),HX.out,HY.out,hz,hR]);have HRR:=J hR;clear hbad hR;have HDZ:=J ((ZbD z).1 hdz);go_wp2_with (first|(go_at_call 137;refine Zc (ZbJ _ _ (by unfold maxLen;omega)) ?_)|fail)
        refine ZM (ZiI true z _ _ (by omega) HDZ.out (by omega) (by omega)) ?_;rintro w1 hb1;rw[show Za5 true (Zw z.data.toList) ((y.size:Int)).toNat=R from(by simpa using HRR.out)];obtain⟨n9,s9,c9,o9⟩:=R;obtain⟨a0,a1,a2,a3⟩:=ZaC (Zbc w false ⟨#[]⟩ 0 _) hb1;obtain⟨f0,f1,f2⟩:=Zb3 hb1;have HC:=J (Zc4 hb1 (.bool n9) (.string s9) (I c9));have HB:=J (ZaA hb1);clear hb1 a0;simp only[Zil];go_wp2;obtain⟨c0,c1,c2⟩:=HC.out;exact bodyPost_ret (v:=.tuple #[.agg #[.bool n9,.string s9,I c9],.bool o9]) (by simp[results,results104,go_sem,c0,c1,c2]) rfl ⟨by rw[HR.out];rfl,Zat HB.out _ _ _⟩
   ·have hdb:((r[k].toNat:Int) != 46)=true:=(by simpa using hd);have HN2:=J (show ∀j,j<k+1->r.data.toList[j]?≠some 46 from λj hj=>by
     by_cases e:j=k
     ·subst e;rw[Zv (by simpa using hks)];intro h2;have h3:r[j]=46:=Option.some.inj h2;rw[h3]at hd;exact hd rfl
     ·exact HN.out j (by omega))
    go_wp2
    go_round
    case rel=>exact⟨k+1,by go_num,by omega,HN2⟩
    case measure=>simp[Zi];omega
theorem ZtS(s:ZB)(w:World)(hs:s.size<=1048576)(h0:0<s.size)(h1:at8 s 0=43):Calls prog 104 #[.string s] w λe w'=>e=.returned (Zil (ZC s))/\ZL w w':=by
 have e1:Zhr s=false:=by simp[Zhr,h0,h1]
 have e2:ZcF s=s.extract 1 s.size:=by simp[ZcF,h0,h1]
 rw[ZaX s 0 h0]at h1;rw[ZC,e1,e2];obtain⟨r,hr⟩:=ZX (s.extract 1 s.size);have hrs:r.size<=1048576:=by rw[<-hr];simp;omega
 rw[hr];clear e1 e2;go_enter func104,ntmps104
 go_wp2
 go_loop [5] (λvi=>∃k:Nat,vi=I k/\k<=r.size/\Hid (∀j,j<k->r.data.toList[j]?≠some 46)) (λvi=>r.size-(Zi vi).toNat)
 case atStart=>exact⟨0,rfl,Zx _,J (λj h=>by omega)⟩
 case round=>
  obtain⟨k,rfl,hk,HN⟩:=hrel;rcases(show k=r.size\/k<r.size by omega) with hks|hks
  ·have HDOT:=J (Zei r.data.toList k (by simp;omega) HN.out (.inl (by simp;exact hks)));have HW:=J (show Zbg r=r.extract 0 k by rw[Zbg,HDOT.out]);have HP:=J (show ZbV r=⟨#[]⟩ by apply Zbb;simp[ZbV,HDOT.out];omega);obtain⟨x,hx⟩:=ZX (r.extract 0 k);have HX:=J (HW.out.trans hx);have hki:(k:Int)=(r.size:Int):=by omega
   have HKK:=J hks;subst hks;clear HN HW HDOT hki;have hxs:x.size<=1048576:=by rw[<-hx];simp;omega
   have HYE:=HP;rcases(show 180<r.size\/r.size<=180 by omega) with hbig|hbig
   ·have HR:=J (show Zy false r=(false,ByteArray.empty,0,false) by rw[Zy,Zd (by simp[ZS,hbig])]);go_wp2;exact bodyPost_ret (v:=ZJ) (by simp[ZJ,results,results104,go_sem]) rfl ⟨by rw[HR.out];rfl,(Ze _ _).alloc (Zb _) _⟩
   ·cases hdx:Zr x
    ·have HR:=J (show Zy false r=(false,ByteArray.empty,0,false) by rw[Zy,Zd (by simp[ZS,HX.out,hdx])]);go_wp2_with (go_at_call 137;refine Zc (ZbJ _ _ (by unfold maxLen;omega)) ?_)
     exact bodyPost_ret (v:=ZJ) (by simp[ZJ,results,results104,go_sem]) rfl ⟨by rw[HR.out];rfl,(Ze _ _).alloc (Zb _) _⟩
    ·have hdy:Zr (⟨#[]⟩:ZB)=true:=rfl
     ·have hws:=Zeo r;rw[HX.out,HYE.out]at hws;obtain⟨z,hz⟩:=ZX (x++(⟨#[]⟩:ZB));rw[hz]at hws;have hzs:z.size<=180:=(by omega);have hys:((⟨#[]⟩:ZB):ZB).size<=180:=(by omega);clear hws;rcases(show z.size=0\/0<z.size by omega) with hz0|hz0
      ·have HR:=J (show Zy false r=(false,ByteArray.empty,0,false) by rw[Zy,Zd (by simp[ZS,HX.out,HYE.out,hz,hz0])]);have hze:=Zbb z hz0;rw[hze]at hz;clear hze;go_wp2_with (go_at_call 137;refine Zc (ZbJ _ _ (by unfold maxLen;omega)) ?_)
       exact bodyPost_ret (v:=ZJ) (by simp[ZJ,results,results104,go_sem]) rfl ⟨by rw[HR.out];rfl,(Ze _ _).alloc (Zb _) _⟩
      ·have hne:=ZcC z hz0;have hdz:Zr z=true:=(by rw[<-hz,ZcW,hdx,hdy];rfl);have hbad:ZS r=false:=(by rw[ZS,HX.out,HYE.out,hz,hdx,hdy,Zg (show ¬180<r.size by omega),Zg (show ¬z.size=0 by omega)];rfl);obtain⟨R,hR⟩:=ZX (Za5 false (Zw z.data.toList) ((⟨#[]⟩:ZB):ZB).size);have HR:=J (show Zy false r=R by rw[Zy,Za (by rw[hbad];simp),HX.out,HYE.out,hz,hR]);have HRR:=J hR;clear hbad hR;have HDZ:=J ((ZbD z).1 hdz);go_wp2_with (first|(go_at_call 137;refine Zc (ZbJ _ _ (by unfold maxLen;omega)) ?_)|fail)
       refine ZM (ZiI false z _ _ (by omega) HDZ.out (by omega) (by omega)) ?_;rintro w1 hb1;rw[show Za5 false (Zw z.data.toList) (0:Int).toNat=R from HRR.out];obtain⟨n9,s9,c9,o9⟩:=R;obtain⟨a0,a1,a2,a3⟩:=ZaC (Zbc w false ⟨#[]⟩ 0 _) hb1;obtain⟨f0,f1,f2⟩:=Zb3 hb1;have HC:=J (Zc4 hb1 (.bool n9) (.string s9) (I c9));have HB:=J (ZaA hb1);clear hb1 a0;simp only[Zil];go_wp2;obtain⟨c0,c1,c2⟩:=HC.out;exact bodyPost_ret (v:=.tuple #[.agg #[.bool n9,.string s9,I c9],.bool o9]) (by simp[results,results104,go_sem,c0,c1,c2]) rfl ⟨by rw[HR.out];rfl,Zat HB.out _ _ _⟩
  ·by_cases hd:(r[k].toNat:Int)=46
   ·have hdd:r[k]=46:=UInt8.toNat_inj.1 (by show _=(46:Nat);omega);have HDOT:=J (Zei r.data.toList k (by simp;omega) HN.out (.inr (by rw[Zv (by simpa using hks)];exact Zn some hdd)));have HW:=J (show Zbg r=r.extract 0 k by rw[Zbg,HDOT.out]);have HP:=J (show ZbV r=r.extract (k+1) r.size by rw[ZbV,HDOT.out]);obtain⟨x,hx⟩:=ZX (r.extract 0 k);obtain⟨y,hy⟩:=ZX (r.extract (k+1) r.size);have HX:=J (HW.out.trans hx);have HY:=J (HP.out.trans hy);clear HN HW HP HDOT hdd;have hxs:x.size<=1048576:=(by rw[<-hx];simp;omega);have hys0:y.size<=1048576:=(by rw[<-hy];simp;omega);rcases(show 180<r.size\/r.size<=180 by omega) with hbig|hbig
    ·have HR:=J (show Zy false r=(false,ByteArray.empty,0,false) by rw[Zy,Zd (by simp[ZS,hbig])]);go_wp2;exact bodyPost_ret (v:=ZJ) (by simp[ZJ,results,results104,go_sem]) rfl ⟨by rw[HR.out];rfl,(Ze _ _).alloc (Zb _) _⟩
    ·cases hdx:Zr x
     ·have HR:=J (show Zy false r=(false,ByteArray.empty,0,false) by rw[Zy,Zd (by simp[ZS,HX.out,hdx])]);go_wp2_with (go_at_call 137;refine Zc (ZbJ _ _ (by unfold maxLen;omega)) ?_)
      exact bodyPost_ret (v:=ZJ) (by simp[ZJ,results,results104,go_sem]) rfl ⟨by rw[HR.out];rfl,(Ze _ _).alloc (Zb _) _⟩
     ·cases hdy:Zr y
      ·have HR:=J (show Zy false r=(false,ByteArray.empty,0,false) by rw[Zy,Zd (by simp[ZS,HY.out,hdy])]);go_wp2_with (go_at_call 137;refine Zc (ZbJ _ _ (by unfold maxLen;omega)) ?_)
       exact bodyPost_ret (v:=ZJ) (by simp[ZJ,results,results104,go_sem]) rfl ⟨by rw[HR.out];rfl,(Ze _ _).alloc (Zb _) _⟩
      ·have hws:=Zeo r;rw[HX.out,HY.out]at hws;obtain⟨z,hz⟩:=ZX (x++y);rw[hz]at hws;have hzs:z.size<=180:=(by omega);have hys:(y:ZB).size<=180:=(by omega);clear hws;rcases(show z.size=0\/0<z.size by omega) with hz0|hz0
       ·have HR:=J (show Zy false r=(false,ByteArray.empty,0,false) by rw[Zy,Zd (by simp[ZS,HX.out,HY.out,hz,hz0])]);have hze:=Zbb z hz0;rw[hze]at hz;clear hze;go_wp2_with (go_at_call 137;refine Zc (ZbJ _ _ (by unfold maxLen;omega)) ?_)
        exact bodyPost_ret (v:=ZJ) (by simp[ZJ,results,results104,go_sem]) rfl ⟨by rw[HR.out];rfl,(Ze _ _).alloc (Zb _) _⟩
       ·have hne:=ZcC z hz0;have hdz:Zr z=true:=(by rw[<-hz,ZcW,hdx,hdy];rfl);have hbad:ZS r=false:=(by rw[ZS,HX.out,HY.out,hz,hdx,hdy,Zg (show ¬180<r.size by omega),Zg (show ¬z.size=0 by omega)];rfl);obtain⟨R,hR⟩:=ZX (Za5 false (Zw z.data.toList) (y:ZB).size);have HR:=J (show Zy false r=R by rw[Zy,Za (by rw[hbad];simp),HX.out,HY.out,hz,hR]);have HRR:=J hR;clear hbad hR;have HDZ:=J ((ZbD z).1 hdz);go_wp2_with (first|(go_at_call 137;refine Zc (ZbJ _ _ (by unfold maxLen;omega)) ?_)|fail)
        refine ZM (ZiI false z _ _ (by omega) HDZ.out (by omega) (by omega)) ?_;rintro w1 hb1;rw[show Za5 false (Zw z.data.toList) ((y.size:Int)).toNat=R from(by simpa using HRR.out)];obtain⟨n9,s9,c9,o9⟩:=R;obtain⟨a0,a1,a2,a3⟩:=ZaC (Zbc w false ⟨#[]⟩ 0 _) hb1;obtain⟨f0,f1,f2⟩:=Zb3 hb1;have HC:=J (Zc4 hb1 (.bool n9) (.string s9) (I c9));have HB:=J (ZaA hb1);clear hb1 a0;simp only[Zil];go_wp2;obtain⟨c0,c1,c2⟩:=HC.out;exact bodyPost_ret (v:=.tuple #[.agg #[.bool n9,.string s9,I c9],.bool o9]) (by simp[results,results104,go_sem,c0,c1,c2]) rfl ⟨by rw[HR.out];rfl,Zat HB.out _ _ _⟩
   ·have hdb:((r[k].toNat:Int) != 46)=true:=(by simpa using hd);have HN2:=J (show ∀j,j<k+1->r.data.toList[j]?≠some 46 from λj hj=>by
     by_cases e:j=k
     ·subst e;rw[Zv (by simpa using hks)];intro h2;have h3:r[j]=46:=Option.some.inj h2;rw[h3]at hd;exact hd rfl
     ·exact HN.out j (by omega))
    go_wp2
    go_round
    case rel=>exact⟨k+1,by go_num,by omega,HN2⟩
    case measure=>simp[Zi];omega
theorem Zul(s:ZB)(w:World)(hs:s.size<=1048576)(h0:0<s.size)(h1:¬at8 s 0=45)(h2:¬at8 s 0=43):Calls prog 104 #[.string s] w λe w'=>e=.returned (Zil (ZC s))/\ZL w w':=by
 have e1:Zhr s=false:=by simp[Zhr,h1]
 have e2:ZcF s=s:=by simp[ZcF,h1,h2]
 rw[ZaX s 0 h0]at h1 h2;rw[ZC,e1,e2];clear e1 e2;obtain⟨r,rfl⟩:∃r,r=s:=⟨s,rfl⟩;have hrs:r.size<=1048576:=hs;have hb1:((r[0].toNat:Int)==45)=false:=by simpa using h1
 have hb2:((r[0].toNat:Int)==43)=false:=by simpa using h2
 go_enter func104,ntmps104
 go_wp2
 go_loop [5] (λvi=>∃k:Nat,vi=I k/\k<=r.size/\Hid (∀j,j<k->r.data.toList[j]?≠some 46)) (λvi=>r.size-(Zi vi).toNat)
 case atStart=>exact⟨0,rfl,Zx _,J (λj h=>by omega)⟩
 case round=>
  obtain⟨k,rfl,hk,HN⟩:=hrel;rcases(show k=r.size\/k<r.size by omega) with hks|hks
  ·have HDOT:=J (Zei r.data.toList k (by simp;omega) HN.out (.inl (by simp;exact hks)));have HW:=J (show Zbg r=r.extract 0 k by rw[Zbg,HDOT.out]);have HP:=J (show ZbV r=⟨#[]⟩ by apply Zbb;simp[ZbV,HDOT.out];omega);obtain⟨x,hx⟩:=ZX (r.extract 0 k);have HX:=J (HW.out.trans hx);have hki:(k:Int)=(r.size:Int):=by omega
   have HKK:=J hks;subst hks;clear HN HW HDOT hki;have hxs:x.size<=1048576:=by rw[<-hx];simp;omega
   have HYE:=HP;rcases(show 180<r.size\/r.size<=180 by omega) with hbig|hbig
   ·have HR:=J (show Zy false r=(false,ByteArray.empty,0,false) by rw[Zy,Zd (by simp[ZS,hbig])]);go_wp2;exact bodyPost_ret (v:=ZJ) (by simp[ZJ,results,results104,go_sem]) rfl ⟨by rw[HR.out];rfl,(Ze _ _).alloc (Zb _) _⟩
   ·cases hdx:Zr x
    ·have HR:=J (show Zy false r=(false,ByteArray.empty,0,false) by rw[Zy,Zd (by simp[ZS,HX.out,hdx])]);go_wp2_with (go_at_call 137;refine Zc (ZbJ _ _ (by unfold maxLen;omega)) ?_)
     exact bodyPost_ret (v:=ZJ) (by simp[ZJ,results,results104,go_sem]) rfl ⟨by rw[HR.out];rfl,(Ze _ _).alloc (Zb _) _⟩
    ·have hdy:Zr (⟨#[]⟩:ZB)=true:=rfl
     ·have hws:=Zeo r;rw[HX.out,HYE.out]at hws;obtain⟨z,hz⟩:=ZX (x++(⟨#[]⟩:ZB));rw[hz]at hws;have hzs:z.size<=180:=(by omega);have hys:((⟨#[]⟩:ZB):ZB).size<=180:=(by omega);clear hws;rcases(show z.size=0\/0<z.size by omega) with hz0|hz0
      ·have HR:=J (show Zy false r=(false,ByteArray.empty,0,false) by rw[Zy,Zd (by simp[ZS,HX.out,HYE.out,hz,hz0])]);have hze:=Zbb z hz0;rw[hze]at hz;clear hze;go_wp2_with (go_at_call 137;refine Zc (ZbJ _ _ (by unfold maxLen;omega)) ?_)
       exact bodyPost_ret (v:=ZJ) (by simp[ZJ,results,results104,go_sem]) rfl ⟨by rw[HR.out];rfl,(Ze _ _).alloc (Zb _) _⟩
      ·have hne:=ZcC z hz0;have hdz:Zr z=true:=(by rw[<-hz,ZcW,hdx,hdy];rfl);have hbad:ZS r=false:=(by rw[ZS,HX.out,HYE.out,hz,hdx,hdy,Zg (show ¬180<r.size by omega),Zg (show ¬z.size=0 by omega)];rfl);obtain⟨R,hR⟩:=ZX (Za5 false (Zw z.data.toList) ((⟨#[]⟩:ZB):ZB).size);have HR:=J (show Zy false r=R by rw[Zy,Za (by rw[hbad];simp),HX.out,HYE.out,hz,hR]);have HRR:=J hR;clear hbad hR;have HDZ:=J ((ZbD z).1 hdz);go_wp2_with (first|(go_at_call 137;refine Zc (ZbJ _ _ (by unfold maxLen;omega)) ?_)|fail)
       refine ZM (ZiI false z _ _ (by omega) HDZ.out (by omega) (by omega)) ?_;rintro w1 hb1;rw[show Za5 false (Zw z.data.toList) (0:Int).toNat=R from HRR.out];obtain⟨n9,s9,c9,o9⟩:=R;obtain⟨a0,a1,a2,a3⟩:=ZaC (Zbc w false ⟨#[]⟩ 0 _) hb1;obtain⟨f0,f1,f2⟩:=Zb3 hb1;have HC:=J (Zc4 hb1 (.bool n9) (.string s9) (I c9));have HB:=J (ZaA hb1);clear hb1 a0;simp only[Zil];go_wp2;obtain⟨c0,c1,c2⟩:=HC.out;exact bodyPost_ret (v:=.tuple #[.agg #[.bool n9,.string s9,I c9],.bool o9]) (by simp[results,results104,go_sem,c0,c1,c2]) rfl ⟨by rw[HR.out];rfl,Zat HB.out _ _ _⟩
  ·by_cases hd:(r[k].toNat:Int)=46
   ·have hdd:r[k]=46:=UInt8.toNat_inj.1 (by show _=(46:Nat);omega);have HDOT:=J (Zei r.data.toList k (by simp;omega) HN.out (.inr (by rw[Zv (by simpa using hks)];exact Zn some hdd)));have HW:=J (show Zbg r=r.extract 0 k by rw[Zbg,HDOT.out]);have HP:=J (show ZbV r=r.extract (k+1) r.size by rw[ZbV,HDOT.out]);obtain⟨x,hx⟩:=ZX (r.extract 0 k);obtain⟨y,hy⟩:=ZX (r.extract (k+1) r.size);have HX:=J (HW.out.trans hx);have HY:=J (HP.out.trans hy);clear HN HW HP HDOT hdd;have hxs:x.size<=1048576:=(by rw[<-hx];simp;omega);have hys0:y.size<=1048576:=(by rw[<-hy];simp;omega);rcases(show 180<r.size\/r.size<=180 by omega) with hbig|hbig
    ·have HR:=J (show Zy false r=(false,ByteArray.empty,0,false) by rw[Zy,Zd (by simp[ZS,hbig])]);go_wp2;exact bodyPost_ret (v:=ZJ) (by simp[ZJ,results,results104,go_sem]) rfl ⟨by rw[HR.out];rfl,(Ze _ _).alloc (Zb _) _⟩
    ·cases hdx:Zr x
     ·have HR:=J (show Zy false r=(false,ByteArray.empty,0,false) by rw[Zy,Zd (by simp[ZS,HX.out,hdx])]);go_wp2_with (go_at_call 137;refine Zc (ZbJ _ _ (by unfold maxLen;omega)) ?_)
      exact bodyPost_ret (v:=ZJ) (by simp[ZJ,results,results104,go_sem]) rfl ⟨by rw[HR.out];rfl,(Ze _ _).alloc (Zb _) _⟩
     ·cases hdy:Zr y
      ·have HR:=J (show Zy false r=(false,ByteArray.empty,0,false) by rw[Zy,Zd (by simp[ZS,HY.out,hdy])]);go_wp2_with (go_at_call 137;refine Zc (ZbJ _ _ (by unfold maxLen;omega)) ?_)
       exact bodyPost_ret (v:=ZJ) (by simp[ZJ,results,results104,go_sem]) rfl ⟨by rw[HR.out];rfl,(Ze _ _).alloc (Zb _) _⟩
      ·have hws:=Zeo r;rw[HX.out,HY.out]at hws;obtain⟨z,hz⟩:=ZX (x++y);rw[hz]at hws;have hzs:z.size<=180:=(by omega);have hys:(y:ZB).size<=180:=(by omega);clear hws;rcases(show z.size=0\/0<z.size by omega) with hz0|hz0
       ·have HR:=J (show Zy false r=(false,ByteArray.empty,0,false) by rw[Zy,Zd (by simp[ZS,HX.out,HY.out,hz,hz0])]);have hze:=Zbb z hz0;rw[hze]at hz;clear hze;go_wp2_with (go_at_call 137;refine Zc (ZbJ _ _ (by unfold maxLen;omega)) ?_)
        exact bodyPost_ret (v:=ZJ) (by simp[ZJ,results,results104,go_sem]) rfl ⟨by rw[HR.out];rfl,(Ze _ _).alloc (Zb _) _⟩
       ·have hne:=ZcC z hz0;have hdz:Zr z=true:=(by rw[<-hz,ZcW,hdx,hdy];rfl);have hbad:ZS r=false:=(by rw[ZS,HX.out,HY.out,hz,hdx,hdy,Zg (show ¬180<r.size by omega),Zg (show ¬z.size=0 by omega)];rfl);obtain⟨R,hR⟩:=ZX (Za5 false (Zw z.data.toList) (y:ZB).size);have HR:=J (show Zy false r=R by rw[Zy,Za (by rw[hbad];simp),HX.out,HY.out,hz,hR]);have HRR:=J hR;clear hbad hR;have HDZ:=J ((ZbD z).1 hdz);go_wp2_with (first|(go_at_call 137;refine Zc (ZbJ _ _ (by unfold maxLen;omega)) ?_)|fail)
        refine ZM (ZiI false z _ _ (by omega) HDZ.out (by omega) (by omega)) ?_;rintro w1 hb1;rw[show Za5 false (Zw z.data.toList) ((y.size:Int)).toNat=R from(by simpa using HRR.out)];obtain⟨n9,s9,c9,o9⟩:=R;obtain⟨a0,a1,a2,a3⟩:=ZaC (Zbc w false ⟨#[]⟩ 0 _) hb1;obtain⟨f0,f1,f2⟩:=Zb3 hb1;have HC:=J (Zc4 hb1 (.bool n9) (.string s9) (I c9));have HB:=J (ZaA hb1);clear hb1 a0;simp only[Zil];go_wp2;obtain⟨c0,c1,c2⟩:=HC.out;exact bodyPost_ret (v:=.tuple #[.agg #[.bool n9,.string s9,I c9],.bool o9]) (by simp[results,results104,go_sem,c0,c1,c2]) rfl ⟨by rw[HR.out];rfl,Zat HB.out _ _ _⟩
   ·have hdb:((r[k].toNat:Int) != 46)=true:=(by simpa using hd);have HN2:=J (show ∀j,j<k+1->r.data.toList[j]?≠some 46 from λj hj=>by
     by_cases e:j=k
     ·subst e;rw[Zv (by simpa using hks)];intro h2;have h3:r[j]=46:=Option.some.inj h2;rw[h3]at hd;exact hd rfl
     ·exact HN.out j (by omega))
    go_wp2
    go_round
    case rel=>exact⟨k+1,by go_num,by omega,HN2⟩
    case measure=>simp[Zi];omega
theorem ZpM:ZC (⟨#[]⟩:ZB)=(false,ByteArray.empty,0,false):=by
 have h:ZS (⟨#[]⟩:ZB)=true:=by
  have e1:Zbg (⟨#[]⟩:ZB)=⟨#[]⟩:=Zbb _ (by simp[Zbg,ByteArray.size]);have e2:ZbV (⟨#[]⟩:ZB)=⟨#[]⟩:=Zbb _ (by simp[ZbV,ByteArray.size]);rw[ZS,e1,e2];rfl
 have h2:ZcF (⟨#[]⟩:ZB)=⟨#[]⟩:=by simp[ZcF,ByteArray.size]
 rw[ZC,Zy,h2,Zd h]
theorem Zt2(s:ZB)(w:World)(hs:s.size<=1048576)(h0:s.size=0):Calls prog 104 #[.string s] w λe w'=>e=.returned (Zil (ZC s))/\ZL w w':=by
 have:=Zbb s h0;subst this;rw[ZpM];have hdx:Zr (⟨#[]⟩:ZB)=true:=rfl;go_enter func104,ntmps104
 go_wp2
 go_loop [5] (λvi=>vi=I 0) (λ_=>0)
 case atStart=>rfl
 case round=>
  subst hrel;go_wp2_with (go_at_call 137;refine Zc (ZbJ _ _ (by simp[maxLen,ByteArray.size])) ?_)
  exact bodyPost_ret (v:=ZJ) (by simp[ZJ,results,results104,go_sem]) rfl ⟨rfl,(Ze _ _).alloc (Zb _) _⟩
theorem Zq0(s:ZB)(w:World)(hs:s.size<=1048576):Calls prog 104 #[.string s] w λe w'=>e=.returned (Zil (ZC s))/\ZL w w':=by
 rcases(show(0<s.size/\at8 s 0=45)\/(0<s.size/\at8 s 0=43)\/(0<s.size/\¬at8 s 0=45/\¬at8 s 0=43)\/s.size=0 by omega) with ⟨h0,h1⟩|⟨h0,h1⟩|⟨h0,h1,h2⟩|h0
 ·exact ZtZ s w hs h0 h1
 ·exact ZtS s w hs h0 h1
 ·exact Zul s w hs h0 h1 h2
 ·exact Zt2 s w hs h0
theorem Zml(n:Bool)(v c:Nat):(Za5 n v c).2.1.size<=60:=by
 unfold Za5;split
 ·exact Zx _
 ·split
  ·rename_i h;have e:(⟨(Zfj (Z7 v c).1).toArray⟩:ZB).size=(Zfj (Z7 v c).1).length:=by show(Zfj (Z7 v c).1).toArray.size=_;simp
   rw[e];exact h.1
  ·exact Zx _
theorem ZdY(s:ZB):(ZC s).2.1.size<=60:=by
 unfold ZC Zy;split
 ·exact Zx _
 ·exact Zml _ _ _
def ZAs(w:World)(B:Nat)(n:Bool)(s:ZB)(c:Int):Prop:=∃T,w.heap[B]?=some (.cells #[.bool n,.string s,I c] T (0,0))
theorem ZwZ{w:World}{B:Nat}{n:Bool}{s:ZB}{c:Int}(h:ZAs w B n s c):B<w.heap.size:=by
 obtain⟨T,h⟩:=h;exact(Array.getElem?_eq_some_iff.1 h).1
theorem ZfP(w:World)(n:Bool)(s:ZB)(c:Int)(T:TypeId):ZAs (w.alloc (.cells #[.bool n,.string s,I c] T)) w.heap.size n s c:=⟨T,Zz w _⟩
theorem Zfd{w w1:World}{B:Nat}{n:Bool}{s:ZB}{c:Int}(h:ZAs w B n s c)(k:ZL w w1):ZAs w1 B n s c:=by
 have hl:=ZwZ h;obtain⟨T,h⟩:=h;exact⟨T,(k.block B hl).trans h⟩
theorem ZdU{w:World}{B:Nat}{n:Bool}{s:ZB}{c:Int}(h:ZAs w B n s c):
  (w.cell? ⟨B,0,none⟩=some (.bool n)/\w.cell? ⟨B,1,none⟩=some (.string s)/\w.cell? ⟨B,2,none⟩=some (I c))/\(w.frozen? ⟨B,0,none⟩=false/\w.frozen? ⟨B,1,none⟩=false/\w.frozen? ⟨B,2,none⟩=false):=by
 obtain⟨T,h⟩:=h;exact⟨⟨by rw[ZO w B 0 _ T (0,0) h];rfl,by rw[ZO w B 1 _ T (0,0) h];rfl,by rw[ZO w B 2 _ T (0,0) h];rfl⟩,ZEm w B 0 _ T h,ZEm w B 1 _ T h,ZEm w B 2 _ T h⟩
end
end Go.Proofs.YtcdnilpdohknfaaGreatDoor
