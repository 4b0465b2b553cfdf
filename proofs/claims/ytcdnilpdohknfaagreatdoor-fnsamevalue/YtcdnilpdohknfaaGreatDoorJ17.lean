import Derived.Test.YtcdnilpdohknfaaGreatDoorJ14
import Derived.Test.YtcdnilpdohknfaaGreatDoorJ15
set_option linter.unusedVariables false
set_option linter.unusedSimpArgs false
set_option maxRecDepth 100000
set_option maxHeartbeats 16000000
namespace Go.Proofs.YtcdnilpdohknfaaGreatDoor
open Tryz
section
open Go.RowKit Go.Joins
def lv(o:Option ((Int×Int)×List Int)):Option (Value×List Int):=o.map λp=>(.tuple #[I p.1.1,I p.1.2],p.2)
theorem Zvl{S:Nat->Prop}{B R:Nat}{u:List Int}{X:List Nd}{w:World}{n:Int}{r:List Int}(hn:nmP u=some (n,r))(h:RD S B R w u X):Calls prog 305 #[.pointer (some ⟨R,0,none⟩)] w λe w'=>e=.returned (I n)/\RD S B R w' r X/\Kp (λj=>j=R) w w':=by
 have:=Zof B R u X w h;rw[hn]at this;exact this
theorem ZvU{S:Nat->Prop}{B R:Nat}{u:List Int}{X:List Nd}{w:World}(hn:nmP u=none)(h:RD S B R w u X):Calls prog 305 #[.pointer (some ⟨R,0,none⟩)] w (ZlQ B w):=by
 have:=Zof B R u X w h;rw[hn]at this;exact this
theorem ZnK{S:Nat->Prop}(B R:Nat)(u:List Int)(X:List Nd)(w:World)(h:RD S B R w u X):Calls prog 296 #[.pointer (some ⟨R,0,none⟩)] w (PvA S B R w X (lv (lmP u))):=by
 have H0:=J h;rcases hn:nmP u with _|⟨n,r⟩
 ·have e:lmP u=none:=by unfold lmP;rw[hn]
  rw[e];have HA:=J (ZvU hn h);clear h hn e;go_enter func296,ntmps296
  go_wp2_with fail
  refine HA.out.mono ?_;rintro e w2 ⟨⟨tv,v,rfl⟩,k2⟩;have K2:=J k2;clear k2;go_wp2;exact⟨rfl,⟨_,_,rfl⟩,K2.out⟩
 ·have HA:=J (Zvl hn h);have E0:Hid (lmP u=if r.head?=some 125 then some ((n,n),r.tail) else if r.head?=some 44 then (if r.tail.head?=some 125 then some ((n,-1),r.tail.tail) else match nmP r.tail with
   |none=>none
   |some (m,r2)=>if r2.head?=some 125 then some ((n,m),r2.tail) else none)
  else none):=J (by unfold lmP;rw[hn];rfl)
  clear h hn;go_enter func296,ntmps296
  go_wp2_with fail
  refine ZM HA.out ?_;rintro w1 ⟨h1,k1⟩;have K1:=J k1;clear HA k1;by_cases e1:r.head?=some 125
  ·obtain⟨q,rfl⟩:∃q,r=125::q:=⟨_,ZaH e1⟩;have HT:=J (Zco B R 125 q X w1 h1);have E1:Hid (lmP u=some ((n,n),q)):=J (by rw[E0.out,Zd e1];rfl);clear h1 E0 e1;go_wp2_with fail
   refine ZM HT.out ?_;rintro w2 ⟨h2,k2⟩;have H2:=J h2;have K2:=J (ZjH K1.out k2);clear h2 k2 HT;go_wp2;go_ret2;rw[E1.out];exact⟨rfl,H2.out,K2.out⟩
  ·have HT:=J (Zb4 B R 125 r X w1 h1 e1);by_cases e2:r.head?=some 44
   ·obtain⟨q,rfl⟩:∃q,r=44::q:=⟨_,ZaH e2⟩;have HM:=J (Zl8 B R 44 q X w1 h1);have E1:Hid (lmP u=if q.head?=some 125 then some ((n,-1),q.tail) else match nmP q with
     |none=>none
     |some (m,r2)=>if r2.head?=some 125 then some ((n,m),r2.tail) else none):=J (by rw[E0.out,Za e1,Zd e2];rfl)
    clear h1 E0 e1 e2;go_wp2_with (go_at_call 259;refine Zc HT.out ?_)
    refine ZM HM.out ?_;rintro w2 ⟨h2,k2⟩;have K2:=J (ZjH K1.out k2);clear k2 HM HT;by_cases e3:q.head?=some 125
    ·obtain⟨q2,rfl⟩:∃q2,q=125::q2:=⟨_,ZaH e3⟩;have HT:=J (Zco B R 125 q2 X w2 h2);have E2:Hid (lmP u=some ((n,-1),q2)):=J (by rw[E1.out,Zd e3];rfl);clear h2 E1 e3;go_wp2_with fail
     refine ZM HT.out ?_;rintro w3 ⟨h3,k3⟩;have H3:=J h3;have K3:=J (ZjH K2.out k3);clear h3 k3 HT;go_wp2;go_ret2;rw[E2.out];exact⟨rfl,H3.out,K3.out⟩
    ·have HT:=J (Zb4 B R 125 q X w2 h2 e3);have E2:Hid (lmP u=match nmP q with
     |none=>none
     |some (m,r2)=>if r2.head?=some 125 then some ((n,m),r2.tail) else none):=J (by rw[E1.out,Za e3])
     clear E1 e3;rcases hn2:nmP q with _|⟨m,r2⟩
     ·have E3:Hid (lmP u=none):=J (by rw[E2.out,hn2]);have HA:=J (ZvU hn2 h2);clear h2 hn2 E2;go_wp2_with (go_at_call 259;refine Zc HT.out ?_)
      refine HA.out.mono ?_;rintro e w3 ⟨⟨tv,v,rfl⟩,k3⟩;have K3:=J (Zhx H0.out K2.out ⟨⟨tv,v,rfl⟩,k3⟩);clear k3;go_wp2;rw[E3.out];exact⟨rfl,K3.out⟩
     ·have HA:=J (Zvl hn2 h2);have E3:Hid (lmP u=if r2.head?=some 125 then some ((n,m),r2.tail) else none):=J (by rw[E2.out,hn2]);clear h2 hn2 E2;go_wp2_with (go_at_call 259;refine Zc HT.out ?_)
      refine ZM HA.out ?_;rintro w3 ⟨h3,k3⟩;have K3:=J (ZjH K2.out k3);clear k3 HA HT;by_cases e4:r2.head?=some 125
      ·obtain⟨q2,rfl⟩:∃q2,r2=125::q2:=⟨_,ZaH e4⟩;have HM:=J (Zl8 B R 125 q2 X w3 h3);have E4:Hid (lmP u=some ((n,m),q2)):=J (by rw[E3.out,Zd e4];rfl);clear h3 E3 e4;go_wp2_with fail
       refine ZM HM.out ?_;rintro w4 ⟨h4,k4⟩;have H4:=J h4;have K4:=J (ZjH K3.out k4);clear h4 k4 HM;go_wp2;go_ret2;rw[E4.out];exact⟨rfl,H4.out,K4.out⟩
      ·have HM:=J (Zmf B R 125 r2 X w3 h3 e4);have E4:Hid (lmP u=none):=J (by rw[E3.out,Za e4]);clear h3 E3 e4;go_wp2_with fail
       refine HM.out.mono ?_;rintro e w4 ⟨⟨tv,v,rfl⟩,k4⟩;have K4:=J (Zhx H0.out K3.out ⟨⟨tv,v,rfl⟩,k4⟩);clear k4;go_wp2;rw[E4.out];exact⟨rfl,K4.out⟩
   ·have HM:=J (Zmf B R 44 r X w1 h1 e2);have E1:Hid (lmP u=none):=J (by rw[E0.out,Za e1,Za e2]);clear h1 E0 e1 e2;go_wp2_with (go_at_call 259;refine Zc HT.out ?_)
    refine HM.out.mono ?_;rintro e w4 ⟨⟨tv,v,rfl⟩,k4⟩;have K4:=J (Zhx H0.out K1.out ⟨⟨tv,v,rfl⟩,k4⟩);clear k4;go_wp2;rw[E1.out];exact⟨rfl,K4.out⟩
theorem Zk6{S:Nat->Prop}(B R:Nat)(u:List Int)(X:List Nd)(w:World)(h:RD S B R w u X):Calls prog 308 #[.pointer (some ⟨R,0,none⟩)] w (PvA S B R w X (iv (esP u))):=by
 have H0:=J h;cases u with
 |nil=>
  have HA:=J (ZjQ B R X w h);clear h;go_enter func308,ntmps308
  go_wp2_with fail
  refine HA.out.mono ?_;rintro e w2 ⟨⟨tv,v,rfl⟩,k2⟩;have K2:=J k2;clear k2;go_wp2;exact⟨rfl,⟨_,_,rfl⟩,K2.out⟩
 |cons c r=>
  have hc:=ZwS h c (by simp);have HA:=J (ZgN B R c r X w h);clear h;by_cases e1:c=110
  ·subst e1;go_enter func308,ntmps308
   go_wp2_with fail
   refine ZM HA.out ?_;rintro w1 ⟨h1,k1⟩;have H1:=J h1;have K1:=J k1;clear h1 k1 HA;go_wp2;go_ret;exact⟨rfl,H1.out,K1.out⟩
  ·by_cases e2:c=114
   ·subst e2;go_enter func308,ntmps308
    go_wp2_with fail
    refine ZM HA.out ?_;rintro w1 ⟨h1,k1⟩;have H1:=J h1;have K1:=J k1;clear h1 k1 HA;go_wp2;go_ret;exact⟨rfl,H1.out,K1.out⟩
   ·by_cases e3:c=116
    ·subst e3;go_enter func308,ntmps308
     go_wp2_with fail
     refine ZM HA.out ?_;rintro w1 ⟨h1,k1⟩;have H1:=J h1;have K1:=J k1;clear h1 k1 HA;go_wp2;go_ret;exact⟨rfl,H1.out,K1.out⟩
    ·have b1:(c==110)=false:=(by simp[e1]);have b2:(c==114)=false:=(by simp[e2]);have b3:(c==116)=false:=(by simp[e3]);have E0:Hid (esP (c::r)=if isS sgE c=true then some (c,r) else none):=J (by rw[esP,Za e1,Za e2,Za e3]);have HS:=J (λW=>ZyK c W hc);obtain⟨q,hq⟩:=ZX (isS sgE c);rw[hq]at HS E0;clear e1 e2 e3 hq hc;go_enter func308,ntmps308
     go_wp2_with fail
     refine ZM HA.out ?_;rintro w1 ⟨h1,k1⟩;have H1:=J h1;have K1:=J k1;clear h1 k1 HA;go_wp2_with fail
     refine ZM (HS.out _) ?_;rintro w2 hb2;have H2:=J (ZAY H1.out hb2);have K2:=J (ZjH K1.out (ZzA hb2 (Zb _)));clear hb2;cases q
     ·have E1:Hid (esP (c::r)=none):=J (by rw[E0.out];rfl);go_wp2_with fail
      refine(Zfu B _ _).mono ?_;rintro e w3 ⟨⟨tv,v,rfl⟩,k3⟩;have K3:=J (Zhx H0.out K2.out ⟨⟨tv,v,rfl⟩,k3⟩);clear k3;go_wp2;rw[E1.out];exact⟨rfl,K3.out⟩
     ·have E1:Hid (esP (c::r)=some (c,r)):=J (by rw[E0.out];rfl);go_wp2_with (go_at_call 222;refine Zc (Zfx _ _) ?_)
      go_ret;rw[E1.out];exact⟨rfl,H2.out,K2.out⟩
theorem ZvR{S:Nat->Prop}{B R:Nat}{u:List Int}{X:List Nd}{w:World}{n:Int}{r:List Int}(hn:esP u=some (n,r))(h:RD S B R w u X):Calls prog 308 #[.pointer (some ⟨R,0,none⟩)] w λe w'=>e=.returned (I n)/\RD S B R w' r X/\Kp (λj=>j=R) w w':=by
 have:=Zk6 B R u X w h;rw[hn]at this;exact this
theorem ZrW{S:Nat->Prop}{B R:Nat}{u:List Int}{X:List Nd}{w:World}(hn:esP u=none)(h:RD S B R w u X):Calls prog 308 #[.pointer (some ⟨R,0,none⟩)] w (ZlQ B w):=by
 have:=Zk6 B R u X w h;rw[hn]at this;exact this
theorem Zwv{S:Nat->Prop}(B R:Nat)(u:List Int)(X:List Nd)(w:World)(h:RD S B R w u X):Calls prog 306 #[.pointer (some ⟨R,0,none⟩)] w (PvA S B R w X (iv (inP u))):=by
 have H0:=J h;cases u with
 |nil=>
  have HT:=J (Zb4 B R 92 [] X w h (by simp));have HA:=J (ZjQ B R X w h);clear h;go_enter func306,ntmps306
  go_wp2_with (go_at_call 259;refine Zc HT.out ?_)
  refine HA.out.mono ?_;rintro e w2 ⟨⟨tv,v,rfl⟩,k2⟩;have K2:=J k2;clear k2;go_wp2;exact⟨rfl,⟨_,_,rfl⟩,K2.out⟩
 |cons c r=>
  by_cases e1:c=92
  ·subst e1;have E0:Hid (inP (92::r)=esP r):=J (by rw[inP,Zd rfl]);have HT:=J (Zco B R 92 r X w h);clear h;go_enter func306,ntmps306
   go_wp2_with fail
   refine ZM HT.out ?_;rintro w1 ⟨h1,k1⟩;have K1:=J k1;clear k1 HT;rcases hn:esP r with _|⟨d,r2⟩
   ·have HE:=J (ZrW hn h1);have E1:Hid (inP (92::r)=none):=J (by rw[E0.out,hn]);clear h1 hn E0;go_wp2_with fail
    refine HE.out.mono ?_;rintro e w3 ⟨⟨tv,v,rfl⟩,k3⟩;have K3:=J (Zhx H0.out K1.out ⟨⟨tv,v,rfl⟩,k3⟩);clear k3;go_wp2;rw[E1.out];exact⟨rfl,K3.out⟩
   ·have HE:=J (ZvR hn h1);have E1:Hid (inP (92::r)=some (d,r2)):=J (by rw[E0.out,hn]);clear h1 hn E0;go_wp2_with fail
    refine ZM HE.out ?_;rintro w3 ⟨h3,k3⟩;have H3:=J h3;have K3:=J (ZjH K1.out k3);clear h3 k3;go_wp2;go_ret;rw[E1.out];exact⟨rfl,H3.out,K3.out⟩
  ·have hc:=ZwS h c (by simp);have HT:=J (Zb4 B R 92 (c::r) X w h (by simp[e1]));have HA:=J (ZgN B R c r X w h);have E0:Hid (inP (c::r)=if isS sgI c=true then none else some (c,r)):=J (by rw[inP,Za e1]);have HS:=J (λW=>Zxj c W hc);obtain⟨q,hq⟩:=ZX (isS sgI c);rw[hq]at HS E0;clear e1 hq hc h;go_enter func306,ntmps306
   go_wp2_with (go_at_call 259;refine Zc HT.out ?_)
   refine ZM HA.out ?_;rintro w1 ⟨h1,k1⟩;have H1:=J h1;have K1:=J k1;clear h1 k1 HA;go_wp2_with fail
   refine ZM (HS.out _) ?_;rintro w2 hb2;have H2:=J (ZAY H1.out hb2);have K2:=J (ZjH K1.out (ZzA hb2 (Zb _)));clear hb2;cases q
   ·have E1:Hid (inP (c::r)=some (c,r)):=J (by rw[E0.out];rfl);go_wp2_with (go_at_call 222;refine Zc (Zfx _ _) ?_)
    go_ret;rw[E1.out];exact⟨rfl,H2.out,K2.out⟩
   ·have E1:Hid (inP (c::r)=none):=J (by rw[E0.out];rfl);go_wp2_with fail
    refine(Zfu B _ _).mono ?_;rintro e w3 ⟨⟨tv,v,rfl⟩,k3⟩;have K3:=J (Zhx H0.out K2.out ⟨⟨tv,v,rfl⟩,k3⟩);clear k3;go_wp2;rw[E1.out];exact⟨rfl,K3.out⟩
theorem ZAd{S:Nat->Prop}{B R:Nat}{u:List Int}{X:List Nd}{w:World}{n:Int}{r:List Int}(hn:inP u=some (n,r))(h:RD S B R w u X):Calls prog 306 #[.pointer (some ⟨R,0,none⟩)] w λe w'=>e=.returned (I n)/\RD S B R w' r X/\Kp (λj=>j=R) w w':=by
 have:=Zwv B R u X w h;rw[hn]at this;exact this
theorem ZAg{S:Nat->Prop}{B R:Nat}{u:List Int}{X:List Nd}{w:World}(hn:inP u=none)(h:RD S B R w u X):Calls prog 306 #[.pointer (some ⟨R,0,none⟩)] w (ZlQ B w):=by
 have:=Zwv B R u X w h;rw[hn]at this;exact this
end
section
open Go.RowKit
theorem ZgC(n:Nat):(madeCells (Value.bool false).cells (n*1)).toList=(List.replicate n false).map Value.bool:=by
 rw[show(Value.bool false).cells=#[Value.bool false] from rfl,toList_madeCells_one];simp
theorem Zvg(n b:Nat):(List.replicate n false)[b]?.getD false=false:=by
 rw[List.getElem?_replicate];split<;>rfl
theorem ZBQ{R:Nat->Nat->Prop}(hR:∀a b,R a b->a<=b):∀(k i j:Nat),cnR R k i j->i<=j
 |0,i,j,e=>Nat.le_of_eq e
 |k+1,i,j,⟨m,h1,h2⟩=>ZDA (hR _ _ h1) (ZBQ hR k m j h2)
theorem ZmS(X:Rx)(c:Nat->Nat->Bool):∀(m n i j:Nat),n<m->tkX X c n i j->i<=j
 |0,n,i,j,h,_=>by omega
 |m+1,n,i,j,h,ht=>by
  rw[tkX]at ht;split at ht
  ·have:=ht.1;omega
  ·split at ht
   ·split at ht
    ·rename_i hh;obtain⟨k,h1,h2⟩:=ht;have q1:=ZmS X c m _ _ _ (by omega) h1;have q2:=ZmS X c m _ _ _ (by omega) h2;omega
    ·exact ht.elim
   ·split at ht
    ·split at ht
     ·rename_i hh;rcases ht with h1|h1
      ·exact ZmS X c m _ _ _ (by omega) h1
      ·exact ZmS X c m _ _ _ (by omega) h1
     ·exact ht.elim
    ·split at ht
     ·split at ht
      ·rename_i hh;obtain⟨k,-,-,h1⟩:=ht;exact ZBQ (λa b hab=>ZmS X c m _ a b (by omega) hab) k i j h1
      ·exact ht.elim
     ·exact Nat.le_of_eq ht
theorem Zhb{f g h:List Bool}{m:Nat}{R R':Nat->Nat->Prop}(hR:∀a b,R' a b->a<=b)(h1:Fwd f g m R)(h2:Fwd g h m R'):Fwd f h m (λa b=>∃k,R a k/\R' k b):=λb hb=>by
 rw[h2 b hb];constructor
 ·rintro ⟨k,hk,hg,hr⟩;obtain⟨a,ha,hf,hr2⟩:=(h1 k hk).1 hg;exact⟨a,ha,hf,k,hr2,hr⟩
 ·rintro ⟨a,ha,hf,k,hr2,hr⟩;have hk:k<=m:=ZDA (hR _ _ hr) hb;exact⟨k,hk,(h1 k hk).2 ⟨a,ha,hf,hr2⟩,hr⟩
theorem Zv4(f:List Bool)(m:Nat):Fwd f f m (λa b=>a=b):=λb hb=>by
 constructor
 ·intro h;exact⟨b,hb,h,rfl⟩
 ·rintro ⟨a,-,h,rfl⟩;exact h
def Zzb(G H G':List Bool)(m j:Nat):Prop:=∀b,b<=m->G'[b]?.getD false=if b<j then (G[b]?.getD false||H[b]?.getD false) else G[b]?.getD false
theorem ZkA(G H:List Bool)(m:Nat):Zzb G H G m 0:=λb hb=>by rw[Za (by omega)]
theorem ZkH{G H G':List Bool}{m j:Nat}(h:Zzb G H G' m j)(hl:G'.length=m+1)(hj:j<=m):Zzb G H (G'.set j (G'[j]?.getD false||H[j]?.getD false)) m (j+1):=λb hb=>by
 rw[ZnR _ _ _ (by omega)];by_cases e:b=j
 ·subst e;rw[Zd rfl,Zd (by omega),h b hb,Za (by omega)]
 ·rw[Za e,h b hb];by_cases hlt:b<j
  ·rw[Zd hlt,Zd (by omega)]
  ·rw[Za hlt,Za (by omega)]
theorem Zlz{G H G':List Bool}{m:Nat}(h:Zzb G H G' m (m+1)):∀b,b<=m->(G'[b]?.getD false=true↔G[b]?.getD false=true\/H[b]?.getD false=true):=λb hb=>by
 rw[h b hb,Zd (by omega)];simp
def moB(N O:List Bool)(j:Nat):Bool:=(List.range j).any λb=>N[b]?.getD false && !(O[b]?.getD false)
theorem Znu(N O:List Bool)(j:Nat):moB N O (j+1)=(moB N O j||(N[j]?.getD false && !(O[j]?.getD false))):=by
 unfold moB;rw[List.range_succ,List.any_append];simp
theorem ZmN{N O:List Bool}{j:Nat}:moB N O j=true↔∃b,b<j/\N[b]?.getD false=true/\O[b]?.getD false=false:=by
 unfold moB;rw[List.any_eq_true];constructor
 ·rintro ⟨b,h1,h2⟩;simp only[ZW,Bool.not_eq_true']at h2;exact⟨b,by simpa using h1,h2⟩
 ·rintro ⟨b,h1,h2,h3⟩;exact⟨b,by simpa using h1,by simp[h2,h3]⟩
def uS(R:Nat->Nat->Prop)(q t:Nat)(a b:Nat):Prop:=∃u,u<=t/\cnR R (q+u) a b
def CtS(mx:Int)(q:Nat)(R:Nat->Nat->Prop)(f O N:List Bool)(m t:Nat):Prop:=Fwd f O m (uS R q t)/\(mx = -1->Fwd f N m (uS R q t))/\(mx≠-1->Fwd f N m (cnR R (q+t)))
theorem Zrk(R:Nat->Nat->Prop)(q a b:Nat):cnR R q a b↔uS R q 0 a b:=by
 constructor
 ·intro h;exact⟨0,Zb _,h⟩
 ·rintro ⟨u,hu,h⟩;have:u=0:=by omega
  subst this;exact h
theorem Zr6{mx:Int}{q:Nat}{R:Nat->Nat->Prop}{f N:List Bool}{m:Nat}(h:Fwd f N m (cnR R q)):CtS mx q R f N N m 0:=⟨ZeL h (Zrk R q),λ_=>ZeL h (Zrk R q),λ_=>h⟩
section
variable {mx:Int} {q m t:Nat} {R:Nat->Nat->Prop} {f O N N2 O2:List Bool}
theorem Zl2(hR:∀a b,R a b->a<=b)(h:CtS mx q R f O N m t)(h2:Fwd N N2 m R):(mx = -1->Fwd f N2 m (λa b=>∃k,uS R q t a k/\R k b))/\(mx≠-1->Fwd f N2 m (cnR R (q+(t+1)))):=by
 refine⟨λe=>Zhb hR (h.2.1 e) h2,λe=>ZeL (Zhb hR (h.2.2 e) h2) (λa b=>?_)⟩;rw[show q+(t+1)=(q+t)+1 from rfl];exact(Zes _ _ _).symm
theorem Zxs(hR:∀a b,R a b->a<=b)(h:CtS mx q R f O N m t)(h2:Fwd N N2 m R)(hO:∀b,b<=m->(O2[b]?.getD false=true↔O[b]?.getD false=true\/N2[b]?.getD false=true)):Fwd f O2 m (uS R q (t+1)):=λb hb=>by
 obtain⟨n1,n2⟩:=Zl2 hR h h2;rw[hO b hb,h.1 b hb];by_cases e:mx = -1
 ·rw[n1 e b hb];constructor
  ·rintro (⟨a,ha,hf,u,hu,hc⟩|⟨a,ha,hf,k,⟨u,hu,hc⟩,hk⟩)
   ·exact⟨a,ha,hf,u,by omega,hc⟩
   ·exact⟨a,ha,hf,u+1,by omega,(Zes _ _ _).2 ⟨k,hc,hk⟩⟩
  ·rintro ⟨a,ha,hf,u,hu,hc⟩;by_cases e2:u<=t
   ·exact .inl ⟨a,ha,hf,u,e2,hc⟩
   ·have:u=t+1:=by omega
    subst this;obtain⟨k,h3,h4⟩:=(Zes (q+t) a b).1 hc;exact .inr ⟨a,ha,hf,k,⟨t,Zb _,h3⟩,h4⟩
 ·rw[n2 e b hb];constructor
  ·rintro (⟨a,ha,hf,u,hu,hc⟩|⟨a,ha,hf,hc⟩)
   ·exact⟨a,ha,hf,u,by omega,hc⟩
   ·exact⟨a,ha,hf,t+1,by omega,hc⟩
  ·rintro ⟨a,ha,hf,u,hu,hc⟩;by_cases e2:u<=t
   ·exact .inl ⟨a,ha,hf,u,e2,hc⟩
   ·have:u=t+1:=by omega
    subst this;exact .inr ⟨a,ha,hf,hc⟩
theorem Zno(hR:∀a b,R a b->a<=b)(h:CtS mx q R f O N m t)(h2:Fwd N N2 m R)(hO:∀b,b<=m->(O2[b]?.getD false=true↔O[b]?.getD false=true\/N2[b]?.getD false=true)):(mx = -1->CtS mx q R f O2 O2 m (t+1))/\(mx≠-1->CtS mx q R f O2 N2 m (t+1)):=by
 have ho:=Zxs hR h h2 hO;have hn:=Zl2 hR h h2;exact⟨λe=>⟨ho,λ_=>ho,λe2=>absurd e e2⟩,λe=>⟨ho,λe2=>absurd e2 e,λ_=>hn.2 e⟩⟩
theorem ZuP(hR:∀a b,R a b->a<=b)(h:CtS mx q R f O N m t)(h2:Fwd N N2 m R)(hs:∀b,b<=m->N2[b]?.getD false=true->O[b]?.getD false=true):∀v a b,a<=m->b<=m->f[a]?.getD false=true->cnR R (q+v) a b->O[b]?.getD false=true:=by
 obtain⟨n1,n2⟩:=Zl2 hR h h2;intro v;induction v with
 |zero=>
  intro a b ha hb hf hc;exact(h.1 b hb).2 ⟨a,ha,hf,0,by omega,hc⟩
 |succ v ih=>
  intro a b ha hb hf hc;obtain⟨k,h3,h4⟩:=(Zes (q+v) a b).1 hc;have hk:k<=m:=ZDA (hR _ _ h4) hb;have hOk:=ih a k ha hk hf h3;obtain⟨a2,ha2,hf2,u,hu,hc2⟩:=(h.1 k hk).1 hOk;by_cases e:mx = -1
  ·exact hs b hb ((n1 e b hb).2 ⟨a2,ha2,hf2,k,⟨u,hu,hc2⟩,h4⟩)
  ·by_cases e2:u<t
   ·exact(h.1 b hb).2 ⟨a2,ha2,hf2,u+1,by omega,(Zes (q+u) a2 b).2 ⟨k,hc2,h4⟩⟩
   ·have:u=t:=by omega
    subst this;exact hs b hb ((n2 e b hb).2 ⟨a2,ha2,hf2,(Zes (q+u) a2 b).2 ⟨k,hc2,h4⟩⟩)
theorem ZnL(hR:∀a b,R a b->a<=b)(h:CtS mx q R f O N m t)(h2:Fwd N N2 m R)(hs:∀b,b<=m->N2[b]?.getD false=true->O[b]?.getD false=true)(hO:∀b,b<=m->(O2[b]?.getD false=true↔O[b]?.getD false=true\/N2[b]?.getD false=true))(ht:mx = -1\/(q:Int)+t<=mx):Fwd f O2 m (ctR q mx R):=λb hb=>by
 have st:=ZuP hR h h2 hs;rw[hO b hb];have e1:(O[b]?.getD false=true\/N2[b]?.getD false=true)↔O[b]?.getD false=true:=⟨λx=>x.elim id (hs b hb),.inl⟩;rw[e1];constructor
 ·intro hx;obtain⟨a,ha,hf,u,hu,hc⟩:=(h.1 b hb).1 hx;exact⟨a,ha,hf,q+u,by omega,by omega,hc⟩
 ·rintro ⟨a,ha,hf,k,h3,h4,h5⟩;obtain⟨d,rfl⟩:∃d,k=q+d:=⟨k-q,by omega⟩;exact st d a b ha hb hf h5
theorem Zt4(h:CtS mx q R f O N m t)(ht:(q:Int)+t=mx):Fwd f O m (ctR q mx R):=ZeL h.1 (λa b=>by
 constructor
 ·rintro ⟨u,hu,hc⟩;exact⟨q+u,by omega,by omega,hc⟩
 ·rintro ⟨k,h3,h4,h5⟩;obtain⟨d,rfl⟩:∃d,k=q+d:=⟨k-q,by omega⟩;exact⟨d,by omega,h5⟩)
def lkR(O:List Bool)(m:Nat):Nat:=nf (λj=>O[j]?.getD false) (m+1)
theorem ZrB(hO:∀b,b<=m->(O2[b]?.getD false=true↔O[b]?.getD false=true\/N2[b]?.getD false=true))(hl:O.length=m+1)(hl2:O2.length=m+1)(hm:moB N2 O (m+1)=true):lkR O2 m<lkR O m:=by
 obtain⟨b,h1,h2,h3⟩:=ZmN.1 hm;refine ZsG (λx hx=>?_) h3 ((hO b (by omega)).2 (.inr h2)) _ h1;by_cases e:x<=m
 ·exact(hO x e).2 (.inl hx)
 ·rw[List.getElem?_eq_none (by omega)]at hx;cases hx
end
end
section
open Go.RowKit Go.Joins
def SX(w:World)(R:Nat)(ta:Option Addr)(n tc k:Nat)(bd:Bool)(ad:Option Addr)(m c:Nat):Prop:=w.heap[R]?=some (.cells #[.slice ta n tc,I (k:Int),.bool bd,.slice ad m c] 155 (0,0))
def SD(S:Nat->Prop)(B R:Nat)(w:World)(C:List Int)(k:Nat)(bd:Bool)(X:List Nd):Prop:=(B<=R/\k<=C.length/\C.length<=400)/\∃ta tc ad c,SX w R ta C.length tc k bd ad X.length c/\Tx B w ta tc C/\XOZ 500 B S w ad c X/\∀k,(Value.slice ad X.length c).ownBlock=some k->S k
section
variable {w w':World} {B R n tc k m c:Nat} {bd:Bool} {ta ad:Option Addr} {C:List Int} {X:List Nd} {S:Nat->Prop}
theorem ZfR(h:SX w R ta n tc k bd ad m c):w.cell? ⟨R,0,none⟩=some (.slice ta n tc)/\w.cell? ⟨R,1,none⟩=some (I (k:Int))/\w.cell? ⟨R,2,none⟩=some (.bool bd)/\w.cell? ⟨R,3,none⟩=some (.slice ad m c):=by
 have e:∀i,w.cell? ⟨R,i,none⟩=(#[.slice ta n tc,I (k:Int),.bool bd,.slice ad m c]:Array Value)[i]?:=λi=>by rw[ZO w R i _ _ (0,0) h]
 exact⟨e 0,e 1,e 2,e 3⟩
theorem ZkN(h:SX w R ta n tc k bd ad m c)(i:Nat):w.frozen? ⟨R,i,none⟩=false:=ZEm w R i _ _ h
theorem ZpC(h:SX w R ta n tc k bd ad m c):R<w.heap.size:=(Array.getElem?_eq_some_iff.1 h).1
theorem ZDm(h:SX w R ta n tc k bd ad m c)(k':Nat):SX (w.setCell ⟨R,1,none⟩ (I (k':Int))) R ta n tc k' bd ad m c:=ZEk w R 1 _ _ _ h
theorem ZC0(h:SX w R ta n tc k bd ad m c)(b:Bool):SX (w.setCell ⟨R,2,none⟩ (.bool b)) R ta n tc k b ad m c:=ZEk w R 2 _ _ _ h
theorem ZC4(h:SX w R ta n tc k bd ad m c)(ad':Option Addr)(m' c':Nat):SX (w.setCell ⟨R,3,none⟩ (.slice ad' m' c')) R ta n tc k bd ad' m' c':=ZEk w R 3 _ _ _ h
theorem ZAW(hx:SX w R ta n tc k bd ad m c){ad':Option Addr}{c':Nat}{Z:Nat}{S:Nat->Prop}(h:XOZ Z B S w ad' c' X)(k:Kp (λj=>j=R) w w'):XOZ Z B S w' ad' c' X:=by
 obtain⟨xs,h1,h2,h3⟩:=h;refine⟨xs,Zcd h1 k (λj hj=>Zbf h1 hj hx (by decide)),Zh2 h2 k (λB' z n v ys j hv hj _=>Zbf hv hj hx (by decide)),h3⟩
theorem ZcI(h:SD S B R w C k bd X):B<=w.heap.size:=by
 obtain⟨h0,ta,tc,ad,c,h1,-⟩:=h;have:=ZpC h1;omega
theorem ZkO(h:SD S B R w C k bd X):∀c∈C,chB c=true:=by
 obtain⟨h0,ta,tc,ad,c,h1,h2,h3⟩:=h;exact h2.2.2.2
theorem ZU(h:SD S B R w C k bd X)(q:Kp (λj=>j=R) w w'):Below B w w':=ZaB q (ZcI h) (λj hj=>by have:=h.1.1;have hj':j=R:=hj;omega)
theorem Zg9(h:SD S B R w C k bd X)(q:ZL w w'):SD S B R w' C k bd X:=by
 obtain⟨h0,ta,tc,ad,c,h1,h2,h3,h4⟩:=h;have hlt:=ZpC h1;exact⟨h0,ta,tc,ad,c,(q.block R hlt).trans h1,ZbG h2 (q.mono (by omega)),Zen h3 q,h4⟩
theorem ZcE(w:World)(q:Nat):ZL w (w.drewN q):=⟨rfl,rfl,rfl,Zb _,λ_ _=>rfl⟩
theorem Zbu(h:SD S B R w C k bd X)(q:Nat):SD S B R (w.drewN q) C k bd X:=Zg9 h (ZcE w q)
theorem ZvM(h:SD S B R w C k bd X)(i:Nat)(v:Value){k':Nat}{bd':Bool}(hk:k'<=C.length)(hs:∀ta tc ad c,SX w R ta C.length tc k bd ad X.length c->SX (w.setCell ⟨R,i,none⟩ v) R ta C.length tc k' bd' ad X.length c):SD S B R (w.setCell ⟨R,i,none⟩ v) C k' bd' X:=by
 obtain⟨⟨h0,h5,h6⟩,ta,tc,ad,c,h1,h2,h3,h4⟩:=h;have hk9:=Zd9 w R i v;have hlt:=ZpC h1;exact⟨⟨h0,hk,h6⟩,ta,tc,ad,c,hs _ _ _ _ h1,ZbG h2 (ZaB hk9 (by omega) (λj hj=>by have hj':j=R:=hj;omega)),ZAW h1 h3 hk9,h4⟩
theorem ZDe(h:SD S B R w C k bd X){k':Nat}(hk:k'<=C.length):SD S B R (w.setCell ⟨R,1,none⟩ (I (k':Int))) C k' bd X:=ZvM h 1 _ hk (λ_ _ _ _ h1=>ZDm h1 k')
theorem Zia(h:SD S B R w C k bd X)(b:Bool):SD S B R (w.setCell ⟨R,2,none⟩ (.bool b)) C k b X:=ZvM h 2 _ h.1.2.1 (λ_ _ _ _ h1=>ZC0 h1 b)
theorem Zg3(h:SD S B R w C k bd X)(hk:k<C.length):SD S B R (w.setCell ⟨R,1,none⟩ (I ((k:Int)+1))) C (k+1) bd X:=by
 have e:((k+1:Nat):Int)=(k:Int)+1:=by omega
 rw[<-e];exact ZDe h hk
theorem Zal(h:SD S B R w C k bd X):∃ta tc ad c,(w.cell? ⟨R,0,none⟩=some (.slice ta C.length tc)/\w.cell? ⟨R,1,none⟩=some (I (k:Int))/\w.cell? ⟨R,2,none⟩=some (.bool bd)/\w.cell? ⟨R,3,none⟩=some (.slice ad X.length c))/\(∀i,w.frozen? ⟨R,i,none⟩=false)/\(0<C.length->∃b off,ta=some ⟨b,off,none⟩/\∀(j:Nat) (d:Int),C[j]?=some d->w.cell? ⟨b,off+j,none⟩=some (I d)):=by
 obtain⟨h0,ta,tc,ad,c,h1,h2,h3⟩:=h;refine⟨ta,tc,ad,c,ZfR h1,ZkN h1,λh9=>?_⟩;obtain⟨b,off,e,-,hc⟩:=h2.2.2.1 h9;exact⟨b,off,e,hc⟩
theorem ZbM{c:Int}{r:List Int}(h:C.drop k=c::r):C[k]?=some c/\r=C.drop (k+1)/\k<C.length:=by
 have hlt:k<C.length:=by
  rcases Nat.lt_or_ge k C.length with h9|h9
  ·exact h9
  ·rw[List.drop_eq_nil_of_le h9]at h;cases h
 rw[List.drop_eq_getElem_cons hlt]at h;simp only[List.cons.injEq]at h;exact⟨by rw[Zv hlt,h.1],h.2.symm,hlt⟩
end
theorem Zbj{S:Nat->Prop}{B R:Nat}{w:World}{C:List Int}{k:Nat}{bd:Bool}{X:List Nd}{c:Int}{r:List Int}(h:SD S B R w C k bd X)(hc:C.drop k=c::r):∃b off tc ad cp,w.cell? ⟨R,0,none⟩=some (.slice (some ⟨b,off,none⟩) C.length tc)/\w.cell? ⟨R,1,none⟩=some (I (k:Int))/\w.cell? ⟨R,2,none⟩=some (.bool bd)/\w.cell? ⟨R,3,none⟩=some (.slice ad X.length cp)/\w.frozen? ⟨R,1,none⟩=false/\w.frozen? ⟨R,2,none⟩=false/\w.cell? ⟨b,off+k,none⟩=some (I c)/\k<C.length:=by
 obtain⟨h1,h2,h3⟩:=ZbM hc;obtain⟨ta,tc,ad,cp,⟨c0,c1,c2,c3⟩,f,h4⟩:=Zal h;obtain⟨b,off,rfl,h5⟩:=h4 (by omega);exact⟨b,off,tc,ad,cp,c0,c1,c2,c3,f 1,f 2,h5 k c h1,h3⟩
theorem Zgu{S:Nat->Prop}(B R:Nat)(C:List Int)(k:Nat)(s:Int)(r:List Int)(X:List Nd)(w:World)(h:SD S B R w C k false X)(hc:C.drop k=s::r):
  Calls prog 180 #[.pointer (some ⟨R,0,none⟩),I s] w λe w'=>e=.returned (.bool true)/\SD S B R w' C (k+1) false X/\Kp (λj=>j=R) w w':=by
 obtain⟨b,off,tc,ad,cp,c0,c1,c2,c3,f1,f2,ck,hlt⟩:=Zbj h hc;have H0:=J h;have h4:=h.1.2.2;have hd:decide ((k:Int)>=(C.length:Int))=false:=Zg (by omega);have hi0:(0:Int)<=(k:Int):=by omega
 have hi1:(k:Int)<(C.length:Int):=by omega
 have hi2:¬(C.length:Int)<=(k:Int):=by omega
 have hw:IntKind.i64.wrap ((k:Int)+1)=(k:Int)+1:=by rw[ZY];omega
 have hne:(s != s)=false:=by simp
 clear h hc;go_enter func180,ntmps180
 go_wp2;go_quiet (fail)
 go_wp2;go_ret;exact⟨rfl,Zg3 (Zbu H0.out _) hlt,(Zar w _).trans (Zd9 _ R 1 _) (λj _ hj=>hj)⟩
theorem Zgo{S:Nat->Prop}(B R:Nat)(C:List Int)(k:Nat)(s:Int)(X:List Nd)(w:World)(h:SD S B R w C k false X)(hc:(C.drop k).head?≠some s):
  Calls prog 180 #[.pointer (some ⟨R,0,none⟩),I s] w λe w'=>e=.returned (.bool false)/\SD S B R w' C k false X/\Kp (λj=>j=R) w w':=by
 have H0:=J h;have h4:=h.1.2.2;have h5:=h.1.2.1;cases hr:C.drop k with
 |nil=>
  have hk:C.length<=k:=List.drop_eq_nil_iff.1 hr;obtain⟨ta,tc,ad,cp,⟨c0,c1,c2,c3⟩,f,-⟩:=Zal h;have hd:decide ((k:Int)>=(C.length:Int))=true:=Zh (by omega);have hi2:(C.length:Int)<=(k:Int):=by omega
  clear h hc hr;go_enter func180,ntmps180
  go_wp2;go_quiet (fail)
  go_wp2;go_ret;exact⟨rfl,Zbu H0.out _,Zar w _⟩
 |cons c r=>
  obtain⟨b,off,tc,ad,cp,c0,c1,c2,c3,f1,f2,ck,hlt⟩:=Zbj h hr;have hd:decide ((k:Int)>=(C.length:Int))=false:=Zg (by omega);have hi0:(0:Int)<=(k:Int):=by omega
  have hi1:(k:Int)<(C.length:Int):=by omega
  have hi2:¬(C.length:Int)<=(k:Int):=by omega
  have hne:(c != s)=true:=by
   rw[hr]at hc;simp only[List.head?_cons,ne_eq,ZDJ]at hc;simp[hc]
  clear h hc hr;go_enter func180,ntmps180
  go_wp2;go_quiet (fail)
  go_wp2;go_ret;exact⟨rfl,Zbu H0.out _,Zar w _⟩
theorem ZoA{S:Nat->Prop}(B R:Nat)(C:List Int)(k:Nat)(s:Int)(X:List Nd)(w:World)(h:SD S B R w C k true X):
  Calls prog 180 #[.pointer (some ⟨R,0,none⟩),I s] w λe w'=>e=.returned (.bool false)/\SD S B R w' C k true X/\Kp (λj=>j=R) w w':=by
 have H0:=J h;obtain⟨ta,tc,ad,cp,⟨c0,c1,c2,c3⟩,f,-⟩:=Zal h;clear h;go_enter func180,ntmps180
 go_wp2;go_quiet (fail)
 go_wp2;go_ret;exact⟨rfl,Zbu H0.out _,Zar w _⟩
def esC(c:Int):Int:=if c=110 then 10 else if c=114 then 13 else if c=116 then 9 else if isS sgE c=true then c else -1
theorem ZCz(c:Int):isS sgE c=(isS sgO c||(decide ((45:Int)=c)||decide ((94:Int)=c))):=by
 unfold isS sgE sgO;simp only[List.any_cons,List.any_nil,Bool.or_false,Bool.or_assoc];rfl
theorem ZzX(c:Int)(w:World):Calls prog 282 #[I c] w λe w'=>e=.returned (I (esC c))/\w'=w:=by
 by_cases e1:c=110
 ·subst e1;go_enter func282,ntmps282
  go_wp2;go_ret;exact⟨rfl,rfl⟩
 ·by_cases e2:c=114
  ·subst e2;go_enter func282,ntmps282
   go_wp2;go_ret;exact⟨rfl,rfl⟩
  ·by_cases e3:c=116
   ·subst e3;go_enter func282,ntmps282
    go_wp2;go_ret;exact⟨rfl,rfl⟩
   ·have b1:(c==110)=false:=(by simp[e1]);have b2:(c==114)=false:=(by simp[e2]);have b3:(c==116)=false:=(by simp[e3]);by_cases e4:c=45
    ·subst e4;go_enter func282,ntmps282
     go_wp2;go_ret;exact⟨rfl,rfl⟩
    ·by_cases e5:c=94
     ·subst e5;go_enter func282,ntmps282
      go_wp2;go_ret;exact⟨rfl,rfl⟩
     ·have b4:(c==45)=false:=(by simp[e4]);have b5:(c==94)=false:=(by simp[e5]);have HE:Hid (esC c=if isS sgO c=true then c else -1):=J (by
       unfold esC;rw[Za e1,Za e2,Za e3,ZCz,Zg (λh=>e4 h.symm),Zg (λh=>e5 h.symm),Bool.or_false,Bool.or_false])
      have HM:=J (Zvn c w);obtain⟨q,hq⟩:=ZX (isS sgO c);rw[hq]at HE HM;clear e1 e2 e3 e4 e5 hq;cases q;all_goals
       go_enter func282,ntmps282
       go_wp2_with (go_at_call 283;refine Zc HM.out ?_)
       go_ret;rw[HE.out];exact⟨rfl,rfl⟩
theorem ZzY{c:Int}{r:List Int}(hc:0<=c):(esP (c::r)=none/\esC c<0)\/(esP (c::r)=some (esC c,r)/\0<=esC c):=by
 rw[esP];unfold esC;split
 ·exact .inr ⟨rfl,by decide⟩
 ·split
  ·exact .inr ⟨rfl,by decide⟩
  ·split
   ·exact .inr ⟨rfl,by decide⟩
   ·split
    ·exact .inr ⟨rfl,hc⟩
    ·exact .inl ⟨rfl,by decide⟩
end
section
open Go.RowKit
theorem Zg0(s:ZB)(w:World):Calls prog 159 #[.string s,.string ⟨#[45]⟩] w λe w'=>e=.returned (.tuple #[.string (if Zhr s=true then ZcF s else s),.bool (Zhr s)])/\w'=w:=by
 refine(ZE2 s ⟨#[45]⟩ w).mono λe w' ⟨he,hw⟩=>⟨?_,hw⟩
 have e1:Lib.hasPrefix s.data.toList (⟨#[45]⟩:ZB).data.toList=Zhr s:=Zke s 45;have e2:(⟨(Lib.trimPrefix s.data.toList (⟨#[45]⟩:ZB).data.toList).toArray⟩:ZB)=if Zhr s=true then ZcF s else s:=by
  refine(ZkP s 45).trans ?_;have e3:Lib.hasPrefix s.data.toList [45]=Zhr s:=Zke s 45;rw[e3];by_cases h:Zhr s=true
  ·rw[Zd h,Zd h];have h2:0<s.size/\at8 s 0=45:=by simpa[Zhr] using h
   rw[ZcF,Zd ⟨h2.1,.inl h2.2⟩]
  ·rw[Za h,Za h]
 rw[he,e1,e2]
theorem ZjC(s:ZB)(w:World)(h:Zhr s=false):Calls prog 160 #[.string s,.string ⟨#[43]⟩] w λe w'=>e=.returned (.string (ZcF s))/\w'=w:=by
 refine(ZE9 s ⟨#[43]⟩ w).mono λe w' ⟨he,hw⟩=>⟨?_,hw⟩
 have e2:(⟨(Lib.trimPrefix s.data.toList (⟨#[43]⟩:ZB).data.toList).toArray⟩:ZB)=ZcF s:=by
  refine(ZkP s 43).trans ?_;have e3:Lib.hasPrefix s.data.toList [43]=decide (0<s.size/\at8 s 0=43):=Zke s 43;have h1:¬(0<s.size/\at8 s 0=45):=by simpa[Zhr] using h
  rw[e3,ZcF];by_cases h2:0<s.size/\at8 s 0=43
  ·rw[Zd (by simpa using h2),Zd ⟨h2.1,.inr h2.2⟩]
  ·rw[Za (by simpa using h2),Za (by rintro ⟨a,b|b⟩;exact h1 ⟨a,b⟩;exact h2 ⟨a,b⟩)]
 rw[he,e2]
theorem Zix(r:ZB)(m:Int)(w:World)(hr:r.size<=180)(hm:w.cell? ⟨2,0,none⟩=some (I m)):Calls prog 161 #[.string r,.string ⟨#[46]⟩] w λe w'=>∃b:Bool,e=.returned (.tuple #[.string (Zbg r),.string (ZbV r),.bool b])/\∃n,w'=w.drewN n:=by
 refine(ZE1 r ⟨#[46]⟩ m w (by omega) hm).mono λe w' ⟨he,hw⟩=>⟨(Lib.cut r.data.toList (⟨#[46]⟩:ZB).data.toList).2.2,?_,hw⟩
 rw[he,Zst,Zuj]
theorem ZoZ{w:World}{m:Int}{o:Obj}(h:w.cell? ⟨2,0,none⟩=some (I m)):(w.alloc o).cell? ⟨2,0,none⟩=some (I m):=
 (((Ze w.heap.size w).alloc (Zb _) o).cell (p:=⟨2,0,none⟩) (World.block_lt_of_cell? w _ h)).trans h
theorem Zr1{w wn:World}{q:Nat}(h:Below (w.drewN q).heap.size (w.drewN q) wn):ZL w wn:=⟨h.os,h.tape,h.output,h.size,h.block⟩
theorem Zek{B:Nat}{a w:World}(h:Below B a w)(n:Nat):Below B a (w.drewN n):=h.trans ⟨rfl,rfl,rfl,Zb _,λ_ _=>rfl⟩
theorem Zt6(s:ZB)(m:Int)(w:World)(hs:s.size<=1048576)(hmm:w.cell? ⟨2,0,none⟩=some (I m))(hneg:Zhr s=true):
  Calls prog 122 #[.string s] w λe w'=>e=.returned (Zil (ZC s))/\ZL w w':=by
 have HM:=J hmm;clear hmm;obtain⟨r,hr⟩:=ZX (ZcF s);have hrs:r.size<=1048576:=by have:=ZlF s;rw[hr]at this;omega
 rw[ZC,hneg,hr];have HNEG:=J hneg;have HRE:=J hr;clear hneg hr;rcases(show 180<r.size\/r.size<=180 by omega) with hbig|hbig
 ·have HR:=J (show Zy true r=(false,ByteArray.empty,0,false) by rw[Zy,Zd (by simp[ZS,hbig])]);go_enter func122,ntmps122
  go_wp2_with fail
  refine Zc (Zg0 s _) ?_;rw[Zd HNEG.out,HNEG.out,HRE.out];go_wp2;exact bodyPost_ret (v:=ZJ) (by simp[ZJ,results,results122,go_sem]) rfl ⟨by rw[HR.out];rfl,(Ze _ _).alloc (Zb _) _⟩
 ·have hws:=Zeo r;obtain⟨x,hx⟩:=ZX (Zbg r);obtain⟨y,hy⟩:=ZX (ZbV r);obtain⟨z,hz⟩:=ZX (x++y);rw[hx,hy,hz]at hws;have hxs:x.size<=180:=by omega
  have hys:y.size<=180:=by omega
  have hzs:z.size<=180:=by omega
  have HX:=J hx;have HY:=J hy;clear hws hx hy;rcases(show z.size=0\/0<z.size by omega) with hz0|hz0
  ·have HR:=J (show Zy true r=(false,ByteArray.empty,0,false) by rw[Zy,Zd (by simp[ZS,HX.out,HY.out,hz,hz0])]);have hze:=Zbb z hz0;rw[hze]at hz;clear hze;go_enter func122,ntmps122
   go_wp2_with fail
   refine Zc (Zg0 s _) ?_;rw[Zd HNEG.out,HNEG.out,HRE.out];go_wp2_with fail
   refine(Zix r m _ hbig (ZoZ HM.out)).mono ?_;rintro e w9 ⟨b9,rfl,q9,rfl⟩;rw[HX.out,HY.out];go_wp2;exact bodyPost_ret (v:=ZJ) (by simp[ZJ,results,results122,go_sem]) rfl ⟨by rw[HR.out];rfl,Zat (Zek ((Ze _ _).alloc (Zb _) _) _) _ _ _⟩
  ·have hne:=ZcC z hz0;cases hdz:Zr z
   ·have HR:=J (show Zy true r=(false,ByteArray.empty,0,false) by
     have h2:(Zr x&&Zr y)=false:=(by rw[<-ZcW,hz,hdz]);have h3:ZS r=true:=by
      rw[ZS,HX.out,HY.out];cases h4:Zr x
      ·simp
      ·rw[h4]at h2;have h5:Zr y=false:=(by simpa using h2);simp[h5]
     rw[Zy,Zd h3])
    go_enter func122,ntmps122
    go_wp2_with fail
    refine Zc (Zg0 s _) ?_;rw[Zd HNEG.out,HNEG.out,HRE.out];go_wp2_with fail
    refine(Zix r m _ hbig (ZoZ HM.out)).mono ?_;rintro e w9 ⟨b9,rfl,q9,rfl⟩;rw[HX.out,HY.out];go_wp2_with (go_at_call 162;refine Zc (Zf7 _ _ (by unfold maxLen;omega)) ?_)
    exact bodyPost_ret (v:=ZJ) (by simp[ZJ,results,results122,go_sem]) rfl ⟨by rw[HR.out];rfl,Zat (Zek ((Ze _ _).alloc (Zb _) _) _) _ _ _⟩
   ·have h2:(Zr x&&Zr y)=true:=(by rw[<-ZcW,hz,hdz]);have hbad:ZS r=false:=by
     rw[ZW]at h2;rw[ZS,HX.out,HY.out,hz,h2.1,h2.2,Zg (show ¬180<r.size by omega),Zg (show ¬z.size=0 by omega)];rfl
    obtain⟨R,hR⟩:=ZX (Za5 true (Zw z.data.toList) y.size);have HR:=J (show Zy true r=R by rw[Zy,Za (by rw[hbad];simp),HX.out,HY.out,hz,hR]);have HRR:=J hR;have HDZ:=J ((ZbD z).1 hdz);clear hbad hR h2;go_enter func122,ntmps122
    go_wp2_with fail
    refine Zc (Zg0 s _) ?_;rw[Zd HNEG.out,HNEG.out,HRE.out];go_wp2_with fail
    refine(Zix r m _ hbig (ZoZ HM.out)).mono ?_;rintro e w9 ⟨b9,rfl,q9,rfl⟩;rw[HX.out,HY.out];go_wp2_with (first|(go_at_call 162;refine Zc (Zf7 _ _ (by unfold maxLen;omega)) ?_)|fail)
    refine ZM (Zss true z _ _ (by omega) HDZ.out (by omega) (by omega)) ?_;rintro w1 hb1;rw[show Za5 true (Zw z.data.toList) ((y.size:Int)).toNat=R from(by simpa using HRR.out)];obtain⟨n9,s9,c9,o9⟩:=R;have hb2:=Zr1 hb1;obtain⟨a0,a1,a2,a3⟩:=ZaC (Zbc w false ⟨#[]⟩ 0 _) hb2;obtain⟨f0,f1,f2⟩:=Zb3 hb2;have HC:=J (Zc4 hb2 (.bool n9) (.string s9) (I c9));have HB:=J (ZaA hb2);clear hb1 hb2 a0;simp only[Zil];go_wp2;obtain⟨c0,c1,c2⟩:=HC.out;exact bodyPost_ret (v:=.tuple #[.agg #[.bool n9,.string s9,I c9],.bool o9]) (by simp[results,results122,go_sem,c0,c1,c2]) rfl ⟨by rw[HR.out];rfl,Zat HB.out _ _ _⟩
theorem Zu5(s:ZB)(m:Int)(w:World)(hs:s.size<=1048576)(hmm:w.cell? ⟨2,0,none⟩=some (I m))(hneg:Zhr s=false):
  Calls prog 122 #[.string s] w λe w'=>e=.returned (Zil (ZC s))/\ZL w w':=by
 have HM:=J hmm;clear hmm;obtain⟨r,hr⟩:=ZX (ZcF s);have hrs:r.size<=1048576:=by have:=ZlF s;rw[hr]at this;omega
 rw[ZC,hneg,hr];have HNEG:=J hneg;have HRE:=J hr;clear hneg hr;rcases(show 180<r.size\/r.size<=180 by omega) with hbig|hbig
 ·have HR:=J (show Zy false r=(false,ByteArray.empty,0,false) by rw[Zy,Zd (by simp[ZS,hbig])]);go_enter func122,ntmps122
  go_wp2_with fail
  refine Zc (Zg0 s _) ?_;rw[Za (by rw[HNEG.out];simp),HNEG.out];go_wp2_with fail
  refine Zc (ZjC s _ HNEG.out) ?_;rw[HRE.out];go_wp2;exact bodyPost_ret (v:=ZJ) (by simp[ZJ,results,results122,go_sem]) rfl ⟨by rw[HR.out];rfl,(Ze _ _).alloc (Zb _) _⟩
 ·have hws:=Zeo r;obtain⟨x,hx⟩:=ZX (Zbg r);obtain⟨y,hy⟩:=ZX (ZbV r);obtain⟨z,hz⟩:=ZX (x++y);rw[hx,hy,hz]at hws;have hxs:x.size<=180:=by omega
  have hys:y.size<=180:=by omega
  have hzs:z.size<=180:=by omega
  have HX:=J hx;have HY:=J hy;clear hws hx hy;rcases(show z.size=0\/0<z.size by omega) with hz0|hz0
  ·have HR:=J (show Zy false r=(false,ByteArray.empty,0,false) by rw[Zy,Zd (by simp[ZS,HX.out,HY.out,hz,hz0])]);have hze:=Zbb z hz0;rw[hze]at hz;clear hze;go_enter func122,ntmps122
   go_wp2_with fail
   refine Zc (Zg0 s _) ?_;rw[Za (by rw[HNEG.out];simp),HNEG.out];go_wp2_with fail
   refine Zc (ZjC s _ HNEG.out) ?_;rw[HRE.out];go_wp2_with fail
   refine(Zix r m _ hbig (ZoZ HM.out)).mono ?_;rintro e w9 ⟨b9,rfl,q9,rfl⟩;rw[HX.out,HY.out];go_wp2;exact bodyPost_ret (v:=ZJ) (by simp[ZJ,results,results122,go_sem]) rfl ⟨by rw[HR.out];rfl,Zat (Zek ((Ze _ _).alloc (Zb _) _) _) _ _ _⟩
  ·have hne:=ZcC z hz0;cases hdz:Zr z
   ·have HR:=J (show Zy false r=(false,ByteArray.empty,0,false) by
     have h2:(Zr x&&Zr y)=false:=(by rw[<-ZcW,hz,hdz]);have h3:ZS r=true:=by
      rw[ZS,HX.out,HY.out];cases h4:Zr x
      ·simp
      ·rw[h4]at h2;have h5:Zr y=false:=(by simpa using h2);simp[h5]
     rw[Zy,Zd h3])
    go_enter func122,ntmps122
    go_wp2_with fail
    refine Zc (Zg0 s _) ?_;rw[Za (by rw[HNEG.out];simp),HNEG.out];go_wp2_with fail
    refine Zc (ZjC s _ HNEG.out) ?_;rw[HRE.out];go_wp2_with fail
    refine(Zix r m _ hbig (ZoZ HM.out)).mono ?_;rintro e w9 ⟨b9,rfl,q9,rfl⟩;rw[HX.out,HY.out];go_wp2_with (go_at_call 162;refine Zc (Zf7 _ _ (by unfold maxLen;omega)) ?_)
    exact bodyPost_ret (v:=ZJ) (by simp[ZJ,results,results122,go_sem]) rfl ⟨by rw[HR.out];rfl,Zat (Zek ((Ze _ _).alloc (Zb _) _) _) _ _ _⟩
   ·have h2:(Zr x&&Zr y)=true:=(by rw[<-ZcW,hz,hdz]);have hbad:ZS r=false:=by
     rw[ZW]at h2;rw[ZS,HX.out,HY.out,hz,h2.1,h2.2,Zg (show ¬180<r.size by omega),Zg (show ¬z.size=0 by omega)];rfl
    obtain⟨R,hR⟩:=ZX (Za5 false (Zw z.data.toList) y.size);have HR:=J (show Zy false r=R by rw[Zy,Za (by rw[hbad];simp),HX.out,HY.out,hz,hR]);have HRR:=J hR;have HDZ:=J ((ZbD z).1 hdz);clear hbad hR h2;go_enter func122,ntmps122
    go_wp2_with fail
    refine Zc (Zg0 s _) ?_;rw[Za (by rw[HNEG.out];simp),HNEG.out];go_wp2_with fail
    refine Zc (ZjC s _ HNEG.out) ?_;rw[HRE.out];go_wp2_with fail
    refine(Zix r m _ hbig (ZoZ HM.out)).mono ?_;rintro e w9 ⟨b9,rfl,q9,rfl⟩;rw[HX.out,HY.out];go_wp2_with (first|(go_at_call 162;refine Zc (Zf7 _ _ (by unfold maxLen;omega)) ?_)|fail)
    refine ZM (Zss false z _ _ (by omega) HDZ.out (by omega) (by omega)) ?_;rintro w1 hb1;rw[show Za5 false (Zw z.data.toList) ((y.size:Int)).toNat=R from(by simpa using HRR.out)];obtain⟨n9,s9,c9,o9⟩:=R;have hb2:=Zr1 hb1;obtain⟨a0,a1,a2,a3⟩:=ZaC (Zbc w false ⟨#[]⟩ 0 _) hb2;obtain⟨f0,f1,f2⟩:=Zb3 hb2;have HC:=J (Zc4 hb2 (.bool n9) (.string s9) (I c9));have HB:=J (ZaA hb2);clear hb1 hb2 a0;simp only[Zil];go_wp2;obtain⟨c0,c1,c2⟩:=HC.out;exact bodyPost_ret (v:=.tuple #[.agg #[.bool n9,.string s9,I c9],.bool o9]) (by simp[results,results122,go_sem,c0,c1,c2]) rfl ⟨by rw[HR.out];rfl,Zat HB.out _ _ _⟩
theorem Zse(s:ZB)(m:Int)(w:World)(hs:s.size<=1048576)(hmm:w.cell? ⟨2,0,none⟩=some (I m)):
  Calls prog 122 #[.string s] w λe w'=>e=.returned (Zil (ZC s))/\ZL w w':=by
 cases hn:Zhr s
 ·exact Zu5 s m w hs hmm hn
 ·exact Zt6 s m w hs hmm hn
end
end Go.Proofs.YtcdnilpdohknfaaGreatDoor
