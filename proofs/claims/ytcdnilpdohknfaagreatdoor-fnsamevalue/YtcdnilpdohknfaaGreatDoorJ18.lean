import Derived.Test.YtcdnilpdohknfaaGreatDoorJ16
import Derived.Test.YtcdnilpdohknfaaGreatDoorJ10
import Derived.Test.YtcdnilpdohknfaaGreatDoorJ17
set_option linter.unusedVariables false
set_option linter.unusedSimpArgs false
set_option maxRecDepth 100000
set_option maxHeartbeats 16000000
namespace Go.Proofs.YtcdnilpdohknfaaGreatDoor
open Tryz
section
open Go.RowKit Go.Joins Go.Maps
def TkA(X:Rx)(M:List Sp)(C:List Int)(bb:Bool)(S:Nat->Bool)(w:World)(e:Ending)(w':World):Prop:=∃z,e=.returned (.bool z)/\(z=true↔bb=true/\C.length<=300/\Hr M (clX X C) C.length S 0)/\ZL w w'
end
section
open Go.RowKit Go.Joins
theorem Zh1{w:World}{q:Nat}{L:List (Int×Int)}{n:Nat}{cs:Array Value}(hn:L.length=n)(hn5:n<=500)(hc:cs.toList=prV L)(h:w.heap[q]?=some (.cells cs 238 (0,0))):w.ownsRow 0 238 2 (.slice (some ⟨q,0,none⟩) n n) n (prV L):=by
 have hl:=ZmU L;refine⟨by rw[hl,hn],.inr ⟨q,n,cs,rfl,Zx _,h,Zb _,by unfold maxLen;omega,?_,?_⟩⟩
 ·rw[<-ZDL,hc,hl,hn]
 ·rw[hc,<-hn,<-hl];simp
theorem ZfU{B R:Nat}{w:World}{u:List Int}{X:List Nd}(h:RD (λj=>B<=j) B R w u X):RD (λj=>B<=j/\j<w.heap.size) B R w u X:=by
 obtain⟨h0,ta,tc,ad,c,h1,h2,h3⟩:=h;refine⟨h0,ta,tc,ad,c,h1,h2,ZhE h3.1 (λk hk hs=>⟨hs,hk⟩),λk hk=>⟨h3.2 k hk,?_⟩⟩;obtain⟨xs,ho,-⟩:=h3.1;exact(ho.lt k hk).2
theorem ZlL(a:Int)(w:World):Calls prog 304 #[I a] w λe w'=>∃q,e=.returned (.agg #[I 2,.bool false,.slice (some ⟨q,0,none⟩) 1 1,I 0,I 0,I 0,I 0])/\w.heap.size<=q/\w'.ownsRow 0 238 2 (.slice (some ⟨q,0,none⟩) 1 1) 1 (prV [(a,a)])/\ZL w w':=by
 go_enter func304,ntmps304
 have h1:((w.alloc (.cells #[I 2,.bool false,.slice (some ⟨w.heap.size+1,0,none⟩) 1 1,I 0,I 0,I 0,I 0] 204)).alloc (.cells #[I a,I a] 238)).heap[w.heap.size+1]?=some (.cells #[I a,I a] 238 (0,0)):=by
  have h:=Zz (w.alloc (.cells #[I 2,.bool false,.slice (some ⟨w.heap.size+1,0,none⟩) 1 1,I 0,I 0,I 0,I 0] 204)) (.cells #[I a,I a] 238);rw[show(w.alloc (.cells #[I 2,.bool false,.slice (some ⟨w.heap.size+1,0,none⟩) 1 1,I 0,I 0,I 0,I 0] 204)).heap.size=w.heap.size+1 by simp]at h;exact h
 have H1:=J (Zh1 (L:=[(a,a)]) (n:=1) rfl (by omega) rfl h1);have HB:=J (((Ze w.heap.size w).alloc (Zb _) (.cells #[I 2,.bool false,.slice (some ⟨w.heap.size+1,0,none⟩) 1 1,I 0,I 0,I 0,I 0] 204)).alloc (by simp) (.cells #[I a,I a] 238));clear h1;go_wp2;refine bodyPost_ret (v:=.agg #[I 2,.bool false,.slice (some ⟨w.heap.size+1,0,none⟩) 1 1,I 0,I 0,I 0,I 0]) (by simp[results,results304,go_sem]) rfl ?_;exact⟨w.heap.size+1,rfl,by omega,H1.out,HB.out⟩
def LrA(L:List (Int×Int))(w:World)(e:Ending)(w':World):Prop:=∃na,e=.returned (.slice na L.length L.length)/\w'.ownsRow 0 238 2 (.slice na L.length L.length) L.length (prV L)/\(∀k,(Value.slice na L.length L.length).ownBlock=some k->w.heap.size<=k)/\ZL w w'
theorem ZqE{w:World}{L:List (Int×Int)}{cs:Array Value}(hl:L.length<=500)(hc:cs.toList=prV L):LrA L w (.returned (.slice (some ⟨w.heap.size,0,none⟩) L.length L.length)) (w.alloc (.cells cs 238)):=
 ⟨_,rfl,Zh1 rfl hl hc (Zz w _),λk hk=>by have h9:w.heap.size=k:=(by simpa[Value.ownBlock] using hk);omega,(Ze w.heap.size w).alloc (Zb _) _⟩
theorem ZsF(c:Int)(w:World):Calls prog 307 #[I c] w (LrA (ltR c) w):=by
 by_cases e1:c=100\/c=68
 ·have E:Hid (ltR c=[(48,57)]):=J (by unfold ltR;rw[Zd e1]);have HN:=J (ZqE (w:=w) (L:=[(48,57)]) (cs:=#[I 48,I 57]) (by simp) rfl);rcases e1 with rfl|rfl
  all_goals
   go_enter func307,ntmps307
   go_wp2;go_ret;rw[E.out];exact HN.out
 ·by_cases e2:c=119\/c=87
  ·have E:Hid (ltR c=[(48,57),(65,90),(95,95),(97,122)]):=J (by unfold ltR;rw[Za e1,Zd e2]);have HN:=J (ZqE (w:=w) (L:=[(48,57),(65,90),(95,95),(97,122)]) (cs:=#[I 48,I 57,I 65,I 90,I 95,I 95,I 97,I 122]) (by simp) rfl);clear e1;rcases e2 with rfl|rfl
   all_goals
    go_enter func307,ntmps307
    go_wp2;go_ret;rw[E.out];exact HN.out
  ·by_cases e3:c=115\/c=83
   ·have E:Hid (ltR c=[(9,10),(13,13),(32,32)]):=J (by unfold ltR;rw[Za e1,Za e2,Zd e3]);have HN:=J (ZqE (w:=w) (L:=[(9,10),(13,13),(32,32)]) (cs:=#[I 9,I 10,I 13,I 13,I 32,I 32]) (by simp) rfl);clear e1 e2;rcases e3 with rfl|rfl
    all_goals
     go_enter func307,ntmps307
     go_wp2;go_ret;rw[E.out];exact HN.out
   ·have E:Hid (ltR c=[]):=J (by unfold ltR;rw[Za e1,Za e2,Za e3]);have b1:(c==100)=false:=(by simp;omega);have b2:(c==68)=false:=(by simp;omega);have b3:(c==119)=false:=(by simp;omega);have b4:(c==87)=false:=(by simp;omega);have b5:(c==115)=false:=(by simp;omega);have b6:(c==83)=false:=(by simp;omega);clear e1 e2 e3;go_enter func307,ntmps307
    go_wp2;go_ret;rw[E.out];exact⟨none,rfl,ZEo _ _ _ _,λk hk=>(by cases hk),Ze _ _⟩
def RaI(B R:Nat)(w:World)(o:Option (List Int×List Nd))(e:Ending)(w':World):Prop:=match o with
 |some (u',X')=>e=.returned (.tuple #[])/\RD (λj=>B<=j) B R w' u' X'/\Below B w w'
 |none=>ZlQ B w e w'
theorem ZeO{B:Nat}{w w1 w2:World}{e:Ending}(k:Below B w w1)(g:ZlQ B w1 e w2):ZlQ B w e w2:=⟨g.1,k.trans g.2⟩
theorem Zx3(B R:Nat)(u:List Int)(X:List Nd)(w:World)(hX:X.length<=4000)(h:RD (λj=>B<=j) B R w u X):Calls prog 302 #[.pointer (some ⟨R,0,none⟩)] w (RaI B R w (bsP u X)):=by
 have H0:=J h;have hB:=Zg2 h;cases u with
 |nil=>
  obtain⟨ta,tc,c0⟩:=Zlp h;have HA:=J (ZrW (u:=[]) rfl h);clear h;go_enter func302,ntmps302
  go_wp2_with fail
  refine HA.out.mono ?_;rintro e w2 ⟨⟨tv,v,rfl⟩,k2⟩;have K2:=J k2;clear k2;go_wp2;exact⟨rfl,⟨_,_,rfl⟩,K2.out⟩
 |cons c r=>
  have hs:=ZfU h;obtain⟨b,off,tc,ad,cp,c0,f0,c1,c2,h1,h2,HT⟩:=ZfH h;have h6:(0:Int)<(r.length:Int)+1:=by omega
  have h7:(0:Int)<((r.length+1:Nat):Int):=by omega
  clear h HT;have HS:=J hs;clear hs;have hB':=hB;go_enter func302,ntmps302
  go_wp2_with fail
  refine(ZsF c _).mono ?_;rintro e w1 ⟨na,rfl,ho,hk,hb⟩;have HO:=J ho;have HK:=J hk;have HB:=J hb;have HS1:=J (ZgX HS.out hb);have HB1:=J (hb.mono hB);clear ho hk hb c0 c1 c2 f0;by_cases hl:0<(ltR c).length
  ·have hl':(0:Int)<((ltR c).length:Int):=by omega
   have hl5:(ltR c).length<=500:=by unfold ltR;split<;>(try split)<;>(try split)<;>simp
   have E:Hid (bsP (c::r) X=some (r,X++[clN (Zvu c) (ltR c)])):=J (by rw[bsP,Zd hl]);have HN:=J (ZgN B R c r X w1 HS1.out);have CB:=J (λW=>ZCQ c 65 90 W);have HC:Hid (decide (65<=c/\c<=90)=Zvu c):=J rfl;rw[HC.out]at CB;obtain⟨L,hL⟩:=ZX (ltR c);rw[hL]at hl hl' hl5 HO HK E;rw[hL];obtain⟨cb,hcb⟩:=ZX (Zvu c);rw[hcb]at CB E;clear hL hcb HC hl;go_wp2_with fail
   refine ZM HN.out ?_;rintro w2 ⟨h2,k2⟩;have H2:=J h2;have HB2:=J (HB1.out.trans (ZcY HS1.out k2));have HO2:=J (Zcd HO.out k2 (λj hj e9=>by
    obtain⟨_,_,_,_,_,hx,_⟩:=HS1.out;exact Zbf HO.out hj hx (by decide) e9))
   have HA:=J (Zmw B R r X (clN cb L) na L.length w2 (by omega) hl5 h2 (λj hj=>hj.1) HO2.out (λk hk=>⟨ZDA hB (HK.out k hk),λh9=>by have:=HK.out k hk;omega⟩));clear h2 k2 HN;go_wp2_with (go_at_call 64;refine Zc (CB.out _) ?_)
   refine ZM HA.out ?_;rintro w3 ⟨h3,k3⟩;have H3:=J h3;have HB3:=J (HB2.out.trans k3);clear h3 k3 HA;go_wp2
   go_end0
   rw[E.out];exact⟨rfl,H3.out,HB3.out⟩
  ·have hl':¬(0:Int)<((ltR c).length:Int):=by omega
   have E0:Hid (bsP (c::r) X=match esP (c::r) with
    |none=>none
    |some (d,r')=>some (r',X++[ZmO d])):=J (by rw[bsP,Za hl];rfl)
   rcases hn:esP (c::r) with _|⟨d,r2⟩
   ·have E:Hid (bsP (c::r) X=none):=J (by rw[E0.out,hn]);have HE:=J (ZrW hn HS1.out);clear hn E0;go_wp2_with fail
    refine HE.out.mono ?_;rintro e w3 ⟨⟨tv,v,rfl⟩,k3⟩;have K3:=J (ZeO HB1.out ⟨⟨tv,v,rfl⟩,k3⟩);clear k3;go_wp2;rw[E.out];exact⟨rfl,K3.out⟩
   ·have E:Hid (bsP (c::r) X=some (r2,X++[ZmO d])):=J (by have h9:=E0.out;rw[hn]at h9;exact h9);have HE:=J (ZvR hn HS1.out);clear hn E0;go_wp2_with fail
    refine ZM HE.out ?_;rintro w2 ⟨h2,k2⟩;have H2:=J h2;have HB2:=J (HB1.out.trans (ZcY HS1.out k2));have hz2:w.heap.size<=w2.heap.size:=ZDA HB.out.size k2.size;clear h2 k2 HE;go_wp2_with fail
    refine(ZlL d _).mono ?_;rintro e w3 ⟨q,rfl,hq,hr3,hb3⟩;have HB3:=J (HB2.out.trans (hb3.mono (by omega)));have HA:=J (Zmw B R r2 X (ZmO d) (some ⟨q,0,none⟩) 1 w3 (by omega) (by simp[ZmO]) (ZgX H2.out hb3) (λj hj=>hj.1) hr3 (λk hk=>by
     have h9:q=k:=(by simpa[Value.ownBlock] using hk);refine⟨by omega,λh10=>?_⟩;have:k<w.heap.size:=h10.2;omega))
    clear hr3 hb3;go_wp2_with fail
    refine ZM HA.out ?_;rintro w4 ⟨h4,k4⟩;have H4:=J h4;have HB4:=J (HB3.out.trans k4);clear h4 k4 HA;go_wp2
    go_end0
    rw[E.out];exact⟨rfl,H4.out,HB4.out⟩
theorem Zm0:∀(L:List (Int×Int)) (a b:Int),prV (L++[(a,b)])=prV L++[I a,I b]
 |[],a,b=>rfl
 |p::L,a,b=>by rw[List.cons_append,prV,Zm0 L a b,prV];rfl
def rsN(R:Nat)(w:World):Nat:=match w.cell? ⟨R,0,none⟩ with
 |some (.slice _ n _)=>n
 |_=>0
theorem Zh8{S:Nat->Prop}{B R:Nat}{w:World}{u:List Int}{X:List Nd}(h:RD S B R w u X):rsN R w=u.length:=by
 obtain⟨ta,tc,ad,cp,c0,-⟩:=ZvF h;unfold rsN;rw[c0]
def BkN(w:World)(N:Nat)(nt:Bool)(ra:Option Addr)(n rc:Nat):Prop:=w.heap[N]?=some (.cells #[I 2,.bool nt,.slice ra n rc,I 0,I 0,I 0,I 0] 204 (0,0))
structure BK (B R N M:Nat) (w:World) (u:List Int) (X:List Nd) (nt:Bool) (ra:Option Addr) (L:List (Int×Int)) (rc:Nat):Prop where
 rd:RD (λj=>B<=j/\j<M) B R w u X
 nd:BkN w N nt ra L.length rc
 ow:w.ownsRow 0 238 2 (.slice ra L.length rc) L.length (prV L)
 hi:∀k,(Value.slice ra L.length rc).ownBlock=some k->M<=k
 hN:M<=N
 hB:B<=M
section
variable {B R N M:Nat} {w w':World} {u u':List Int} {X:List Nd} {nt:Bool} {ra:Option Addr} {L:List (Int×Int)} {rc:Nat}
theorem Zb6(h:BkN w N nt ra M rc):(w.cell? ⟨N,0,none⟩=some (I 2)/\w.cell? ⟨N,1,none⟩=some (.bool nt)/\w.cell? ⟨N,2,none⟩=some (.slice ra M rc)/\w.cell? ⟨N,3,none⟩=some (I 0)/\w.cell? ⟨N,4,none⟩=some (I 0)/\w.cell? ⟨N,5,none⟩=some (I 0)/\w.cell? ⟨N,6,none⟩=some (I 0))/\w.frozen? ⟨N,2,none⟩=false:=by
 have e:∀i,w.cell? ⟨N,i,none⟩=(#[I 2,.bool nt,.slice ra M rc,I 0,I 0,I 0,I 0]:Array Value)[i]?:=λi=>by rw[ZO w N i _ _ (0,0) h]
 exact⟨⟨e 0,e 1,e 2,e 3,e 4,e 5,e 6⟩,ZEm w N 2 _ _ h⟩
theorem ZwC(h:BkN w N nt ra M rc){S:Nat->Prop}(hr:RD S B R w u X):N≠R:=by
 rintro rfl;obtain⟨_,_,_,_,_,hx,_⟩:=hr;unfold XR at hx;rw[h]at hx;simp only[ZDJ,Obj.cells.injEq]at hx;exact absurd hx.2.1 (by decide)
theorem Zmd(h:BkN w N nt ra M rc):N<w.heap.size:=(Array.getElem?_eq_some_iff.1 h).1
theorem ZBS(h:BK B R N M w u X nt ra L rc)(k:Kp (λj=>j=R) w w')(hr:RD (λj=>B<=j/\j<M) B R w' u' X):BK B R N M w' u' X nt ra L rc:=by
 refine⟨hr,(k.block N (Zmd h.nd) (ZwC h.nd h.rd)).trans h.nd,Zcd h.ow k (λj hj e=>?_),h.hi,h.hN,h.hB⟩;obtain⟨_,_,_,_,_,hx,_⟩:=h.rd;exact Zbf h.ow hj hx (by decide) e
theorem ZyY{T:Nat->Prop}(h:RD (λj=>B<=j/\j<M) B R w u X)(k:Kp T w w')(hT:∀j,T j->M<=j)(hTR:¬T R)(hB:B<=M):RD (λj=>B<=j/\j<M) B R w' u X:=by
 obtain⟨h0,ta,tc,ad,c,h1,h2,h3,h4⟩:=h;have hlt:=Zk1 h1;exact⟨h0,ta,tc,ad,c,(k.block R hlt hTR).trans h1,ZbG h2 (ZaB k (by omega) (λj hj=>by have:=hT j hj;omega)),Ztd h3 k (λj hj ht=>by have:=(h4 j hj).2;have:=hT j ht;omega) (λB' z n v ys j hv hj hs ht=>by have:=hs.2;have:=hT j ht;omega),h4⟩
theorem Zwc{a b:Int}{gg cap':Nat}{w9:World}{o:Obj}(h:BK B R N M w u X nt ra L rc)(hown9:w9.ownsRow 0 238 2 (.slice (some ⟨gg,0,none⟩) (L.length+1) cap') (L.length+1) (prV L++[I a,I b]))(hg:(w.alloc o).grownBy w9 (Value.slice ra L.length rc).ownBlock)(hat:(Value.slice ra L.length rc).ownBlock=some gg\/gg=w.heap.size+1):
  w9.cell? ⟨N,2,none⟩=some (.slice ra L.length rc)/\w9.frozen? ⟨N,2,none⟩=false/\BK B R N M (w9.setCell ⟨N,2,none⟩ (.slice (some ⟨gg,0,none⟩) (L.length+1) cap')) u X nt (some ⟨gg,0,none⟩) (L++[(a,b)]) cap'/\Below B w (w9.setCell ⟨N,2,none⟩ (.slice (some ⟨gg,0,none⟩) (L.length+1) cap')):=by
 have hk:Kp (λj=>(Value.slice ra L.length rc).ownBlock=some j) w w9:=(Zay w o).trans (Zca (S:=λj=>(Value.slice ra L.length rc).ownBlock=some j) hg (λj hj=>hj)) (λj _ hj=>hj);have hx:∃ta n tc ad m c,XR w R ta n tc ad m c:=by obtain⟨_,ta,tc,ad,c,hx,_⟩:=h.rd;exact⟨_,_,_,_,_,_,hx⟩
 obtain⟨_,_,_,_,_,_,hx⟩:=hx;have n9:BkN w9 N nt ra L.length rc:=(hk.block N (Zmd h.nd) (λe=>Zbf h.ow e h.nd (by decide) rfl)).trans h.nd;have r9:=ZyY h.rd hk h.hi (λe=>Zbf h.ow e hx (by decide) rfl) h.hB;have ks:Kp (λj=>j=N) w9 (w9.setCell ⟨N,2,none⟩ (.slice (some ⟨gg,0,none⟩) (L.length+1) cap')):=Zex (S:=λj=>j=N) _ _ _ rfl;have r10:=ZyY r9 ks (λj hj=>by have hj':j=N:=hj;have:=h.hN;omega) (λe=>ZwC n9 r9 e.symm) h.hB;have hl:(L++[(a,b)]).length=L.length+1:=by simp
 have hlt:=Zmd h.nd;have hN:=h.hN;have hB:=h.hB;refine⟨(Zb6 n9).1.2.2.1,(Zb6 n9).2,⟨r10,?_,?_,?_,h.hN,h.hB⟩,?_⟩
 ·rw[hl];exact ZEk w9 N 2 _ _ _ n9
 ·rw[hl,Zm0];exact Zcd hown9 ks (λj hj=>Zbf hown9 hj n9 (by decide))
 ·intro k hk9;have e:gg=k:=by simpa[Value.ownBlock] using hk9
  subst e;rcases hat with e|e
  ·exact h.hi gg e
  ·omega
 ·exact(ZaB hk (by omega) (λj hj=>by have:=h.hi j hj;omega)).trans (ZaB ks (by have:=hk.size;omega) (λj hj=>by have hj':j=N:=hj;omega))
end
def BrE(u:List Int)(X:List Nd)(nt:Bool)(f:Nat)(v:List Int)(L:List (Int×Int)):Prop:=v.length+1<=f/\brP u X=match brF f v L with
 |none=>none
 |some (r,L')=>some (r,X++[clN nt L'])
theorem ZpE(B R:Nat)(u:List Int)(X:List Nd)(w:World)(hX:X.length<=4000)(hu:u.length<=400)(h:RD (λj=>B<=j) B R w u X):Calls prog 301 #[.pointer (some ⟨R,0,none⟩)] w (RaI B R w (brP u X)):=by
 obtain⟨i0,hi0,hz0,hz1,hz2⟩:=info_parts Zvf;have hB:=Zg2 h;have hs:=ZfU h;have E0:∃(nt:Bool) (v:List Int),v.length<=u.length/\BrE u X nt (u.length+1) v []/\Calls prog 259 #[.pointer (some ⟨R,0,none⟩),I 94] w λe w'=>e=.returned (.bool nt)/\RD (λj=>B<=j/\j<w.heap.size) B R w' v X/\Kp (λj=>j=R) w w':=by
  by_cases e:u.head?=some 94
  ·refine⟨true,u.tail,ZdK u,⟨by have:=ZdK u;omega,?_⟩,?_⟩
   ·unfold brP;rw[Zd e,Zh e];rfl
   ·have hs':=hs;rw[ZaH e]at hs';exact Zco B R 94 u.tail X w hs'
  ·refine⟨false,u,Zb _,⟨Zb _,?_⟩,?_⟩
   ·unfold brP;rw[Za e,Zg e];rfl
   ·refine(Zb4 B R 94 u X w hs e).mono ?_;rintro e9 w9 ⟨rfl,rfl⟩;exact⟨rfl,hs,Kp.refl _ _⟩
 obtain⟨nt,v,hv,hE,hT⟩:=E0;have HT:=J hT;have HE:=J hE;have HS:=J hs;clear h hs hT hE;go_enter func301,ntmps301
 go_wp2_with fail
 refine ZM HT.out ?_;rintro w1 ⟨h1,k1⟩;have hsz1:=k1.size;have bA:=(Ze w1.heap.size w1).alloc (Zb _) (.cells #[I 2,.bool nt,.slice none 0 0,I 0,I 0,I 0,I 0] 204);have HBK:Hid (BK B R w1.heap.size w.heap.size (w1.alloc (.cells #[I 2,.bool nt,.slice none 0 0,I 0,I 0,I 0,I 0] 204)) v X nt none [] 0):=J ⟨ZgX h1 bA,Zz w1 _,ZEo _ _ _ _,λk hk=>(by cases hk),hsz1,hB⟩;have HB1:Hid (Below B w (w1.alloc (.cells #[I 2,.bool nt,.slice none 0 0,I 0,I 0,I 0,I 0] 204))):=J ((ZcY HS.out k1).trans (bA.mono (by omega)));obtain⟨N,hN⟩:=ZX w1.heap.size;rw[hN]at HBK;clear h1 k1 HT HS bA;go_wp2_with fail
 clear hN hsz1
 go_loopw [] (λwr=>∃(ul:List Int) (ra:Option Addr) (L:List (Int×Int)) (rc f:Nat),ul.length+L.length<=400/\Hid (BK B R N w.heap.size wr ul X nt ra L rc)/\Hid (Below B w wr)/\Hid (BrE u X nt f ul L)) (λwr=>rsN R wr)
 case atStart=>exact⟨v,none,[],0,_,by simp;omega,HBK,HB1,HE⟩
 case round=>
  clear HBK HB1 HE;obtain⟨ul,ra,L,rc,f,hul,HBK,HB,HE⟩:=hrel;have hmeas:=Zh8 HBK.out.rd;obtain⟨f,rfl⟩:∃g,f=g+1:=⟨f-1,by have:=HE.out.1;omega⟩;by_cases e1:ul.head?=some 93
  ·obtain⟨q,rfl⟩:∃q,ul=93::q:=⟨_,ZaH e1⟩;have E:Hid (brP u X=some (q,X++[clN nt L])):=J (by rw[HE.out.2,brF,Zd e1];rfl);have HT:=J (Zco B R 93 q X wr HBK.out.rd);clear HE e1;go_wp2_with fail
   refine ZM HT.out ?_;rintro w2 ⟨h2,k2⟩;have HBK2:=J (ZBS HBK.out k2 h2);have HB2:=J (HB.out.trans (ZcY HBK.out.rd k2));obtain⟨⟨n0,n1,n2,n3,n4,n5,n6⟩,nf⟩:=Zb6 HBK2.out.nd;have HA:=J (Zmw B R q X (clN nt L) ra rc w2 (by omega) (by show L.length<=500;simp at hul;omega) h2 (λj hj=>hj.1) HBK2.out.ow (λk hk=>by have h9:=HBK2.out.hi k hk;exact⟨ZDA hB h9,λh10=>by have:=h10.2;omega⟩));clear h2 k2 HT HBK;go_wp2_with fail
   refine ZM HA.out ?_;rintro w3 ⟨h3,k3⟩;have H3:=J h3;have HB3:=J (HB2.out.trans k3);clear h3 k3 HA;go_wp2
   go_end0
   rw[E.out];exact⟨rfl,H3.out,HB3.out⟩
  ·have HT:=J (Zb4 B R 93 ul X wr HBK.out.rd e1);rcases hn:inP ul with _|⟨a,u1⟩
   ·have E:Hid (brP u X=none):=J (by rw[HE.out.2,brF,Za e1,hn]);have HI:=J (ZAg hn HBK.out.rd);clear HE e1 hn;go_wp2_with (go_at_call 259;refine Zc HT.out ?_)
    refine HI.out.mono ?_;rintro e w3 ⟨⟨tv,v,rfl⟩,k3⟩;have K3:=J (ZeO HB.out ⟨⟨tv,v,rfl⟩,k3⟩);clear k3;go_wp2;rw[E.out];exact⟨rfl,K3.out⟩
   ·have hl1:=ZiC hn;have HI:=J (ZAd hn HBK.out.rd);have HE1:Hid (brP u X=match (if u1.head?=some 45 then (match inP u1.tail with
    |none=>none
    |some (b,u2)=>brF f u2 (L++[(a,b)]))
   else brF f u1 (L++[(a,a)])) with
     |none=>none
     |some (r,L')=>some (r,X++[clN nt L'])):=J (by rw[HE.out.2,brF,Za e1,hn];rfl)
    have hf:=HE.out.1;clear HE e1 hn;go_wp2_with (go_at_call 259;refine Zc HT.out ?_)
    refine ZM HI.out ?_;rintro w2 ⟨h2,k2⟩;have HBK2:=J (ZBS HBK.out k2 h2);have HB2:=J (HB.out.trans (ZcY HBK.out.rd k2));clear k2 HT HI HBK HB;by_cases e2:u1.head?=some 45
    ·obtain⟨q,rfl⟩:∃q,u1=45::q:=⟨_,ZaH e2⟩;have HT:=J (Zco B R 45 q X w2 h2);have HE2:Hid (brP u X=match (match inP q with
    |none=>none
    |some (b,u2)=>brF f u2 (L++[(a,b)])) with
     |none=>none
     |some (r,L')=>some (r,X++[clN nt L'])):=J (by rw[HE1.out,Zd e2];rfl)
     clear h2 HE1 e2;go_wp2_with fail
     refine ZM HT.out ?_;rintro w3 ⟨h3,k3⟩;have HBK3:=J (ZBS HBK2.out k3 h3);have HB3:=J (HB2.out.trans (ZcY HBK2.out.rd k3));clear k3 HT HBK2 HB2;rcases hn2:inP q with _|⟨b,u2⟩
     ·have E:Hid (brP u X=none):=J (by rw[HE2.out,hn2]);have HI:=J (ZAg hn2 h3);clear h3 HE2 hn2;go_wp2_with fail
      refine HI.out.mono ?_;rintro e w4 ⟨⟨tv,v,rfl⟩,k4⟩;have K4:=J (ZeO HB3.out ⟨⟨tv,v,rfl⟩,k4⟩);clear k4;go_wp2;rw[E.out];exact⟨rfl,K4.out⟩
     ·have hl2:=ZiC hn2;have HE3:Hid (brP u X=match brF f u2 (L++[(a,b)]) with
       |none=>none
       |some (r,L')=>some (r,X++[clN nt L'])):=J (by rw[HE2.out,hn2])
      have HI:=J (ZAd hn2 h3);clear h3 HE2 hn2;go_wp2_with fail
      refine ZM HI.out ?_;rintro w4 ⟨h4,k4⟩;have HBK4:=J (ZBS HBK3.out k4 h4);have HB4:=J (HB3.out.trans (ZcY HBK3.out.rd k4));obtain⟨⟨n0,n1,n2,n3,n4,n5,n6⟩,nf⟩:=Zb6 HBK4.out.nd;have HOW:=J HBK4.out.ow;have hl3:(prV L).length=L.length*2:=ZmU L;obtain⟨m,hm⟩:=ZX L.length;have HM:=J hm;have hm4:m<=400:=(by omega);rw[hm]at n2 HOW;simp only[ZDB]at hl1 hl2 hul hmeas;clear h4 k4 HI HBK3 HB3 n0 n1 n3 n4 n5 n6 hm hl3;go_wp2_with (at_builtin;refine wpList_append_lies _ (by rfl) (.tmp 19) (.tmp 23) 202 (by rfl) 0 238 i0 _ 2 16 underlying202 hi0 hz0 hz1 hz2 rfl (by omega) (.slice ra m rc) m (prV L) (by rfl) (HOW.out.alloc _) ⟨w4.heap.size,0,none⟩ 1 1 [I a,I b] (by rfl) (by rfl) (World.news_of_block (cs:=#[I a,I b]) (t:=238) (fr:=(0,0)) (Zz w4 _)) (by simp[Value.oneCell']) (by omega) (by unfold maxLen;omega) (by omega) (by simp<;>omega) (w4.heap.size+1) (by simp) ?_;intro gg cap' w9 hown9 hgrow9 hat9 hlt9;rw[<-HM.out]at hown9 hgrow9 hat9 ⊢;obtain⟨hc9,hf9,h9,hb9⟩:=Zwc HBK4.out hown9 hgrow9 hat9;have H9:=J h9;have HB9:=J (HB4.out.trans hb9);clear hown9 hgrow9 hat9 h9 hb9)
      go_roundw
      case rel=>exact⟨u2,some ⟨gg,0,none⟩,L++[(a,b)],cap',f,by simp;omega,H9,HB9,J ⟨by omega,HE3.out⟩⟩
      case measure=>rw[Zh8 H9.out.rd,hmeas];omega
    ·have HT:=J (Zb4 B R 45 u1 X w2 h2 e2);have HE3:Hid (brP u X=match brF f u1 (L++[(a,a)]) with
       |none=>none
       |some (r,L')=>some (r,X++[clN nt L'])):=J (by rw[HE1.out,Za e2])
     obtain⟨⟨n0,n1,n2,n3,n4,n5,n6⟩,nf⟩:=Zb6 HBK2.out.nd;have HOW:=J HBK2.out.ow;obtain⟨m,hm⟩:=ZX L.length;have HM:=J hm;have hm4:m<=400:=(by omega);rw[hm]at n2 HOW;clear h2 HE1 e2 n0 n1 n3 n4 n5 n6 hm;go_wp2_with (first|(go_at_call 259;refine Zc HT.out ?_)|(at_builtin;refine wpList_append_lies _ (by rfl) (.tmp 19) (.tmp 23) 202 (by rfl) 0 238 i0 _ 2 16 underlying202 hi0 hz0 hz1 hz2 rfl (by omega) (.slice ra m rc) m (prV L) (by rfl) (HOW.out.alloc _) ⟨w2.heap.size,0,none⟩ 1 1 [I a,I a] (by rfl) (by rfl) (World.news_of_block (cs:=#[I a,I a]) (t:=238) (fr:=(0,0)) (Zz w2 _)) (by simp[Value.oneCell']) (by omega) (by unfold maxLen;omega) (by omega) (by simp<;>omega) (w2.heap.size+1) (by simp) ?_;intro gg cap' w9 hown9 hgrow9 hat9 hlt9;rw[<-HM.out]at hown9 hgrow9 hat9 ⊢;obtain⟨hc9,hf9,h9,hb9⟩:=Zwc HBK2.out hown9 hgrow9 hat9;have H9:=J h9;have HB9:=J (HB2.out.trans hb9);clear hown9 hgrow9 hat9 h9 hb9))
     go_roundw
     case rel=>exact⟨u1,some ⟨gg,0,none⟩,L++[(a,a)],cap',f,by simp;omega,H9,HB9,J ⟨by omega,HE3.out⟩⟩
     case measure=>rw[Zh8 H9.out.rd,hmeas];omega
section
variable {S:Nat->Prop} {w w':World} {B R:Nat} {C:List Int} {k:Nat} {bd:Bool} {X:List Nd}
theorem Zhl(h:SD (λj=>B<=j) B R w C k bd X):SD (λj=>B<=j/\j<w.heap.size) B R w C k bd X:=by
 obtain⟨h0,ta,tc,ad,c,h1,h2,h3⟩:=h;refine⟨h0,ta,tc,ad,c,h1,h2,ZhE h3.1 (λk hk hs=>⟨hs,hk⟩),λk hk=>⟨h3.2 k hk,?_⟩⟩;obtain⟨xs,ho,-⟩:=h3.1;exact(ho.lt k hk).2
theorem Zdy{M:Nat}(h:SD (λj=>B<=j/\j<M) B R w C k bd X):SD (λj=>B<=j) B R w C k bd X:=by
 obtain⟨h0,ta,tc,ad,c,h1,h2,h3,h4⟩:=h;exact⟨h0,ta,tc,ad,c,h1,h2,ZhE h3 (λk _ hs=>hs.1),λk hk=>(h4 k hk).1⟩
theorem Zxh{T:Nat->Prop}{M:Nat}(h:SD (λj=>B<=j/\j<M) B R w C k bd X)(q:Kp T w w')(hT:∀j,T j->M<=j)(hTR:¬T R)(hB:B<=M):SD (λj=>B<=j/\j<M) B R w' C k bd X:=by
 obtain⟨h0,ta,tc,ad,c,h1,h2,h3,h4⟩:=h;have hlt:=ZpC h1;exact⟨h0,ta,tc,ad,c,(q.block R hlt hTR).trans h1,ZbG h2 (ZaB q (by omega) (λj hj=>by have:=hT j hj;omega)),Ztd h3 q (λj hj ht=>by have:=(h4 j hj).2;have:=hT j ht;omega) (λB' z n v ys j hv hj hs ht=>by have:=hs.2;have:=hT j ht;omega),h4⟩
theorem Zzn{nk:Int}{nt:Bool}{L:List (Int×Int)}{a b mn mx:Int}{na:Option Addr}{nc nL m:Nat}{gg cap':Nat}{w9:World}{o:Obj}{ta ad:Option Addr}{tc c:Nat}{xs:List Value}(hm:X.length=m)(hnL:L.length=nL)(h0:B<=R/\k<=C.length/\C.length<=400)(h1:SX w R ta C.length tc k bd ad X.length c)(h2:Tx B w ta tc C)(hown:w.ownsRow B 204 7 (.slice ad m c) m xs)(hits:Zgv 500 S w xs X)(hdj:Dj7 xs X.length)(hL:L.length<=500)(hS:∀j,S j->B<=j)
  (ho:w.ownsRow 0 238 2 (.slice na nL nc) nL (prV L)) (hk:∀k,(Value.slice na L.length nc).ownBlock=some k->B<=k/\¬S k)
  (hown9:w9.ownsRow B 204 7 (.slice (some ⟨gg,0,none⟩) (m+1) cap') (m+1) (xs++[I nk,.bool nt,.slice na nL nc,I a,I b,I mn,I mx])) (hg:(w.alloc o).grownBy w9 (Value.slice ad m c).ownBlock) (hat:(Value.slice ad m c).ownBlock=some gg\/gg=w.heap.size+1):
  w9.cell? ⟨R,3,none⟩=some (.slice ad m c)/\w9.frozen? ⟨R,3,none⟩=false/\SD (λj=>B<=j) B R (w9.setCell ⟨R,3,none⟩ (.slice (some ⟨gg,0,none⟩) (m+1) cap')) C k bd (X++[⟨nk,nt,L,a,b,mn,mx⟩])/\Below B w (w9.setCell ⟨R,3,none⟩ (.slice (some ⟨gg,0,none⟩) (m+1) cap')):=by
 subst hm;subst hnL;have hlt:=ZpC h1;have hkp:Kp (λj=>(Value.slice ad X.length c).ownBlock=some j) w w9:=(Zay w o).trans (Zca (S:=λj=>(Value.slice ad X.length c).ownBlock=some j) hg (λj hj=>hj)) (λj _ hj=>hj);have r9:SX w9 R ta C.length tc k bd ad X.length c:=(hkp.block R hlt (λe=>Zbf hown e h1 (by decide) rfl)).trans h1;have b9:Below B w w9:=ZaB hkp (by omega) (λk hk9=>(hown.lt k hk9).1);have ks:=Zd9 w9 R 3 (.slice (some ⟨gg,0,none⟩) (X.length+1) cap');have bs:Below B w9 (w9.setCell ⟨R,3,none⟩ (.slice (some ⟨gg,0,none⟩) (X.length+1) cap')):=ZaB ks (by have:=hkp.size;omega) (λj hj=>by have hj':j=R:=hj;omega);have i1:Zgv 500 (λj=>B<=j) w xs X:=ZjI hits (λk _ hs=>hS k hs);have i2:=Zlw i1 hown.1 (nd:=⟨nk,nt,L,a,b,mn,mx⟩) ho (λk hk9=>(hk k hk9).1) hL;have d2:=Zor hdj hown.1 (nd:=⟨nk,nt,L,a,b,mn,mx⟩) (ad:=na) (cp:=nc) (λj k hj hk9 e=>(hk k e).2 (Zqy hits hj hk9).1);have i3:=Zh2 i2 hkp (λB' z n v ys j hv hj _ e=>Zwz hv hj hown e (by decide) rfl);have hl:(X++[(⟨nk,nt,L,a,b,mn,mx⟩:Nd)]).length=X.length+1:=by simp
 have hgB:B<=gg:=by
  rcases hat with e|e
  ·exact(hown.lt gg e).1
  ·omega
 refine⟨(ZfR r9).2.2.2,ZkN r9 3,⟨h0,ta,tc,some ⟨gg,0,none⟩,cap',?_,ZbG (ZbG h2 b9) bs,?_,λk hk9=>by have h9:gg=k:=(by simpa[Value.ownBlock] using hk9);omega⟩,b9.trans bs⟩
 ·rw[hl];exact ZC4 r9 _ _ _
 ·refine ZAW r9 ⟨_,?_,i3,?_⟩ ks
  ·rw[hl];exact hown9
  ·rw[hl];exact d2
end
theorem ZrH{S:Nat->Prop}(B R:Nat)(C:List Int)(k:Nat)(X:List Nd)(nd:Nd)(na:Option Addr)(nc:Nat)(w:World)(hX:X.length<=120)(hL:nd.L.length<=500)(h:SD S B R w C k false X)(hS:∀j,S j->B<=j)(ho:w.ownsRow 0 238 2 (.slice na nd.L.length nc) nd.L.length (prV nd.L))(hk:∀k,(Value.slice na nd.L.length nc).ownBlock=some k->B<=k/\¬S k):
  Calls prog 181 #[.pointer (some ⟨R,0,none⟩),.agg #[I nd.k,.bool nd.nt,.slice na nd.L.length nc,I nd.a,I nd.b,I nd.mn,I nd.mx]] w λe w'=>e=.returned (I (X.length:Int))/\SD (λj=>B<=j) B R w' C k (decide (120<X.length+1)) (X++[nd])/\Below B w w':=by
 obtain⟨i0,hi0,hz0,hz1,hz2⟩:=info_parts ZvV;obtain⟨nk,nt,L,a,b,mn,mx⟩:=nd;obtain⟨nL,hnL⟩:=ZX L.length;have hbB:=ZcI h;have bA:Below B w (w.alloc (.cells #[I nk,.bool nt,.slice na L.length nc,I a,I b,I mn,I mx] 204)):=(Ze B w).alloc hbB _;obtain⟨h0,ta,tc,ad,c,h1,h2,h3⟩:=Zg9 h ((Ze w.heap.size w).alloc (Zb _) (.cells #[I nk,.bool nt,.slice na L.length nc,I a,I b,I mn,I mx] 204));have o1:=Zcd ho (Zay (S:=λ_=>False) w (.cells #[I nk,.bool nt,.slice na L.length nc,I a,I b,I mn,I mx] 204)) (λ_ _ x=>x);have hG:=Zz w (.cells #[I nk,.bool nt,.slice na L.length nc,I a,I b,I mn,I mx] 204);have hsz:w.heap.size<(w.alloc (.cells #[I nk,.bool nt,.slice na L.length nc,I a,I b,I mn,I mx] 204)).heap.size:=by simp
 simp only[hnL]at hG h1 h2 h3 o1 hsz bA;obtain⟨G,hGw⟩:=ZX w.heap.size;go_enter func181,ntmps181
 simp only[hnL];go_wp2_with fail
 obtain⟨W,hW⟩:=ZX (w.alloc (.cells #[I nk,.bool nt,.slice na nL nc,I a,I b,I mn,I mx] 204));rw[hGw]at hG hsz;rw[hW]at hG h1 h2 h3 o1 hsz bA;rw[hW];clear hW;obtain⟨xs,hown,hits,hdj⟩:=h3.1;have hBW:B<=W.heap.size:=by omega
 have hRW:=ZpC h1;have cG:∀i,W.drew.cell? ⟨G,i,none⟩=(#[I nk,.bool nt,.slice na nL nc,I a,I b,I mn,I mx]:Array Value)[i]?:=λi=>by rw[ZO W.drew G i _ _ (0,0) hG]
 have g0:W.drew.cell? ⟨G,0,none⟩=some (I nk):=cG 0;have g1:W.drew.cell? ⟨G,1,none⟩=some (.bool nt):=cG 1;have g2:W.drew.cell? ⟨G,2,none⟩=some (.slice na nL nc):=cG 2;have g3:W.drew.cell? ⟨G,3,none⟩=some (I a):=cG 3;have g4:W.drew.cell? ⟨G,4,none⟩=some (I b):=cG 4;have g5:W.drew.cell? ⟨G,5,none⟩=some (I mn):=cG 5;have g6:W.drew.cell? ⟨G,6,none⟩=some (I mx):=cG 6;have r1:W.drew.cell? ⟨R,3,none⟩=some (.slice ad X.length c):=(ZfR (w:=W.drew) h1).2.2.2;have r1a:∀o,(W.alloc o).cell? ⟨R,3,none⟩=some (.slice ad X.length c):=λo=>(ZfR (w:=W.alloc o) ((Zay (S:=λ_=>False) W o).block R hRW (λx=>x) |>.trans h1)).2.2.2
 have r1b:∀o,(W.alloc o).drew.cell? ⟨R,3,none⟩=some (.slice ad X.length c):=λo=>r1a o
 have H1:=J h1;have H2:=J h2;have HOW:=J hown;have HIT:=J hits;have HDJ:=J hdj;have HS:=J hS;have HK:=J hk;have HO:=J o1;have HA:=J bA;obtain⟨m,hm⟩:=ZX X.length;have HM:=J hm;rw[hm]at r1 r1a r1b hX HOW;clear cG h1 h2 hown hits hdj hS hk o1 bA h ho hG hm hGw hbB
 go_cut [] (λwx=>SD (λj=>B<=j) B R wx C k false (X++[⟨nk,nt,L,a,b,mn,mx⟩])/\Below B w wx)
 case first=>
  go_region_law (first
   |(refine step_append_lies _ (by rfl) _ _ _ (by rfl) B 204 i0 _ 7 72 underlying57 hi0 hz0 hz1 hz2 rfl (by omega) (.slice ad m c) m xs (by rfl) (HOW.out.alloc _).drew ⟨W.heap.size,0,none⟩ 1 1 [I nk,.bool nt,.slice na nL nc,I a,I b,I mn,I mx] (by rfl) (by rfl) (World.news_of_block (cs:=#[I nk,.bool nt,.slice na nL nc,I a,I b,I mn,I mx]) (t:=204) (fr:=(0,0)) (Zz W _)) (by simp[Value.oneCell']) (by omega) (by unfold maxLen;omega) (by omega) (by simp;omega) (W.heap.size+1) (by simp) ?_;intro gg cap' w9 hown9 hgrow9 hat9 hlt9;have hgr9:=ZfO hgrow9;obtain⟨hc9,hf9,h9,hb9⟩:=Zzn HM.out hnL h0 H1.out H2.out HOW.out HIT.out HDJ.out hL HS.out HO.out HK.out hown9 hgr9 hat9;have H9:=J h9;have HB9:=J (HA.out.trans hb9);clear hown9 hgrow9 hgr9 hat9 h9 hb9)
   |(fail))
  all_goals
   go_wp2;go_meet
   exact⟨H9.out,HB9.out⟩
 case rest=>
  obtain⟨h9,hb9⟩:=hcut;have hl:(X++[(⟨nk,nt,L,a,b,mn,mx⟩:Nd)]).length=m+1:=by rw[ZDz,HM.out];rfl
  obtain⟨ta9,tc9,ad9,cp9,⟨c0,c1,c2,c3⟩,f9,-⟩:=Zal h9;have f2:=f9 2;rw[hl]at c3;have H9:=J h9;have HB9:=J hb9;have hwm:IntKind.i64.wrap ((m:Int)+1-1)=(m:Int):=by rw[ZY];omega
  have hwm2:IntKind.i64.wrap (((m+1:Nat):Int)-1)=(m:Int):=by rw[ZY];omega
  have hwm3:IntKind.i64.wrap (m:Int)=(m:Int):=by rw[ZY];omega
  clear h9 hb9 hl f9 H1 H2 HOW HIT HDJ HS HK HO HA g0 g1 g2 g3 g4 g5 g6 r1 r1a r1b hsz;by_cases hbig:120<m+1
  ·have hb1:(120:Int)<(m:Int)+1:=by omega
   have hb2:(120:Int)<((m+1:Nat):Int):=by omega
   have HS2:=J (Zia H9.out true);have HB2:=J (HB9.out.trans (ZU H9.out (Zd9 _ R 2 (.bool true))));have HD:Hid (decide (120<m+1)=true):=J (Zh hbig);go_wp2;go_ret;rw[HM.out,HD.out];exact⟨by simp,HS2.out,HB2.out⟩
  ·have hb1:¬(120:Int)<(m:Int)+1:=by omega
   have hb2:¬(120:Int)<((m+1:Nat):Int):=by omega
   have HD:Hid (decide (120<m+1)=false):=J (Zg hbig);go_wp2;go_ret;rw[HM.out,HD.out];exact⟨by simp,H9.out,HB9.out⟩
def MnA(c:Int)(w:World)(e:Ending)(w':World):Prop:=
 if 0<(ltR c).length then ∃na,e=.returned (.tuple #[.agg #[I 2,.bool (Zvu c),.slice na (ltR c).length (ltR c).length,I 0,I 0,I 0,I 0],.bool true])/\w'.ownsRow 0 238 2 (.slice na (ltR c).length (ltR c).length) (ltR c).length (prV (ltR c))/\(∀k,(Value.slice na (ltR c).length (ltR c).length).ownBlock=some k->w.heap.size<=k)/\ZL w w'
 else e=.returned (.tuple #[.agg #[I 0,.bool false,.slice none 0 0,I 0,I 0,I 0,I 0],.bool false])/\ZL w w'
theorem ZrL{w:World}{c:Int}{L:List (Int×Int)}{n:Nat}{b:Bool}{cs:Array Value}(o1 o2:Obj)(hL:ltR c=L)(hn:L.length=n)(hp:0<n)(hl:n<=500)(hc:cs.toList=prV L)(hb:Zvu c=b):MnA c w (.returned (.tuple #[.agg #[I 2,.bool b,.slice (some ⟨w.heap.size+1+1,0,none⟩) n n,I 0,I 0,I 0,I 0],.bool true])) (((w.alloc o1).alloc o2).alloc (.cells cs 238)):=by
 unfold MnA;rw[hL,hb,hn,Zd hp];have hs:((w.alloc o1).alloc o2).heap.size=w.heap.size+1+1:=by simp
 have h1:=Zz ((w.alloc o1).alloc o2) (.cells cs 238);rw[hs]at h1;refine⟨_,rfl,Zh1 hn hl hc h1,λk hk=>?_,(((Ze w.heap.size w).alloc (Zb _) o1).alloc (by simp) o2).alloc (by simp;omega) _⟩;have h9:w.heap.size+1+1=k:=(by simpa[Value.ownBlock] using hk);omega
theorem ZBO(c:Int)(w:World):Calls prog 281 #[I c] w (MnA c w):=by
 by_cases e1:c=100\/c=68
 ·rcases e1 with rfl|rfl
  all_goals
   go_enter func281,ntmps281
   go_wp2;refine bodyPost_ret (by simp[results,results281,go_sem];rfl) rfl ?_;exact ZrL _ _ (L:=[(48,57)]) rfl rfl (by omega) (by omega) rfl rfl
 ·by_cases e2:c=119\/c=87
  ·clear e1;rcases e2 with rfl|rfl
   all_goals
    go_enter func281,ntmps281
    go_wp2;refine bodyPost_ret (by simp[results,results281,go_sem];rfl) rfl ?_;exact ZrL _ _ (L:=[(48,57),(65,90),(95,95),(97,122)]) rfl rfl (by omega) (by omega) rfl rfl
  ·by_cases e3:c=115\/c=83
   ·clear e1 e2;rcases e3 with rfl|rfl
    all_goals
     go_enter func281,ntmps281
     go_wp2;refine bodyPost_ret (by simp[results,results281,go_sem];rfl) rfl ?_;exact ZrL _ _ (L:=[(9,10),(13,13),(32,32)]) rfl rfl (by omega) (by omega) rfl rfl
   ·have E:Hid (ltR c=[]):=J (by unfold ltR;rw[Za e1,Za e2,Za e3]);have b1:(c==100)=false:=(by simp;omega);have b2:(c==68)=false:=(by simp;omega);have b3:(c==119)=false:=(by simp;omega);have b4:(c==87)=false:=(by simp;omega);have b5:(c==115)=false:=(by simp;omega);have b6:(c==83)=false:=(by simp;omega);clear e1 e2 e3;go_enter func281,ntmps281
    go_wp2;refine bodyPost_ret (by simp[results,results281,go_sem];rfl) rfl ?_;unfold MnA;rw[E.out,Za (by simp)];exact⟨rfl,((Ze w.heap.size w).alloc (Zb _) _).alloc (by simp) _⟩
end
section
open Go.RowKit Go.Joins Go.Maps
def MG(B:Nat)(w:World)(R:Nat)(v0 v2 v3:Value)(M:List Sp):Prop:=B<=w.heap.size/\∃xs T sa sc,w.heap[R]?=some (.cells xs T (0,0))/\T≠233/\(xs[13]?=some v0/\xs[14]?=some (.slice sa M.length sc)/\xs[15]?=some v2/\xs[16]?=some v3)/\w.ownsRow B 233 4 (.slice sa M.length sc) M.length (spV M)
section
variable {w w':World} {B R m sc:Nat} {v0 v2 v3:Value} {sa:Option Addr} {M:List Sp}
theorem ZtE(h:MG B w R v0 v2 v3 M):B<=w.heap.size/\R<w.heap.size:=by
 obtain⟨h0,xs,T,sa,sc,h1,-⟩:=h;exact⟨h0,(Array.getElem?_eq_some_iff.1 h1).1⟩
theorem ZBq{S:Nat->Prop}(h:MG B w R v0 v2 v3 M)(k:Kp S w w')(hR:¬S R)(hS:∀j cur,S j->w.heap[j]?≠some (.cells cur 233 (0,0))):MG B w' R v0 v2 v3 M:=by
 have hl:=(ZtE h).2;obtain⟨h0,xs,T,sa,sc,h1,hT,h3,h2⟩:=h;refine⟨ZDA h0 k.size,xs,T,sa,sc,(k.block R hl hR).trans h1,hT,h3,Zcd h2 k (λj hj hs=>?_)⟩;obtain⟨cur,hc⟩:=Zff h2 hj;exact hS j cur hs hc
theorem ZkD(h:MG B w R v0 v2 v3 M)(k:ZL w w'):MG B w' R v0 v2 v3 M:=ZBq (S:=λj=>w.heap.size<=j) h ⟨k.os,k.tape,k.output,k.size,λj hj _=>k.block j hj⟩ (λhs=>by have:=(ZtE h).2;have hs':w.heap.size<=R:=hs;omega) (λj cur hs e=>by have hs':w.heap.size<=j:=hs;rw[Array.getElem?_eq_none hs']at e;cases e)
theorem ZoQ(h:MG B w R v0 v2 v3 M):∃sa sc,w.cell? ⟨R,13,none⟩=some v0/\w.cell? ⟨R,14,none⟩=some (.slice sa M.length sc)/\w.cell? ⟨R,15,none⟩=some v2/\w.cell? ⟨R,16,none⟩=some v3/\∀k s,M[k]?=some s->∃g,sa=some ⟨g,0,none⟩/\g<w.heap.size/\w.cell? ⟨g,k*4,none⟩=some (.bool s.fk)/\w.cell? ⟨g,k*4+1,none⟩=some (I s.cs)/\w.cell? ⟨g,k*4+2,none⟩=some (I s.nx)/\w.cell? ⟨g,k*4+3,none⟩=some (I s.ot):=by
 obtain⟨h0,xs,T,sa,sc,h1,-,⟨c0,c1,c2,c3⟩,h2⟩:=h;have e:∀i,w.cell? ⟨R,i,none⟩=xs[i]?:=λi=>by rw[ZO w R i _ _ (0,0) h1]
 refine⟨sa,sc,(e 13).trans c0,(e 14).trans c1,(e 15).trans c2,(e 16).trans c3,λk s hk=>?_⟩;have hl:k<M.length:=(List.getElem?_eq_some_iff.1 hk).1;have hx:=Zp3 M k s hk;rcases h2.2 with ⟨-,hz⟩|⟨g,cap,cur,hv,hg⟩
 ·omega
 ·simp only[ZDG]at hv;obtain⟨rfl,-,-⟩:=hv;have ha:∀i,i<4->w.cell? ⟨g,k*4+i,none⟩=(Zzd s)[i]?:=λi hi=>by
   rw[World.ownsRow.cellAt h2 (k*4+i) (by omega),hx i hi]
  exact⟨g,rfl,(h2.lt g rfl).2,ha 0 (by omega),ha 1 (by omega),ha 2 (by omega),ha 3 (by omega)⟩
theorem ZqJ{b:Nat}(h:MG B w R v0 v2 v3 M)(hb:∃es cl,w.heap[b]?=some (.map es cl))(k:Kp (λj=>j=b) w w'):MG B w' R v0 v2 v3 M:=by
 obtain⟨es,cl,hb⟩:=hb;refine ZBq h k ?_ ?_
 ·intro e;have e':R=b:=e;obtain⟨h0,xs,T,sa,sc,h1,-⟩:=h;subst e';rw[hb]at h1;cases h1
 ·intro j cur e hc;have e':j=b:=e;subst e';rw[hb]at hc;cases hc
end
theorem ZnV(X:Rx)(B R:Nat)(v0 v2 v3:Value)(M:List Sp)(K b:Nat)(hM:M.length=K)(hX:K<=400000)(hW:Wf X M):∀(m:Nat) (S:Nat->Bool) (p:Nat) (w:World),nf S K<m->p<K->MG B w R v0 v2 v3 M->PS w b S K->
  Calls prog 189 #[.pointer (some ⟨R,13,none⟩),.map (some b),I p] w (RcA M K b S p w)
 |0,S,p,w,hm,hp,h,hps=>by omega
 |m+1,S,p,w,hm,hp,h,hps=>by
  have IH:Hid (∀(S:Nat->Bool) (p:Nat) (w:World),nf S K<m->p<K->MG B w R v0 v2 v3 M->PS w b S K->Calls prog 189 #[.pointer (some ⟨R,13,none⟩),.map (some b),I p] w (RcA M K b S p w)):=J (λS p w h1 h2 h3 h4=>ZnV X B R v0 v2 v3 M K b hM hX hW m S p w h1 h2 h3 h4);have HM:=J h;obtain⟨n,D,hown,hn,hmap,hh,hK⟩:=hps;have HHas:=ZnY hh p;have HOW:=J hown;have HI:=J hmap;have HH:=J hh;have HK:=J hK;have hkey:=ZCh (show p<=400000 by omega);have hnK:n+1<maxLen:=by unfold maxLen;omega
  obtain⟨s,hs⟩:∃s,M[p]?=some s:=⟨_,Zv (by omega)⟩;obtain⟨w1',w2',w3⟩:=hW p s hs;rw[hM]at w1' w2';obtain⟨fk,cs,nx,ot⟩:=s;simp only at w1' w2';have HS:=J hs;have HMp:Hid (∃es cl,w.heap[b]?=some (.map es cl)):=J (by obtain⟨es,clock,hb1,-⟩:=hown;exact⟨es,clock,hb1⟩);have hnf:S p=false->nf (Zlc S p) K<nf S K:=λhSp=>ZsG (S:=S) (S':=Zlc S p) (λx hx=>Zfi hx) hSp (Zd2 _ _) K hp
  have HML:=J hM;clear hW hown hmap hh hK hs w3 h hM;have hi:(p:Int)<(K:Int):=by omega
  have hi0:(0:Int)<=(p:Int):=by omega
  cases hSp:S p
  ·rw[hSp]at HHas;have hnf:=hnf hSp;cases fk
   ·go_enter func189,ntmps189
    go_wp2_with (first
     |(at_lookup;refine wpList_lookup_own_unit _ rfl _ _ 60 rfl 2 93 Zox underlying60 (Zme _) b n _ rfl HOW.out _ _ rfl hkey ?_;rw[HHas])
     |(at_mapUpdate;refine wpList_mapUpdate_own _ rfl _ _ _ 60 rfl 2 93 Zox underlying60 (unitElem (H:=Unit)) b n _ rfl (HOW.out.alloc _) (by omega) _ _ _ rfl rfl hkey _ [] unitElem_mk ?_;intro w1 hown1 hgrow1;have hk1:Kp (λj=>j=b) w w1:=(Zay w _).trans (Zca (S:=λj=>j=b) hgrow1 (λk hk=>(Option.some.inj hk).symm)) (λ_ _ e=>e);have HK1:=J hk1;have HM1:=J (ZqJ HM.out HMp.out hk1);have HP1:=J (Zog hown1 hn HI.out HH.out HK.out hSp hp);obtain⟨sa,sc,q0,q1,q2,q3,ha⟩:=ZoQ HM1.out;rw[HML.out]at q1;obtain⟨g,rfl,hg,s0,s1,s2,s3⟩:=ha p _ HS.out;simp only at s0 s1 s2 s3;clear hown1 hgrow1 hk1 ha))
    go_end0
    exact⟨rfl,_,Zfl HP1.out (Zay (S:=λ_=>False) _ _) (λe=>e),ZrR HS.out rfl,HK1.out.trans (Zay (S:=λ_=>False) _ _) (λ_ _ e=>e.elim)⟩
   ·go_enter func189,ntmps189
    go_wp2_with (first
     |(at_lookup;refine wpList_lookup_own_unit _ rfl _ _ 60 rfl 2 93 Zox underlying60 (Zme _) b n _ rfl HOW.out _ _ rfl hkey ?_;rw[HHas])
     |(at_mapUpdate;refine wpList_mapUpdate_own _ rfl _ _ _ 60 rfl 2 93 Zox underlying60 (unitElem (H:=Unit)) b n _ rfl (HOW.out.alloc _) (by omega) _ _ _ rfl rfl hkey _ [] unitElem_mk ?_;intro w1 hown1 hgrow1;have hk1:Kp (λj=>j=b) w w1:=(Zay w _).trans (Zca (S:=λj=>j=b) hgrow1 (λk hk=>(Option.some.inj hk).symm)) (λ_ _ e=>e);have HK1:=J hk1;have HM1:=J (ZqJ HM.out HMp.out hk1);have HP1:=J (Zog hown1 hn HI.out HH.out HK.out hSp hp);obtain⟨sa,sc,q0,q1,q2,q3,ha⟩:=ZoQ HM1.out;rw[HML.out]at q1;obtain⟨g,rfl,hg,s0,s1,s2,s3⟩:=ha p _ HS.out;simp only at s0 s1 s2 s3;clear hown1 hgrow1 hk1 ha))
    have hb1:=ZwO HP1.out;have HX1:=J (ZpV w1 true cs nx ot);have HMa:=λo=>J (ZkD HM1.out ((Ze w1.heap.size w1).alloc (Zb _) o))
    have HPa:=λo=>J (Zfl HP1.out (Zay (S:=λ_=>False) w1 o) (λe=>e))
    have CA:=J (IH.out (Zlc S p) nx _ (by omega) w1' (HMa _).out (HPa (.cells #[.bool true,I cs,I nx,I ot] 233)).out);go_wp2_with fail
    refine ZM CA.out ?_;rintro w4 ⟨S4,hp4,hr4,hk4⟩;have HP4:=J hp4;have HR4:=J hr4;have HK4:=J hk4;have HX4:=J (ZtP HX1.out hk4 (λe=>by have e':w1.heap.size=b:=e;omega));have HM4:=J (ZqJ (HMa _).out (Zlv (HPa _).out) hk4);obtain⟨b0,b1,b2,b3⟩:=Zgc HX4.out;have CB:=J (IH.out S4 ot _ (by have:=ZjP hr4.1 K;omega) w2' HM4.out hp4);clear hp4 hr4 hk4;go_wp2_with fail
    refine ZM CB.out ?_;rintro w5 ⟨S5,hp5,hr5,hk5⟩;have HP5:=J hp5;have HR5:=J hr5;have HK5:=J hk5;clear hp5 hr5 hk5;go_wp2
    go_end0
    exact⟨rfl,S5,HP5.out,ZsE HS.out rfl HR4.out HR5.out,(((HK1.out.trans (Zay (S:=λ_=>False) _ _) (λ_ _ e=>e.elim)).trans HK4.out (λ_ _ e=>e)).trans HK5.out (λ_ _ e=>e))⟩
  ·rw[hSp]at HHas;go_enter func189,ntmps189
   go_wp2_with (first
    |(at_lookup;refine wpList_lookup_own_unit _ rfl _ _ 60 rfl 2 93 Zox underlying60 (Zme _) b n _ rfl HOW.out _ _ rfl hkey ?_;rw[HHas]))
   go_end0
   refine⟨rfl,S,⟨n,D,HOW.out.alloc _,hn,HI.out,HH.out,HK.out⟩,Zv0 hSp,Zay _ _⟩
theorem Zm9(X:Rx)(len:Nat)(hX:X.len=len)(hlen:len<=120)(hnr:∀j,j<len->X.NR j<=maxLen)(b0 off cap B R:Nat)(v2 v3:Value)(M:List Sp)(K b:Nat)(ch:Int)(hM:M.length=K)(hK4:K<=400000)(hW:Wf X M)(S:Nat->Bool)(w:World)(hr:Zch w b0 off X B)(hb0:b0<B)(h:MG B w R (.slice (some ⟨b0,off,none⟩) len cap) v2 v3 M)(hps:PS w b S K):
  Calls prog 176 #[.pointer (some ⟨R,13,none⟩),.map (some b),I ch] w (AfA X M K ch S w):=by
 have hb:=ZwO hps;obtain⟨n,D,hown,hn,hmap,hh,hSK⟩:=hps;have HHas:=J (ZnY hh);have HH:=J hh;have HSK:=J hSK;have HM:=J h;have HR:=J hr;have hB:=(ZtE h).1;have HW:=J hW;have HML:=J hM;have HXL:=J hX;have HNR:=J hnr;have HOW:=J hown;have hmm:=ZkT;have e1:(w.alloc (.map #[] 0)).heap.size=w.heap.size+1:=by simp
 have HPS0:=J (ZsR (K:=K) (World.ownsMap_made (H:=Unit) w prog 2 unitElem));clear hW hown hmap hh hSK h hM hr hX hnr;go_enter func176,ntmps176
 go_wp2_with (first
  |(at_len;refine wpList_len_own _ rfl _ 60 rfl 2 93 underlying60 _ b n D rfl HOW.out ?_)
  |(at_range;refine wpList_range_own _ rfl _ 60 rfl 2 93 Zox underlying60 _ b n _ rfl (HOW.out.alloc _) ?_;intro w0 hrg0 hg0 hs0))
 go_frame
 rw[e1]at hrg0 hs0 ⊢;clear hmm
 go_loopw [8] (λ_ wr=>∃(left:Lit->Bool) (cnt:Nat) (T:Nat->Bool),Hid (wr.ranges (H:=Unit) prog 2 unitElem b (w.heap.size+1) n D left cnt)/\Hid (PS wr w.heap.size T K)/\Hid (Clo M T)/\Hid (AfS M (dX X ch) S left T)/\Hid (∀z,left z=true->Maps.has D z=true)/\Hid (ZL w wr))
  (λ_ wr=>wr.rangeLeft b (w.heap.size+1))
 case atStart=>
  refine⟨_,_,λ_=>false,J hrg0,J (Zfl HPS0.out (Zca (S:=λ_=>False) hg0 (λk hk=>by cases hk)) (λe=>e)),J (Zn6 M),J (ZqG HHas.out),J (λz h=>h),J (((Ze _ _).alloc (Zb _) _).grown hg0 (by simp) (λj hj=>by cases hj))⟩
 case round=>
  obtain⟨left,cnt,T,Hrg,HP,HC,HA,HL,HB⟩:=hrel;go_wp2_with (first
   |(at_next;refine wpList_next_ranges (β:=Unit) _ rfl _ rfl 2 Zox unitElem (Value.int .i64) (λ_=>Value.agg #[]) (λkey kl hkey=>by obtain⟨x,rfl,_⟩:=Maps.keyOf_int_inv underlying2 hkey;exact⟨x,rfl⟩) (λv y hv=>by obtain⟨rfl,-⟩:=unitElem_inv hv;exact⟨(),rfl⟩) b (w.heap.size+1) n _ _ _ rfl Hrg.out ?_ ?_))
  ·intro hc0 hl0;go_wp2;go_ret;exact⟨T,rfl,HP.out,HC.out,Zy2 HA.out hl0,HB.out⟩
  ·intro x c kl y w1 cnt1 hkey hlk hv hat hrg1 hlt hg1 hs1 hen;obtain⟨x',ex,ekl,-⟩:=Maps.keyOf_int_inv underlying2 hkey;cases ex;subst ekl;obtain⟨q,rfl,hSq⟩:=(HH.out x).1 (HL.out _ hlk);have hqK:=HSK.out q hSq;have hB1:=HB.out.grown hg1 HB.out.size (λj hj=>by cases hj;exact Nat.le_succ _);have HB1:=J hB1;have HP1:=J (Zfl HP.out (Zca (S:=λj=>j=w.heap.size+1) hg1 (λk hk=>(Option.some.inj hk).symm)) (λe=>by have e':w.heap.size=w.heap.size+1:=e;omega));have HM1:=J (ZkD HM.out hB1);have HR1:=J (ZaN HR.out hb0 (hB1.mono hB));have hsz1:=hB1.size;obtain⟨sa,sc,q0,q1,q2,q3,ha⟩:=ZoQ HM1.out;rw[HML.out]at q1;obtain⟨s,hs⟩:∃s,M[q]?=some s:=⟨_,Zv (by rw[HML.out];exact hqK)⟩;obtain⟨g,rfl,hg,s0,s1,s2,s3⟩:=ha q _ hs;obtain⟨w1',w2',w3'⟩:=HW.out q s hs;obtain⟨fk,cs,nx,ot⟩:=s;simp only at s0 s1 s2 s3 w1' w2' w3';have HS:=J hs;have HRG:=J hrg1;have HG1:=J hg1;have HSQ:=J hSq;have hi:(q:Int)<(K:Int):=by omega
   have hi0:(0:Int)<=(q:Int):=by omega
   have HHE:=hen;clear hkey hat hv hrg1 hg1 hs hSq ha hB1 hlk hs1;cases fk
   ·have hcs:=w3' rfl;rw[HXL.out]at hcs;obtain⟨ad,cp,hc,hrg⟩:=HR1.out cs (by rw[HXL.out];exact hcs.1);have HRg:=J hrg;have hici:(cs:Int)<(len:Int):=(by omega);have hici0:(0:Int)<=(cs:Int):=(by omega);have bA:=J ((Ze w1.heap.size w1).alloc (Zb _) (.cells #[.bool false,I cs,I nx,I ot] 233));have HX1:=J (ZpV w1 false cs nx ot);have HMW:=J (ZkD HM1.out bA.out);have HPW:=J (Zfl HP1.out (Zew bA.out (λ_=>False)) (λe=>e));have hWd:∃W,(w1.alloc (.cells #[.bool false,I cs,I nx,I ot] 233))=W:=⟨_,rfl⟩;obtain⟨W,hWd⟩:=hWd;rw[hWd]at bA HX1 HMW HPW;have hbW:b0<W.heap.size:=ZDy hb0 (ZDA (ZDA hB hsz1) bA.out.size);have HcW:=J (ZdR hc (ZDy hb0 (ZDA hB hsz1)) bA.out);have HRW:=J (Zb9 (Zck (Zb9 HRg.out (ZDA hB hsz1)) bA.out) bA.out.size);obtain⟨G1,hG1⟩:=ZX w1.heap.size;have HG1e:=J hG1;rw[hG1]at HX1;have HKS:Hid (∀W9,ZL W W9->ZL W W9/\W9.cell? ⟨R,13,none⟩=some (.slice (some ⟨b0,off,none⟩) len cap)/\W9.cell? ⟨G1,0,none⟩=some (.bool false)/\W9.cell? ⟨G1,1,none⟩=some (I cs)/\W9.cell? ⟨b0,off+cs*7,none⟩=some (I (X.K cs))/\W9.cell? ⟨b0,off+cs*7+1,none⟩=some (.bool (X.NT cs))/\W9.cell? ⟨b0,off+cs*7+2,none⟩=some (.slice ad (X.NR cs) cp)/\W9.cell? ⟨b0,off+cs*7+3,none⟩=some (I (X.A cs))/\W9.cell? ⟨b0,off+cs*7+4,none⟩=some (I (X.B cs))/\W9.cell? ⟨b0,off+cs*7+5,none⟩=some (I (X.MN cs))/\W9.cell? ⟨b0,off+cs*7+6,none⟩=some (I (X.MX cs))):=J (λW9 h9=>by
     obtain⟨_,_,z0,-⟩:=ZoQ (ZkD HMW.out h9);obtain⟨y0,y1,-⟩:=Zgc (ZtP HX1.out (Zew h9 (λ_=>False)) (λe=>e));obtain⟨c0,c1,c2,c3,c4,c5,c6⟩:=ZdR HcW.out hbW h9;exact⟨h9,z0,y0,y1,c0,c1,c2,c3,c4,c5,c6⟩)
    have CI:Hid (∀W9,ZL W W9->Calls prog 215 #[.agg #[I (X.K cs),.bool (X.NT cs),.slice ad (X.NR cs) cp,I (X.A cs),I (X.B cs),I (X.MN cs),I (X.MX cs)],I ch] W9 λe w'=>e=.returned (.bool (dX X ch cs))/\ZL W9 w'):=J (λW9 h9=>ZBY (X.K cs) (X.NT cs) ad (X.NR cs) cp (X.A cs) (X.B cs) (X.MN cs) (X.MX cs) (X.L cs) (X.H cs) ch W9 (HNR.out cs hcs.1) (Zb9 (Zck HRW.out h9) h9.size));have XX:Hid (ZL W W.drew):=J ⟨rfl,rfl,rfl,Zb _,λ_ _=>rfl⟩;obtain⟨kk,hkk⟩:=ZX (X.K cs);clear hkk;have hcs1:=hcs.1;clear hc hrg w3' hcs;obtain⟨dv,hd⟩:=ZX (dX X ch cs);rw[hd]at CI;have HD:=J hd;clear hd;go_wp2_with fail
    try rw[hWd]
    try rw[hG1]
    clear hWd hG1
    go_cut [40] (λv wx=>v=.bool dv/\Hid (ZL W wx))
    case first=>
     go_region_held3 (λW9=>ZL W W9/\W9.cell? ⟨R,13,none⟩=some (.slice (some ⟨b0,off,none⟩) len cap)/\W9.cell? ⟨G1,0,none⟩=some (.bool false)/\W9.cell? ⟨G1,1,none⟩=some (I cs)/\W9.cell? ⟨b0,off+cs*7,none⟩=some (I (X.K cs))/\W9.cell? ⟨b0,off+cs*7+1,none⟩=some (.bool (X.NT cs))/\W9.cell? ⟨b0,off+cs*7+2,none⟩=some (.slice ad (X.NR cs) cp)/\W9.cell? ⟨b0,off+cs*7+3,none⟩=some (I (X.A cs))/\W9.cell? ⟨b0,off+cs*7+4,none⟩=some (I (X.B cs))/\W9.cell? ⟨b0,off+cs*7+5,none⟩=some (I (X.MN cs))/\W9.cell? ⟨b0,off+cs*7+6,none⟩=some (I (X.MX cs))) (first|assumption|exact HKS.out _ XX.out) (first|(go_at_call 215;refine ZM (CI.out _ XX.out) ?_;rintro w9 hb9;have X2:=J (XX.out.trans (hb9.mono XX.out.size));replace XX:=X2;clear X2 hb9))
     all_goals
      go_wp2;go_meet
      exact⟨rfl,XX⟩
    case rest=>
     obtain⟨rfl,HB2⟩:=hcut;clear XX
     rename World=>w2
     have HM2:=J (ZkD HMW.out HB2.out);have HP2:=J (Zfl HPW.out (Zew HB2.out (λ_=>False)) (λe=>e));obtain⟨b0',b1',b2',b3'⟩:=Zgc (ZtP HX1.out (Zew HB2.out (λ_=>False)) (λe=>e));have HK12:=J ((Zew bA.out (λj=>j=w.heap.size)).trans (Zew HB2.out (λj=>j=w.heap.size)) (λ_ _ e=>e));have hbne:b≠w.heap.size:=(by omega);have HBN:=J hbne;clear hbne;cases dv
     ·go_wp2;have HRG3:=HRG.out.kept (ZgL HK12.out (λj e=>e)) (λe=>HBN.out (Option.some.inj e)) (λe=>by have:=Option.some.inj e;omega)
      go_roundw
      case rel=>exact⟨_,cnt1,T,J HRG3,HP2,HC,J (ZnE HA.out HS.out (λe=>by rw[HD.out]at e;cases e.2)),J (λz hz=>HL.out z (by simp only[ZW]at hz;exact hz.1)),J (HB1.out.trans (ZaB HK12.out HB1.out.size (λj e=>by have e':j=w.heap.size:=e;omega)))⟩
      case measure=>rw[HRG3.left_eq,Hrg.out.left_eq];exact hlt
     ·have CR:=J (ZnV X B R (.slice (some ⟨b0,off,none⟩) len cap) v2 v3 M K w.heap.size HML.out hK4 HW.out (nf T K+1) T nx w2 (by omega) (by rw[HML.out]at w1';exact w1') HM2.out HP2.out);go_wp2_with (go_at_call 189;refine ZM CR.out ?_;rintro w4 ⟨T4,hp4,hr4,hk4⟩;have HP4:=J hp4;have HR4:=J (Zvq HC.out hr4);have HK4:=J (HK12.out.trans hk4 (λ_ _ e=>e));clear hp4 hr4 hk4)
      have HRG3:=HRG.out.kept (ZgL HK4.out (λj e=>e)) (λe=>HBN.out (Option.some.inj e)) (λe=>by have:=Option.some.inj e;omega)
      go_roundw
      case rel=>exact⟨_,cnt1,T4,J HRG3,HP4,J HR4.out.1,J (ZxK HA.out HSQ.out HS.out rfl HD.out HR4.out.2),J (λz hz=>HL.out z (by simp only[ZW]at hz;exact hz.1)),J (HB1.out.trans (ZaB HK4.out HB1.out.size (λj e=>by have e':j=w.heap.size:=e;omega)))⟩
      case measure=>rw[HRG3.left_eq,Hrg.out.left_eq];exact hlt
   ·go_wp2_with fail
    go_big_quiet (fail)
    go_wp2;have HK12:=J ((Zay (S:=λj=>j=w.heap.size) w1 (.cells #[.bool true,I cs,I nx,I ot] 233)).trans (Zar (S:=λj=>j=w.heap.size) _ nq) (λ_ _ e=>e));have HK13:=J ((Zay (S:=λ_=>False) w1 (.cells #[.bool true,I cs,I nx,I ot] 233)).trans (Zar (S:=λ_=>False) _ nq) (λ_ _ e=>e));have hbne:b≠w.heap.size:=(by omega);have HRG3:=HRG.out.kept (ZgL HK12.out (λj e=>e)) (λe=>hbne (Option.some.inj e)) (λe=>by have:=Option.some.inj e;omega)
    go_roundw
    case rel=>exact⟨_,cnt1,T,J HRG3,J (Zfl HP1.out HK13.out (λe=>e)),HC,J (ZnE HA.out HS.out (λe=>by cases e.1)),J (λz hz=>HL.out z (by simp only[ZW]at hz;exact hz.1)),J (HB1.out.trans (ZaB HK12.out HB1.out.size (λj e=>by have e':j=w.heap.size:=e;omega)))⟩
    case measure=>rw[HRG3.left_eq,Hrg.out.left_eq];exact hlt
end
end Go.Proofs.YtcdnilpdohknfaaGreatDoor
