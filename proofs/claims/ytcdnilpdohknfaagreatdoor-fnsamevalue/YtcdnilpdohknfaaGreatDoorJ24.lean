import Derived.Test.YtcdnilpdohknfaaGreatDoorJ23
import Derived.Test.YtcdnilpdohknfaaGreatDoorJ22
set_option linter.unusedVariables false
set_option linter.unusedSimpArgs false
set_option maxRecDepth 100000
set_option maxHeartbeats 16000000
namespace Go.Proofs.YtcdnilpdohknfaaGreatDoor
open Tryz
structure Ty where
 nm:ZB
 kd:Int
 bs:Int
 ms:List Int
 mn:Int
 mx:Int
 lo:ZB
 hi:ZB
 pt:ZB
 en:List ZB
def ty0:Ty:=⟨⟨#[]⟩,0,0,[],0,0,⟨#[]⟩,⟨#[]⟩,⟨#[]⟩,[]⟩
def tyA(L:List Ty)(j:Nat):Ty:=L[j]?.getD ty0
def Zs3(p:ZB):Bool:=rgO (ZF (rns p)) (rns p).isSome
def ZnX(p s:ZB):Prop:=MtP (ZdZ (rgV (ZF (rns p)) (rns p).isSome)) (ZF (rns s)) (rns s).isSome
def Zka(t:ZB):Bool:=(ZC t).2.2.2
def Zgj(t:ZB):ZB:=ZeV (ZC t).1 (ZC t).2.1 (ZC t).2.2.1
def Zg6(t:ZB):ZB:=dtB (f0 t) (f1 t) (f2 t) (f3 t) (f4 t) (f5 t) (zI (Zu t)).1 (zI (Zu t)).2.1
def ZhD:ZB:=⟨#[116,114,117,101]⟩
def ZeY:ZB:=⟨#[102,97,108,115,101]⟩
def Zo0(t:ZB):Bool:=(t.toList==[116,114,117,101])||(t.toList==[49])
def Zva(t:ZB):Bool:=(t.toList==[102,97,108,115,101])||(t.toList==[48])
def Zif(t:ZB):Bool:=t.data.toList.all λc=>!(c==46)
def atO(k:Int)(s:ZB):Bool:=
 if k=1 then ZD s else if k=2 then ZD (jnB s) else if k=3 then ZcO (jnB s) else if k=4 then Zo0 (jnB s)||Zva (jnB s) else
 if k=5 then Zka (jnB s) else if k=6 then Zka (jnB s)&&Zif (jnB s) else if k=7 then ZH (jnB s) else false
def atV(k:Int)(s:ZB):ZB:=
 if k=1 then s else if k=2 then jnB s else if k=3 then jnB s else if k=4 then (if Zo0 (jnB s)=true then ZhD else ZeY) else
 if k=5 then Zgj (jnB s) else if k=6 then Zgj (jnB s) else Zg6 (jnB s)
def ZeN(k:Int)(a b:ZB):Int:=
 if k=7 then ZdX (f0 a) (f1 a) (f2 a) (f3 a) (f4 a) (f5 a) (zI (Zu a)).1 (zI (Zu a)).2.1 (f0 b) (f1 b) (f2 b) (f3 b) (f4 b) (f5 b) (zI (Zu b)).1 (zI (Zu b)).2.1
 else Zho (ZC a).1 (ZC a).2.1 (ZC a).2.2.1 (ZC b).1 (ZC b).2.1 (ZC b).2.2.1
def ZeB(k:Int)(a b:ZB):Prop:=ZeN k a b = -1\/ZeN k a b=0
def lgK(k:Int):Prop:=k=1\/k=2\/k=3\/k=8
def odK(k:Int):Prop:=k=5\/k=6\/k=7
def Znp(k:Int)(v:ZB):Nat:=if k=8 then (wdB [] v.data.toList).length else (ZF (rns v)).length
def fcP(x:Ty)(k:Int)(s v:ZB):Prop:=
 ¬(0<=x.mn/\(Znp k v:Int)<x.mn)/\¬(0<=x.mx/\x.mx<(Znp k v:Int))/\(x.lo.size=0\/ZeB k (atV k x.lo) v)/\(x.hi.size=0\/ZeB k v (atV k x.hi))/\
 (x.pt.size=0\/ZnX x.pt (if k=1 then s else jnB s))/\(x.en=[]\/∃e∈x.en,atV k e=v)
def fkP(x:Ty)(k:Int):Prop:=
 (-1<=x.mn/\x.mn<=1000)/\(-1<=x.mx/\x.mx<=1000)/\(lgK k\/(x.mn<0/\x.mx<0))/\(x.mn<0\/x.mx<0\/x.mn<=x.mx)/\
 (odK k\/(x.lo.size=0/\x.hi.size=0))/\x.en.length<=12/\(8<=k->x.pt.size=0/\x.en=[])/\(x.lo.size=0\/atO k x.lo=true)/\(x.hi.size=0\/atO k x.hi=true)/\
 (x.lo.size=0\/x.hi.size=0\/ZeB k (atV k x.lo) (atV k x.hi))/\Zs3 x.pt=true/\∀e∈x.en,atO k e=true
def prP(L:List Ty)(n:Nat):Int:=
 if (tyA L n).kd=10 then (if h:(tyA L n).bs.toNat<n then prP L (tyA L n).bs.toNat else -1) else (tyA L n).kd
termination_by n
def Zea(L:List Ty)(i:Nat):Prop:=
 ZcO (tyA L i).nm=true/\(∀k,k<i->(tyA L k).nm≠(tyA L i).nm)/\(1<=(tyA L i).kd/\(tyA L i).kd<=10)/\
 ((tyA L i).kd=8\/(tyA L i).kd=10->0<=(tyA L i).bs/\(tyA L i).bs<i)/\(¬((tyA L i).kd=8\/(tyA L i).kd=10)->(tyA L i).bs=0)/\
 ((tyA L i).kd=8->prP L (tyA L i).bs.toNat<=7)/\
 ((tyA L i).kd=9->(1<=(tyA L i).ms.length/\(tyA L i).ms.length<=4)/\∀m∈(tyA L i).ms,(0<=m/\m<i)/\prP L m.toNat<=7)/\
 ((tyA L i).kd≠9->(tyA L i).ms=[])/\fkP (tyA L i) (prP L i)
def OkP(L:List Ty):Prop:=L.length<=30/\∀i,i<L.length->Zea L i
def Zfn:List (Option ZB)->Option (List ZB)
 |[]=>some []
 |none::_=>none
 |some v::r=>match Zfn r with
  |none=>none
  |some vs=>some (v::vs)
def ZkE:List (Option ZB)->Option ZB
 |[]=>none
 |none::r=>ZkE r
 |some v::_=>some v
def Zd3(vs:List ZB):ZB:=⟨(Lib.join (vs.map (·.data.toList)) [32]).toArray⟩
open Classical in
noncomputable def fcO (x:Ty)(k:Int)(s v:ZB):Option ZB:=if fcP x k s v then some v else none
theorem Zmx{x:Ty}{k:Int}{s v:ZB}(h:fcP x k s v):fcO x k s v=some v:=by unfold fcO;rw[Zd h]
theorem ZoX{x:Ty}{k:Int}{s v:ZB}(h:¬fcP x k s v):fcO x k s v=none:=by unfold fcO;rw[Za h]
theorem ZhS{x:Ty}{k:Int}{s v u:ZB}(h:fcO x k s v=some u):u=v/\fcP x k s v:=by
 by_cases e:fcP x k s v
 ·rw[Zmx e]at h;cases h;exact⟨rfl,e⟩
 ·rw[ZoX e]at h;cases h
noncomputable def Zq (L:List Ty)(n:Nat)(s:ZB):Option ZB:=
 if (tyA L n).kd=9 then ZkE ((tyA L n).ms.map λm=>if h:m.toNat<n then Zq L m.toNat s else none)
 else if (tyA L n).kd=8 then
  match Zfn ((wdB [] s.data.toList).map λu=>if h:(tyA L n).bs.toNat<n then Zq L (tyA L n).bs.toNat ⟨u.toArray⟩ else none) with
  |none=>none
  |some vs=>fcO (tyA L n) 8 s (Zd3 vs)
 else if (tyA L n).kd=10 then
  match (if h:(tyA L n).bs.toNat<n then Zq L (tyA L n).bs.toNat s else none) with
  |none=>none
  |some v=>fcO (tyA L n) (prP L n) s v
 else if atO (tyA L n).kd s=true then fcO (tyA L n) (tyA L n).kd s (atV (tyA L n).kd s) else none
termination_by n
def bsW(L:List Ty)(n:Nat):Prop:=∀j,j<=n->(tyA L j).kd=10->0<=(tyA L j).bs/\(tyA L j).bs<j
theorem Zee{L:List Ty}{n:Nat}(h:(tyA L n).kd=10)(h2:0<=(tyA L n).bs/\(tyA L n).bs<n):prP L n=prP L (tyA L n).bs.toNat:=by
 rw[prP,Zd h,dif_pos (by omega)]
theorem Zdb{L:List Ty}{n:Nat}(h:(tyA L n).kd≠10):prP L n=(tyA L n).kd:=by rw[prP,Za h]
theorem Zry{L:List Ty}{n:Nat}(h:∀j,j<=n->Zea L j):bsW L n:=λj hj e=>(h j hj).2.2.2.1 (.inr e)
theorem Znq{L:List Ty}:∀(n:Nat),(∀j,j<=n->Zea L j)->1<=prP L n/\prP L n<=9:=by
 intro n;induction n using Nat.strongRecOn with
 |_ n ih=>
  intro h;have h0:=h n (Zb _);by_cases e:(tyA L n).kd=10
  ·have hb:=h0.2.2.2.1 (.inr e);rw[Zee e hb];exact ih _ (by omega) (λj hj=>h j (by omega))
  ·rw[Zdb e];have:=h0.2.2.1;omega
theorem Zkf{L:List Ty}{n:Nat}{s:ZB}(h:(tyA L n).kd=9)(hm:∀m∈(tyA L n).ms,0<=m/\m<(n:Int)):Zq L n s=ZkE ((tyA L n).ms.map λm=>Zq L m.toNat s):=by
 rw[Zq,Zd h];congr 1;apply List.map_congr_left;intro m hmm;have:=hm m hmm;rw[dif_pos (by omega)]
theorem Zmr{L:List Ty}{n:Nat}{s:ZB}(h:(tyA L n).kd=8)(hb:0<=(tyA L n).bs/\(tyA L n).bs<n):Zq L n s=match Zfn ((wdB [] s.data.toList).map λu=>Zq L (tyA L n).bs.toNat ⟨u.toArray⟩) with
  |none=>none
  |some vs=>fcO (tyA L n) 8 s (Zd3 vs):=by
 rw[Zq,Za (by omega),Zd h];simp only[dif_pos (show(tyA L n).bs.toNat<n by omega)]
theorem ZhF{L:List Ty}{n:Nat}{s:ZB}(h:(tyA L n).kd=10)(hb:0<=(tyA L n).bs/\(tyA L n).bs<n):Zq L n s=match Zq L (tyA L n).bs.toNat s with
  |none=>none
  |some v=>fcO (tyA L n) (prP L n) s v:=by
 rw[Zq,Za (by omega),Za (by omega),Zd h];simp only[dif_pos (show(tyA L n).bs.toNat<n by omega)]
theorem Zma{L:List Ty}{n:Nat}{s:ZB}(h:(tyA L n).kd<=7):Zq L n s=if atO (tyA L n).kd s=true then fcO (tyA L n) (tyA L n).kd s (atV (tyA L n).kd s) else none:=by
 rw[Zq,Za (by omega),Za (by omega),Za (by omega)]
open Classical in
noncomputable def vaO (L:List Ty)(n:Int)(s:ZB):Option ZB:=if OkP L/\(0<=n/\n<L.length)/\ZD s=true then Zq L n.toNat s else none
theorem ZAu{L:List Ty}{n:Int}{s:ZB}(h:OkP L)(hn:0<=n/\n<L.length)(hs:ZD s=true):vaO L n s=Zq L n.toNat s:=by unfold vaO;rw[Zd ⟨h,hn,hs⟩]
theorem Zuc{L:List Ty}{n:Int}{s:ZB}(h:¬(OkP L/\(0<=n/\n<L.length)/\ZD s=true)):vaO L n s=none:=by unfold vaO;rw[Za h]
section
open Go.RowKit Go.Joins
def Zm7(w:World)(a:Option Addr)(L:List ZB)(B:Nat):Prop:=L≠[]->∃b off,a=some ⟨b,off,none⟩/\b<B/\∀j,j<L.length->w.cell? ⟨b,off+j,none⟩=some (.string (L[j]?.getD ⟨#[]⟩))
theorem Zq2{w w':World}{a:Option Addr}{L:List ZB}{B:Nat}(h:Zm7 w a L B)(hb:Below B w w'):Zm7 w' a L B:=λh0=>by
 obtain⟨b,off,e,hl,hc⟩:=h h0;exact⟨b,off,e,hl,λj hj=>(hb.cell (p:=⟨b,off+j,none⟩) hl).trans (hc j hj)⟩
theorem Zuz{w:World}{a:Option Addr}{L:List ZB}{B B':Nat}(h:Zm7 w a L B)(hB:B<=B'):Zm7 w a L B':=λh0=>by
 obtain⟨b,off,e,hl,hc⟩:=h h0;exact⟨b,off,e,ZDy hl hB,hc⟩
theorem Zkl{w:World}{a:Option Addr}{L:List ZB}{B:Nat}(h:Zm7 w a L B)(j:Nat)(hj:j<L.length):∃b off,a=some ⟨b,off,none⟩/\b<B/\∀j,j<L.length->w.cell? ⟨b,off+j,none⟩=some (.string (L[j]?.getD ⟨#[]⟩)):=h (λe=>by rw[e]at hj;simp at hj)
theorem Zvv{w:World}{B n c:Nat}{ad:Option Addr}{t:TypeId}{xs:List ZB}(h:w.ownsRow B t 1 (.slice ad n c) n (xs.map Value.string)):Zm7 w ad xs w.heap.size:=λh0=>by
 have hl:=h.1;rcases h.2 with ⟨-,hz⟩|⟨g,cap,cur,hv,hB,hh,-,-,-,hx⟩
 ·exact absurd (List.length_eq_zero_iff.1 (by rw[hz]at hl;simpa using hl)) h0
 ·simp only[ZDG]at hv;obtain⟨rfl,-,rfl⟩:=hv;refine⟨g,0,rfl,(Array.getElem?_eq_some_iff.1 hh).1,λj hj=>?_⟩;have hn:xs.length=n:=by simpa using hl
  have:=h.cellAt j (by omega);rw[ZDE,this,List.getElem?_map,Zv hj];rfl
theorem ZqD{k:IntKind}{w w':World}{a:Option Addr}{xs:List Int}{B:Nat}(h:ZcZ k w a xs B)(hb:Below B w w'):ZcZ k w' a xs B:=λh0=>by
 obtain⟨b,off,e,hl,hc⟩:=h h0;exact⟨b,off,e,hl,λj hj=>(hb.cell (p:=⟨b,off+j,none⟩) hl).trans (hc j hj)⟩
theorem Zrf{k:IntKind}{w:World}{a:Option Addr}{xs:List Int}{B B':Nat}(h:ZcZ k w a xs B)(hB:B<=B'):ZcZ k w a xs B':=λh0=>by
 obtain⟨b,off,e,hl,hc⟩:=h h0;exact⟨b,off,e,ZDy hl hB,hc⟩
def SyC(w:World)(b o:Nat)(x:Ty)(am:Option Addr)(cm:Nat)(ae:Option Addr)(ce:Nat):Prop:=
 w.cell? ⟨b,o,none⟩=some (.string x.nm)/\w.cell? ⟨b,o+1,none⟩=some (I x.kd)/\w.cell? ⟨b,o+2,none⟩=some (I x.bs)/\w.cell? ⟨b,o+3,none⟩=some (.slice am x.ms.length cm)/\
 w.cell? ⟨b,o+4,none⟩=some (I x.mn)/\w.cell? ⟨b,o+5,none⟩=some (I x.mx)/\w.cell? ⟨b,o+6,none⟩=some (.string x.lo)/\w.cell? ⟨b,o+7,none⟩=some (.string x.hi)/\
 w.cell? ⟨b,o+8,none⟩=some (.string x.pt)/\w.cell? ⟨b,o+9,none⟩=some (.slice ae x.en.length ce)
def ZiL(w:World)(a:Option Addr)(L:List Ty)(B:Nat):Prop:=L≠[]->∃b off,a=some ⟨b,off,none⟩/\b<B/\∀j,j<L.length->∃am cm ae ce,SyC w b (off+j*10) (tyA L j) am cm ae ce/\ZcZ .i64 w am (tyA L j).ms B/\Zm7 w ae (tyA L j).en B
theorem Zkx{w w':World}{b o B:Nat}{x:Ty}{am ae:Option Addr}{cm ce:Nat}(h:SyC w b o x am cm ae ce)(hb:b<B)(k:Below B w w'):SyC w' b o x am cm ae ce:=by
 obtain⟨h0,h1,h2,h3,h4,h5,h6,h7,h8,h9⟩:=h;exact⟨(k.cell (p:=⟨b,o,none⟩) hb).trans h0,(k.cell (p:=⟨b,o+1,none⟩) hb).trans h1,(k.cell (p:=⟨b,o+2,none⟩) hb).trans h2,(k.cell (p:=⟨b,o+3,none⟩) hb).trans h3,(k.cell (p:=⟨b,o+4,none⟩) hb).trans h4,(k.cell (p:=⟨b,o+5,none⟩) hb).trans h5,(k.cell (p:=⟨b,o+6,none⟩) hb).trans h6,(k.cell (p:=⟨b,o+7,none⟩) hb).trans h7,(k.cell (p:=⟨b,o+8,none⟩) hb).trans h8,(k.cell (p:=⟨b,o+9,none⟩) hb).trans h9⟩
theorem ZcP{w w':World}{a:Option Addr}{L:List Ty}{B:Nat}(h:ZiL w a L B)(k:Below B w w'):ZiL w' a L B:=λh0=>by
 obtain⟨b,off,e,hb,hr⟩:=h h0;refine⟨b,off,e,hb,λj hj=>?_⟩;obtain⟨am,cm,ae,ce,h1,h2,h3⟩:=hr j hj;exact⟨am,cm,ae,ce,Zkx h1 hb k,ZqD h2 k,Zq2 h3 k⟩
theorem ZcM{w:World}{a:Option Addr}{L:List Ty}{B B':Nat}(h:ZiL w a L B)(k:B<=B'):ZiL w a L B':=λh0=>by
 obtain⟨b,off,e,hb,hr⟩:=h h0;refine⟨b,off,e,ZDy hb k,λj hj=>?_⟩;obtain⟨am,cm,ae,ce,h1,h2,h3⟩:=hr j hj;exact⟨am,cm,ae,ce,h1,Zrf h2 k,Zuz h3 k⟩
theorem ZeZ{w:World}{a:Option Addr}{L:List Ty}{B:Nat}(h:ZiL w a L B){j:Nat}(hj:j<L.length):∃b off,a=some ⟨b,off,none⟩/\b<B/\∀j,j<L.length->∃am cm ae ce,SyC w b (off+j*10) (tyA L j) am cm ae ce/\ZcZ .i64 w am (tyA L j).ms B/\Zm7 w ae (tyA L j).en B:=h (λe=>by rw[e]at hj;simp at hj)
def TyZ(x:Ty):Prop:=x.nm.size<=20000/\x.lo.size<=20000/\x.hi.size<=20000/\x.pt.size<=20000/\(x.ms.length<=20000/\∀m∈x.ms,-1000000<=m/\m<=1000000)/\x.en.length<=20000/\∀e∈x.en,e.size<=20000
def Zwr(L:List Ty):Prop:=L.length<=20000/\∀j,j<L.length->TyZ (tyA L j)
structure Tq where
 x:Ty
 am:Option Addr
 cm:Nat
 ae:Option Addr
 ce:Nat
def tq0:Tq:=⟨ty0,none,0,none,0⟩
def tqA(Q:List Tq)(j:Nat):Tq:=Q[j]?.getD tq0
def tqV(q:Tq):List Value:=[.string q.x.nm,I q.x.kd,I q.x.bs,.slice q.am q.x.ms.length q.cm,I q.x.mn,I q.x.mx,.string q.x.lo,.string q.x.hi,.string q.x.pt,.slice q.ae q.x.en.length q.ce]
def TqK(x:Ty):Prop:=x.nm.size<=4000/\x.lo.size<=4000/\x.hi.size<=4000/\x.pt.size<=4000/\(x.ms.length<=4/\∀m∈x.ms,0<=m/\m<=100)/\(x.en.length<=4/\∀e∈x.en,e.size<=4000)/\(0<=x.bs/\x.bs<=100)/\(1<=x.kd/\x.kd<=10)
def TqR(B:Nat)(w:World)(q:Tq):Prop:=w.ownsRow B 2 1 (.slice q.am q.x.ms.length q.cm) q.x.ms.length (q.x.ms.map (Value.int .i64))/\w.ownsRow B 9 1 (.slice q.ae q.x.en.length q.ce) q.x.en.length (q.x.en.map Value.string)
def TqS(B:Nat)(w:World)(Q:List Tq):Prop:=∀q∈Q,TqR B w q
def TqO(B:Nat)(w:World)(ad:Option Addr)(m c:Nat)(Q:List Tq):Prop:=Q.length=m/\w.ownsRow B 33 10 (.slice ad m c) m (Q.flatMap tqV)/\TqS B w Q
def Zqm(Q:List Tq):Prop:=∀q∈Q,TqK q.x
theorem ZpR:∀(Q:List Tq),(Q.flatMap tqV).length=Q.length*10
 |[]=>rfl
 |q::Q=>by rw[List.flatMap_cons,ZDz,ZpR Q,ZDB];show 10+_=_;omega
theorem Zr7:∀(Q:List Tq) (j i:Nat),i<10->j<Q.length->(Q.flatMap tqV)[j*10+i]?=(tqV (tqA Q j))[i]?
 |[],j,i,_,h=>absurd h (Nat.not_lt_zero _)
 |q::Q,0,i,hi,_=>by
  rw[List.flatMap_cons,Nat.zero_mul,ZDE,List.getElem?_append_left (by show i<10;exact hi)];rfl
 |q::Q,j+1,i,hi,h=>by
  rw[List.flatMap_cons,List.getElem?_append_right (by show 10<=_;omega),show(j+1)*10+i-(tqV q).length=j*10+i by show _-10=_;omega,Zr7 Q j i hi (by simpa using h)];rfl
theorem ZsM(q:Tq):∀u∈tqV q,u.oneCell'=true:=by
 intro u hu;unfold tqV at hu;simp only[List.mem_cons,List.mem_nil_iff,Z4]at hu;rcases hu with rfl|rfl|rfl|rfl|rfl|rfl|rfl|rfl|rfl|rfl<;>rfl
theorem ZAL(Q:List Tq):∀u∈Q.flatMap tqV,u.oneCell'=true:=by
 intro u hu;obtain⟨q,-,hq⟩:=List.mem_flatMap.1 hu;exact ZsM q u hq
theorem ZmA{Q:List Tq}{j:Nat}(h:j<Q.length):tqA Q j∈Q:=by unfold tqA;rw[Zv h];exact ZD3 h
theorem Zyv{Q:List Tq}{j:Nat}(h:j<Q.length):tyA (Q.map (·.x)) j=(tqA Q j).x:=by
 unfold tyA tqA;rw[List.getElem?_map,Zv h];rfl
theorem ZuB{w:World}{B n c:Nat}{ad:Option Addr}{xs:List Int}(h:w.ownsRow B 2 1 (.slice ad n c) n (xs.map (Value.int .i64))):ZcZ .i64 w ad xs w.heap.size:=λh0=>by
 have hl:=h.1;rcases h.2 with ⟨-,hz⟩|⟨g,cap,cur,hv,hB,hh,-,-,-,hx⟩
 ·exact absurd (List.length_eq_zero_iff.1 (by rw[hz]at hl;simpa using hl)) h0
 ·simp only[ZDG]at hv;obtain⟨rfl,-,rfl⟩:=hv;refine⟨g,0,rfl,(Array.getElem?_eq_some_iff.1 hh).1,λj hj=>?_⟩;have hn:xs.length=n:=by simpa using hl
  have:=h.cellAt j (by omega);simp only[ZDE];rw[this,List.getElem?_map,Zv hj];rfl
theorem ZlX{B:Nat}{w:World}{ad:Option Addr}{m c:Nat}{Q:List Tq}(h:TqO B w ad m c Q):ZiL w ad (Q.map (·.x)) w.heap.size:=λh0=>by
 obtain⟨hl,ho,hs⟩:=h;have hm:0<m:=by
  rcases Nat.eq_zero_or_pos m with e|e
  ·rw[e]at hl;exact absurd (by rw[List.length_eq_zero_iff.1 hl];rfl) h0
  ·exact e
 have ho2:=ho;rcases ho.2 with ⟨e,hz⟩|⟨g,cap,cur,e,-,hg,-⟩
 ·omega
 ·simp only[ZDG]at e;obtain⟨rfl,-⟩:=e;refine⟨g,0,rfl,(Array.getElem?_eq_some_iff.1 hg).1,λj hj=>?_⟩;have hj2:j<Q.length:=by simpa using hj
  have hown:=hs _ (ZmA hj2);have hc:∀i,i<10->w.cell? ⟨g,0+j*10+i,none⟩=(tqV (tqA Q j))[i]?:=λi hi=>by
   rw[ZDE,ho2.cellAt (j*10+i) (by omega),Zr7 Q j i hi hj2]
  rw[Zyv hj2];exact⟨(tqA Q j).am,(tqA Q j).cm,(tqA Q j).ae,(tqA Q j).ce,⟨hc 0 (by decide),hc 1 (by decide),hc 2 (by decide),hc 3 (by decide),hc 4 (by decide),hc 5 (by decide),hc 6 (by decide),hc 7 (by decide),hc 8 (by decide),hc 9 (by decide)⟩,ZuB hown.1,Zvv hown.2⟩
theorem Zjp{Q:List Tq}(h:Zqm Q)(hl:Q.length<=1000):Zwr (Q.map (·.x)):=⟨by rw[ZDD];omega,λj hj=>by
 have hj2:j<Q.length:=by simpa using hj
 rw[Zyv hj2];obtain⟨h1,h2,h3,h4,⟨h5,h6⟩,⟨h7,h8⟩,-⟩:=h _ (ZmA hj2);exact⟨by omega,by omega,by omega,by omega,⟨by omega,λm hm=>by have:=h6 m hm;omega⟩,by omega,λe he=>by have:=h8 e he;omega⟩⟩
def TqB(N:Nat)(ad:Option Addr)(m c:Nat)(Q:List Tq):Prop:=(∀b,(Value.slice ad m c).ownBlock=some b->b<N)/\∀q∈Q,(∀b,(Value.slice q.am q.x.ms.length q.cm).ownBlock=some b->b<N)/\∀b,(Value.slice q.ae q.x.en.length q.ce).ownBlock=some b->b<N
section
variable {G:Nat} {a:Option Addr} {n cap:Nat} {zs:List Int} {w0 w w1:World} {N:Nat} {ad:Option Addr} {m c:Nat} {Q:List Tq}
theorem Zsq{B:Nat}(h:TqO B w ad m c Q):TqB w.heap.size ad m c Q:=⟨λb hb=>(h.2.1.lt b hb).2,λq hq=>⟨λb hb=>((h.2.2 q hq).1.lt b hb).2,λb hb=>((h.2.2 q hq).2.lt b hb).2⟩⟩
theorem Zbv{B e z n:Nat}{v:Value}{xs:List Value}{row:Option Nat}(h:w.ownsRow B e z v n xs)(hg:w.grownBy w1 row)(hr:∀k,row=some k->v.ownBlock≠some k):w1.ownsRow B e z v n xs:=by
 obtain⟨hl,h⟩:=h;refine⟨hl,?_⟩;rcases h with h|⟨g,cap,cur,hv,hb,hh,h1,h2,h3,h4⟩
 ·exact .inl h
 ·exact .inr ⟨g,cap,cur,hv,hb,(hg.block g (Array.getElem?_eq_some_iff.1 hh).1 (λe=>hr g e.symm (by rw[hv];rfl))).trans hh,h1,h2,h3,h4⟩
theorem Ztn{B:Nat}{q:Tq}{row:Option Nat}(h:TqR B w q)(hg:w.grownBy w1 row)(hr:∀k,row=some k->w.heap.size<=k\/k<B):TqR B w1 q:=
 ⟨Zbv h.1 hg (λk hk e=>by have:=h.1.lt k e;rcases hr k hk with h3|h3<;>omega),Zbv h.2 hg (λk hk e=>by have:=h.2.lt k e;rcases hr k hk with h3|h3<;>omega)⟩
theorem Zkk{B:Nat}{row:Option Nat}(h:TqO B w ad m c Q)(hb:TqB N ad m c Q)(hg:w.grownBy w1 row)(hr:∀k,row=some k->N<=k\/k<B):TqO B w1 ad m c Q:=by
 refine⟨h.1,Zbv h.2.1 hg (λk hk e=>?_),λq hq=>⟨Zbv (h.2.2 q hq).1 hg (λk hk e=>?_),Zbv (h.2.2 q hq).2 hg (λk hk e=>?_)⟩⟩
 ·have h1:=hb.1 k e;have h2:=(h.2.1.lt k e).1;rcases hr k hk with h3|h3<;>omega
 ·have h1:=(hb.2 q hq).1 k e;have h2:=((h.2.2 q hq).1.lt k e).1;rcases hr k hk with h3|h3<;>omega
 ·have h1:=(hb.2 q hq).2 k e;have h2:=((h.2.2 q hq).2.lt k e).1;rcases hr k hk with h3|h3<;>omega
theorem ZhG{row:Option Nat}(h:w0.grownBy w (some G))(hg:w.grownBy w1 row)(hr:∀k,row=some k->w0.heap.size<=k):w0.grownBy w1 (some G):=
 ⟨hg.os.trans h.os,hg.tape.trans h.tape,hg.output.trans h.output,ZDA h.size hg.size,λk hk hne=>(hg.block k (ZDy hk h.size) (λe=>by have:=hr k e.symm;omega)).trans (h.block k hk hne)⟩
def TJ(G:Nat)(a:Option Addr)(n cap:Nat)(zs:List Int)(w0:World)(N:Nat)(ad:Option Addr)(m c:Nat)(Q:List Tq)(w:World):Prop:=G<w0.heap.size/\w0.heap.size<=N/\TqO w0.heap.size w ad m c Q/\TqB N ad m c Q/\ZG G a n cap zs w0 w
theorem Zjx{row:Option Nat}(h:TJ G a n cap zs w0 N ad m c Q w)(hg:w.grownBy w1 row)(hr:∀k,row=some k->N<=k):TJ G a n cap zs w0 N ad m c Q w1:=
 ⟨h.1,h.2.1,Zkk h.2.2.1 h.2.2.2.1 hg (λk hk => .inl (hr k hk)),h.2.2.2.1,Zdo h.2.2.2.2.1 hg (λk hk=>by have:=hr k hk;have:=h.1;have:=h.2.1;omega),ZhG h.2.2.2.2.2 hg (λk hk=>ZDA h.2.1 (hr k hk))⟩
theorem ZpO(h:TJ G a n cap zs w0 N ad m c Q w)(hd:ZG G a n cap zs w w1):TJ G a n cap zs w0 N ad m c Q w1:=
 ⟨h.1,h.2.1,Zkk h.2.2.1 h.2.2.2.1 hd.2 (λk hk=>by cases hk;exact .inr h.1),h.2.2.2.1,Zaj h.2.2.2.2 hd⟩
theorem Zju(h:TJ G a n cap zs w0 N ad m c Q w)(hb:ZL w w1):TJ G a n cap zs w0 N ad m c Q w1:=
 Zjx h (row:=none) ⟨hb.os,hb.tape,hb.output,hb.size,λk hk _=>hb.block k hk⟩ (λk hk=>by cases hk)
theorem ZjD(w:World):(w.alloc (.cells #[] 33)).ownsRow w.heap.size 33 10 (.slice (some ⟨w.heap.size,0,none⟩) 0 0) 0 []:=⟨rfl,.inr ⟨w.heap.size,0,#[],rfl,Zb _,Zz w _,Zb _,by unfold maxLen;omega,rfl,rfl⟩⟩
theorem ZuK(h:Zfr w0 G a n cap zs)(hd:ZG G a n cap zs (w0.alloc (.cells #[] 33)) w):TqO w0.heap.size w (some ⟨w0.heap.size,0,none⟩) 0 0 []/\ZG G a n cap zs w0 w:=by
 have hlt:=ZdC h;refine⟨⟨rfl,?_,λq hq=>by cases hq⟩,Zbi _ hd⟩;exact Zbv (ZjD w0) hd.2 (λk hk e=>by cases hk;have:=((ZjD w0).lt G e).1;omega)
theorem ZBD{B:Nat}(h:TqO B w ad m c Q)(hm:0<m):∃p,ad=some p/\∀j u,(Q.flatMap tqV)[j]?=some u->(w.alloc (.cells #[] 33)).cell? (p.add j)=some u:=by
 have h2:=h.2.1;rcases h.2.1.2 with ⟨e,hz⟩|⟨g,cp,cur,e,-,hg,-⟩
 ·omega
 ·simp only[ZDG]at e;obtain⟨rfl,-⟩:=e;refine⟨⟨g,0,none⟩,rfl,λj u hj=>?_⟩;have hj2:j<m*10:=by
   have:=(List.getElem?_eq_some_iff.1 hj).1;rw[ZpR,h.1]at this;exact this
  have h3:=(h.2.1.alloc (.cells #[] 33)).cellAt j hj2;rw[show(⟨g,0,none⟩:Addr).add j=⟨g,j,none⟩ from by
   unfold Addr.add;simp only[ZDE];split
   ·rename_i e;rw[e]
   ·rfl,h3]
  exact hj
theorem ZzV(w:World)(q:Tq)(j:Nat)(u:Value)(hj:(tqV q)[j]?=some u):(w.alloc (.cells (tqV q).toArray 33)).cell? ((⟨w.heap.size,0,none⟩:Addr).add j)=some u:=by
 rw[show(⟨w.heap.size,0,none⟩:Addr).add j=⟨w.heap.size,j,none⟩ from by
  unfold Addr.add;simp only[ZDE];split
  ·rename_i e;rw[e]
  ·rfl]
 rw[ZO _ w.heap.size j _ 33 (0,0) (Zz w _)];simpa using hj
theorem Zs5(hlt:G<w0.heap.size)(h:TqO w0.heap.size w ad m c Q)(hd:ZG G a n cap zs w w1):TqO w0.heap.size w1 ad m c Q:=Zkk h (Zsq h) hd.2 (λk hk=>by cases hk;exact .inr hlt)
theorem ZAb{B:Nat}(h:TqO B w ad m c Q)(hb:ZL w w1):TqO B w1 ad m c Q:=⟨h.1,ZbX h.2.1 hb,λq hq=>⟨ZbX (h.2.2 q hq).1 hb,ZbX (h.2.2 q hq).2 hb⟩⟩
theorem ZdB{B B' e z n:Nat}{v:Value}{xs:List Value}(h:w.ownsRow B e z v n xs)(hB:B'<=B):w.ownsRow B' e z v n xs:=by
 obtain⟨hl,h⟩:=h;refine⟨hl,?_⟩;rcases h with h|⟨g,cap,cur,hv,hg,hh,h1,h2,h3,h4⟩
 ·exact .inl h
 ·exact .inr ⟨g,cap,cur,hv,ZDA hB hg,hh,h1,h2,h3,h4⟩
theorem Zx4{q:Tq}{ad2:Option Addr}{c2 B2 B3:Nat}(h:TqO w0.heap.size w ad m c Q)(ho:w.ownsRow B2 33 10 (.slice ad2 (m+1) c2) (m+1) (Q.flatMap tqV++tqV q))(hB2:w0.heap.size<=B2)(hf:TqR B3 w q)(hB3:w0.heap.size<=B3):TqO w0.heap.size w ad2 (m+1) c2 (Q++[q]):=
 ⟨by rw[ZDz,h.1];rfl,by rw[List.flatMap_append];have:=ZdB ho hB2;simpa using this,λp hp=>by
  rcases List.mem_append.1 hp with hp|hp
  ·exact h.2.2 p hp
  ·rw[List.mem_singleton]at hp;subst hp;exact⟨ZdB hf.1 hB3,ZdB hf.2 hB3⟩⟩
theorem Zrl{q:Tq}(h:Zqm Q)(h1:TqK q.x):Zqm (Q++[q]):=λp hp=>by
 rcases List.mem_append.1 hp with hp|hp
 ·exact h p hp
 ·rw[List.mem_singleton]at hp;subst hp;exact h1
end
theorem ZAH:(prog.info? 33).map (λi=>(i.zero,i.size,i.bytes))=some (some (.agg #[.string ⟨#[]⟩,I 0,I 0,.slice none 0 0,I 0,I 0,.string ⟨#[]⟩,.string ⟨#[]⟩,.string ⟨#[]⟩,.slice none 0 0]),10,144):=by kernel_rfl
theorem Zwj(a b c:Int)(w:World):Calls prog 30 #[I a,I b,I c] w λe w'=>e=.returned (.bool (decide (b<=a/\a<=c)))/\w'=w:=by
 by_cases h1:b<=a
 ·by_cases h2:a<=c
  ·go_enter func30,ntmps30
   go_wp2;go_ret;exact⟨Zo (by simp;omega),rfl⟩
  ·go_enter func30,ntmps30
   go_wp2;go_ret;exact⟨Zo (by simp;omega),rfl⟩
 ·go_enter func30,ntmps30
  go_wp2;go_ret;exact⟨Zo (by simp;omega),rfl⟩
theorem Zby(a b c:Int)(w:World)(h:b<=a/\a<=c):Calls prog 30 #[I a,I b,I c] w λe w'=>e=.returned (.bool true)/\w'=w:=by
 have:=Zwj a b c w
 rwa [Zh h]at this
theorem ZbY(a b c:Int)(w:World)(h:¬(b<=a/\a<=c)):Calls prog 30 #[I a,I b,I c] w λe w'=>e=.returned (.bool false)/\w'=w:=by
 have:=Zwj a b c w
 rwa [Zg h]at this
theorem Zra(L:List Ty)(m n:Nat)(a:Option Addr)(c:Nat)(w:World)(hm:m<=L.length)(hn:n<m)(hz:m<=20000)(hb:bsW L n)(hr:ZiL w a L w.heap.size):
  Calls prog 53 #[.slice a m c,I n] w λe w'=>e=.returned (I (prP L n))/\ZL w w':=by
 have HR:=J hr;have HB:=J hb;clear hr hb;obtain⟨P,hP⟩:=ZX (prP L n);have HP:=J hP;rw[hP];clear hP;go_enter func53,ntmps53
 go_wp2
 go_loopw [1,5] (λnv kv wr=>∃(p k:Nat),nv=I p/\kv=I k/\p+k<=n/\Hid (prP L p=P)/\Hid (ZL w wr)) (λ_ kv _=>(n+1)-(Zi kv).toNat)
 case atStart=>exact⟨n,0,rfl,rfl,by omega,HP,Ze _ _⟩
 case round=>
  obtain⟨p,k,rfl,rfl,hpk,HPP,HBW⟩:=hrel;obtain⟨b,off,rfl,hbs,hrow⟩:=ZeZ HR.out (j:=p) (by omega);obtain⟨am,cm,ae,ce,hc,-,-⟩:=hrow p (by omega);obtain⟨c0,c1,c2,c3,c4,c5,c6,c7,c8,c9⟩:=Zkx hc hbs HBW.out;have HW:=J (HB.out p (by omega));obtain⟨x,hx⟩:=ZX (tyA L p);have HX:=J hx;rw[hx]at c0 c1 c2 c3 c4 c5 c6 c7 c8 c9;obtain⟨nm,kd,bs,ms,mn,mx,lo,hi,pt,en⟩:=x;simp only at c0 c1 c2 c3 c4 c5 c6 c7 c8 c9;have CI:=J (Zby (p:Int) 0 ((m:Int)-1) wr (by omega));clear hc hrow hx;by_cases hk:kd=10
  ·subst hk;have hbs2:=HW.out (by rw[HX.out]);rw[HX.out]at hbs2;simp only at hbs2;obtain⟨q,hq⟩:∃q:Nat,bs=q:=⟨bs.toNat,by omega⟩;subst hq;have HPQ:Hid (prP L q=P):=J (by
    have:=HPP.out;rw[Zee (by rw[HX.out]) (by rw[HX.out];exact hbs2),HX.out]at this;simpa using this)
   go_wp2_with (go_at_call 30;refine Zc CI.out ?_)
   go_roundw
   case rel=>exact⟨q,k+1,rfl,by go_num,by omega,HPQ,by first|exact HBW|exact J HBW.out⟩
   case measure=>simp[Zi];omega
  ·have HPQ:Hid (kd=P):=J (by
    have:=HPP.out;rw[Zdb (by rw[HX.out];exact hk),HX.out]at this;exact this)
   have hk2:(kd != 10)=true:=by simpa using hk
   go_wp2_with (go_at_call 30;refine Zc CI.out ?_)
   go_ret;exact⟨Za0 HPQ.out,HBW.out⟩
def ZCd(k:Int)(s:ZB)(w:World)(e:Ending)(w':World):Prop:=∃v b,e=.returned (.tuple #[.string v,.bool b])/\b=atO k s/\(b=true->v=atV k s)/\ZL w w'
theorem ZkI(t:ZB):(ZH t=true/\rdV t=.tuple #[.agg #[I (f0 t),I (f1 t),I (f2 t),I (f3 t),I (f4 t),I (f5 t),.bool (zI (Zu t)).1,I (zI (Zu t)).2.1],.bool true])\/
  (ZH t=false/\rdV t=.tuple #[.agg #[I 0,I 0,I 0,I 0,I 0,I 0,.bool false,I 0],.bool false]):=by
 cases h:ZH t
 ·exact .inr ⟨rfl,Zcc h⟩
 ·refine .inl ⟨rfl,?_⟩;unfold rdV;rw[Zd h]
theorem Zql(t:ZB)(m:Nat)(hm:m<t.size):(t.data.toList.take (m+1)).all (λc=>!(c==46))=((t.data.toList.take m).all (λc=>!(c==46)) && !(t[m]==46)):=by
 rw[List.take_succ_eq_append_getElem (by simpa using hm),List.all_append];simp;rfl
theorem ZhZ(k:Int)(s:ZB)(w:World)(hs:s.size<=1048576):Calls prog 60 #[I k,.string s] w (ZCd k s w):=by
 have CW:Hid (Calls prog 102 #[.string s,I 2] w λe w'=>e=.returned (.string (jnB s))/\ZL w w'):=J (ZpY s 2 w hs);have hjs:=Zer s;obtain⟨T,hT⟩:=ZX (jnB s);rw[hT]at CW hjs;by_cases k1:k=1
 ·subst k1;have HO:Hid (atO 1 s=ZD s):=J rfl;have HV:Hid (atV 1 s=s):=J rfl;have CT:=J (λw1=>ZrN s w1 hs);obtain⟨z,hz⟩:=ZX (ZD s);rw[hz]at HO CT;clear hT hz;go_enter func60,ntmps60
  go_wp2_with (first|(go_at_call 102;refine ZM CW.out ?_;rintro w1 hb1;have HB1:=J hb1;clear hb1)|(go_at_call 31;refine ZM (CT.out _) ?_;rintro w2 hb2;have HB2:=J (HB1.out.trans (hb2.mono HB1.out.size));clear hb2))
  go_ret2;exact⟨_,_,rfl,HO.out.symm,λ_=>HV.out.symm,HB2.out⟩
 by_cases k2:k=2
 ·subst k2;have HO:Hid (atO 2 s=ZD T):=J (by rw[<-hT];rfl);have HV:Hid (atV 2 s=T):=J (by rw[<-hT];rfl);have CT:=J (λw1=>ZrN T w1 (by omega));obtain⟨z,hz⟩:=ZX (ZD T);rw[hz]at HO CT;clear hT hz;go_enter func60,ntmps60
  go_wp2_with (first|(go_at_call 102;refine ZM CW.out ?_;rintro w1 hb1;have HB1:=J hb1;clear hb1)|(go_at_call 31;refine ZM (CT.out _) ?_;rintro w2 hb2;have HB2:=J (HB1.out.trans (hb2.mono HB1.out.size));clear hb2))
  go_ret2;exact⟨_,_,rfl,HO.out.symm,λ_=>HV.out.symm,HB2.out⟩
 by_cases k3:k=3
 ·subst k3;have HO:Hid (atO 3 s=ZcO T):=J (by rw[<-hT];rfl);have HV:Hid (atV 3 s=T):=J (by rw[<-hT];rfl);have CT:=J (λw1=>Zwa T w1 (by unfold maxLen;omega));obtain⟨z,hz⟩:=ZX (ZcO T);rw[hz]at HO CT;clear hT hz;go_enter func60,ntmps60
  go_wp2_with (first|(go_at_call 102;refine ZM CW.out ?_;rintro w1 hb1;have HB1:=J hb1;clear hb1)|(go_at_call 52;refine ZM (CT.out _) ?_;rintro w2 h9;rw[h9];clear h9 w2))
  go_ret2;exact⟨_,_,rfl,HO.out.symm,λ_=>HV.out.symm,HB1.out⟩
 by_cases k4:k=4
 ·subst k4;have HO:Hid (atO 4 s=(Zo0 T||Zva T)):=J (by rw[<-hT];rfl);have HV:Hid (atV 4 s=if Zo0 T=true then ZhD else ZeY):=J (by rw[<-hT];rfl);have HTr:Hid (Zo0 T=((T.toList==[116,114,117,101])||(T.toList==[49]))):=J rfl;have HFa:Hid (Zva T=((T.toList==[102,97,108,115,101])||(T.toList==[48]))):=J rfl;obtain⟨z1,hz1⟩:∃z,(T.toList==[116,114,117,101])=z:=⟨_,rfl⟩;obtain⟨z2,hz2⟩:∃z,(T.toList==[49])=z:=⟨_,rfl⟩;obtain⟨z3,hz3⟩:∃z,(T.toList==[102,97,108,115,101])=z:=⟨_,rfl⟩;obtain⟨z4,hz4⟩:∃z,(T.toList==[48])=z:=⟨_,rfl⟩;rw[hz1,hz2]at HTr;rw[hz3,hz4]at HFa;clear hT;cases z1
  ·cases z2
   ·cases z3
    ·cases z4;all_goals
      go_enter func60,ntmps60
      go_wp2_with (go_at_call 102;refine ZM CW.out ?_;rintro w1 hb1;have HB1:=J hb1;clear hb1)
      go_ret2;exact⟨_,_,rfl,by rw[HO.out,HTr.out,HFa.out];rfl,λh=>by(first|(rw[HV.out,HTr.out];rfl)|cases h),HB1.out⟩
    ·go_enter func60,ntmps60
     go_wp2_with (go_at_call 102;refine ZM CW.out ?_;rintro w1 hb1;have HB1:=J hb1;clear hb1)
     go_ret2;exact⟨_,_,rfl,by rw[HO.out,HTr.out,HFa.out];rfl,λh=>by rw[HV.out,HTr.out];rfl,HB1.out⟩
   ·go_enter func60,ntmps60
    go_wp2_with (go_at_call 102;refine ZM CW.out ?_;rintro w1 hb1;have HB1:=J hb1;clear hb1)
    go_ret2;exact⟨_,_,rfl,by rw[HO.out,HTr.out];rfl,λh=>by rw[HV.out,HTr.out];rfl,HB1.out⟩
  ·go_enter func60,ntmps60
   go_wp2_with (go_at_call 102;refine ZM CW.out ?_;rintro w1 hb1;have HB1:=J hb1;clear hb1)
   go_ret2;exact⟨_,_,rfl,by rw[HO.out,HTr.out];rfl,λh=>by rw[HV.out,HTr.out];rfl,HB1.out⟩
 by_cases k56:k=5\/k=6
 ·have CR:=J (λw1=>Zq0 T w1 (by omega));have HDO:Hid (Zka T=(ZC T).2.2.2):=J rfl;have HDT:Hid (Zgj T=ZeV (ZC T).1 (ZC T).2.1 (ZC T).2.2.1):=J rfl;have hsz:=ZdY T;obtain⟨R,hR⟩:=ZX (ZC T);rw[hR]at CR HDO HDT hsz;obtain⟨n9,s9,c9,o9⟩:=R;unfold Zil at CR;simp only at CR HDO HDT;have hs9:s9.size<=60:=hsz;obtain⟨V,hV⟩:=ZX (ZeV n9 s9 c9);have CT:=J (λw1=>Zyo n9 s9 c9 w1 (by unfold maxLen;omega));rw[hV]at CT HDT;rcases k56 with rfl|rfl
  ·have HO:Hid (atO 5 s=o9):=J (by rw[<-HDO.out,<-hT];rfl);have HV:Hid (atV 5 s=V):=J (by rw[<-HDT.out,<-hT];rfl);clear hT hR hV hsz;go_enter func60,ntmps60
   go_wp2_with (first|(go_at_call 102;refine ZM CW.out ?_;rintro w1 hb1;have HB1:=J hb1;clear hb1)|(go_at_call 104;refine ZM (CR.out _) ?_;rintro w2 hb2;have HB2:=J (HB1.out.trans (hb2.mono HB1.out.size));clear hb2)|(go_at_call 105;refine ZM (CT.out _) ?_;rintro w3 hb3;have HB3:=J (HB2.out.trans ((ZdA hb3).mono HB2.out.size));clear hb3))
   go_ret2;exact⟨_,_,rfl,HO.out.symm,λ_=>HV.out.symm,HB3.out⟩
  ·have HO:Hid (atO 6 s=(o9&&Zif T)):=J (by rw[<-HDO.out,<-hT];rfl);have HV:Hid (atV 6 s=V):=J (by rw[<-HDT.out,<-hT];rfl);clear hT hR hV hsz;go_enter func60,ntmps60
   go_wp2_with (first|(go_at_call 102;refine ZM CW.out ?_;rintro w1 hb1;have HB1:=J hb1;clear hb1)|(go_at_call 104;refine ZM (CR.out _) ?_;rintro w2 hb2;have HB2:=J (HB1.out.trans (hb2.mono HB1.out.size));clear hb2))
   obtain⟨z,hz⟩:=ZX (Zif T);rw[hz]at HO;have HZ:Hid (T.data.toList.all (λc=>!(c==46))=z):=J hz;clear hz CR CW;obtain⟨Wd,hWd⟩:=ZX (w2.alloc (.cells #[.bool n9,.string s9,I c9] 136));have HX2:=J (ZfP w2 n9 s9 c9 136);have HC2:=J (HB2.out.alloc HB2.out.size (.cells #[.bool n9,.string s9,I c9] 136));rw[hWd]at HX2 HC2;rw[hWd];clear hWd
   go_loop [10,11] (λokv iv=>∃j:Nat,iv=I j/\j<=T.size/\okv=.bool (o9&&(T.data.toList.take j).all (λc=>!(c==46)))) (λ_ iv=>T.size-(Zi iv).toNat)
   case atStart=>exact⟨0,rfl,Zx _,by simp⟩
   case round=>
    obtain⟨j,rfl,hj,rfl⟩:=hrel;obtain⟨y,hy⟩:=ZX (o9&&(T.data.toList.take j).all (λc=>!(c==46)));rw[hy];by_cases hlt:j<T.size
    ·have HD:=J (Zql T j hlt);have HY:=J hy;clear hy;cases y
     ·go_wp2
      go_round
      case rel=>exact⟨j+1,by go_num,by omega,by rw[HD.out,<-Bool.and_assoc,HY.out];rfl⟩
      case measure=>simp[Zi];omega
     ·obtain⟨u,hu⟩:=ZX ((T[j].toNat:Int) != 46);have HU:Hid ((!(T[j]==46))=u):=J (by
       rw[<-hu];by_cases e:T[j]=46
       ·rw[e];rfl
       ·have e2:(T[j].toNat:Int)≠46:=λh=>e (UInt8.toNat_inj.1 (by show _=46;omega))
        rw[beq_eq_false_iff_ne.2 e,bne_iff_ne.2 e2];rfl)
      go_wp2
      go_round
      case rel=>exact⟨j+1,by go_num,by omega,by rw[HD.out,<-Bool.and_assoc,HY.out,HU.out];rfl⟩
      case measure=>simp[Zi];omega
    ·have hjt:j=T.size:=(by omega);have HY:Hid (y=(o9&&z)):=J (by
      rw[<-hy,hjt,ZD2 (by simp),HZ.out])
     clear hy;obtain⟨⟨e1,e2,e3⟩,g1,g2,g3⟩:=ZdU HX2.out;go_wp2_with (go_at_call 105;refine ZM (CT.out _) ?_;rintro w3 hb3;have HB3:=J (HC2.out.trans (hb3.mono HC2.out.size));clear hb3)
     go_ret2;exact⟨_,_,rfl,by rw[HO.out,HY.out],λ_=>HV.out.symm,HB3.out⟩
 by_cases k7:k=7
 ·subst k7;have HO:Hid (atO 7 s=ZH T):=J (by rw[<-hT];rfl);have HV:Hid (atV 7 s=Zg6 T):=J (by rw[<-hT];rfl);have CR:=J (λw1=>Zm3 T w1 (by omega));clear hT;rcases ZkI T with ⟨hr,hv⟩|⟨hr,hv⟩
  ·rw[hv]at CR;have HDT:Hid (Zg6 T=dtB (f0 T) (f1 T) (f2 T) (f3 T) (f4 T) (f5 T) (zI (Zu T)).1 (zI (Zu T)).2.1):=J rfl;generalize f0 T=a0 at CR HDT;generalize f1 T=a1 at CR HDT;generalize f2 T=a2 at CR HDT;generalize f3 T=a3 at CR HDT;generalize f4 T=a4 at CR HDT;generalize f5 T=a5 at CR HDT;generalize (zI (Zu T)).1=a6 at CR HDT;generalize (zI (Zu T)).2.1=a7 at CR HDT;have CT:=J (λw1=>ZlV a0 a1 a2 a3 a4 a5 a6 a7 w1);rw[<-HDT.out]at CT;have HR:=J hr;clear hv hr HDT;go_enter func60,ntmps60
   go_wp2_with (first|(go_at_call 102;refine ZM CW.out ?_;rintro w1 hb1;have HB1:=J hb1;clear hb1)|(go_at_call 106;refine ZM (CR.out _) ?_;rintro w2 hb2;have HB2:=J (HB1.out.trans (hb2.mono HB1.out.size));have X2:=J (Zcl w2 a0 a1 a2 a3 a4 a5 a6 a7 78);have C2:=J (HB2.out.alloc HB2.out.size (.cells #[I a0,I a1,I a2,I a3,I a4,I a5,.bool a6,I a7] 78));clear hb2;obtain⟨k0,k1,k2,k3,k4,k5,k6,k7,k8⟩:=X2.out;clear k0)|(go_at_call 45;refine ZM (CT.out _) ?_;rintro w3 hb3;have HB3:=J (C2.out.trans (hb3.mono C2.out.size));clear hb3))
   go_ret2;exact⟨_,_,rfl,by rw[HO.out,HR.out],λ_=>HV.out.symm,HB3.out⟩
  ·rw[hv]at CR;have CT:=J (λw1=>ZlV 0 0 0 0 0 0 false 0 w1);have HR:=J hr;clear hv hr;go_enter func60,ntmps60
   go_wp2_with (first|(go_at_call 102;refine ZM CW.out ?_;rintro w1 hb1;have HB1:=J hb1;clear hb1)|(go_at_call 106;refine ZM (CR.out _) ?_;rintro w2 hb2;have HB2:=J (HB1.out.trans (hb2.mono HB1.out.size));have X2:=J (Zcl w2 0 0 0 0 0 0 false 0 78);have C2:=J (HB2.out.alloc HB2.out.size (.cells #[I 0,I 0,I 0,I 0,I 0,I 0,.bool false,I 0] 78));clear hb2;obtain⟨k0,k1,k2,k3,k4,k5,k6,k7,k8⟩:=X2.out;clear k0)|(go_at_call 45;refine ZM (CT.out _) ?_;rintro w3 hb3;have HB3:=J (C2.out.trans (hb3.mono C2.out.size));clear hb3))
   go_ret2;exact⟨_,_,rfl,by rw[HO.out,HR.out],λh=>(by cases h),HB3.out⟩
 ·have HO:Hid (atO k s=false):=J (by unfold atO;rw[Za k1,Za k2,Za k3,Za k4,Za (λe=>k56 (.inl e)),Za (λe=>k56 (.inr e)),Za k7]);have e1:(k==1)=false:=by simpa using k1
  have e2:(k==2)=false:=by simpa using k2
  have e3:(k==3)=false:=by simpa using k3
  have e4:(k==4)=false:=by simpa using k4
  have e5:(k==5)=false:=by simpa using λe=>k56 (.inl e)
  have e6:(k==6)=false:=by simpa using λe=>k56 (.inr e)
  have e7:(k==7)=false:=by simpa using k7
  clear hT k1 k2 k3 k4 k56 k7;go_enter func60,ntmps60
  go_wp2_with (go_at_call 102;refine ZM CW.out ?_;rintro w1 hb1;have HB1:=J hb1;clear hb1)
  go_ret2;exact⟨_,_,rfl,HO.out.symm,λh=>(by cases h),HB1.out⟩
end
def vcP(c:Int):Prop:=(48<=c/\c<=58)\/c=43\/c=45\/c=46\/c=84\/c=90
theorem Zh0{c:UInt8}(h:vcP (c.toNat:Int)):blB c=false/\c.toNat<128/\ZgG (c.toNat:Int)=true:=by
 have hn:(48<=c.toNat/\c.toNat<=58)\/c.toNat=43\/c.toNat=45\/c.toNat=46\/c.toNat=84\/c.toNat=90:=by unfold vcP at h;omega
 refine⟨?_,by omega,?_⟩
 ·cases hb:blB c
  ·rfl
  ·unfold blB at hb;simp only[ZDI,ZEd]at hb;exfalso;rcases hb with ((rfl|rfl)|rfl)|rfl<;>revert hn<;>decide
 ·unfold ZgG;rw[Z6];omega
def vcL(s:ZB):Prop:=∀j,j<s.size->vcP (at8 s j)
theorem Zkz{s:ZB}(h:vcL s){c:UInt8}(hc:c∈s.data.toList):vcP (c.toNat:Int):=by
 obtain⟨j,hj,e⟩:=List.getElem_of_mem hc;have hj2:j<s.size:=by simpa using hj
 have:=h j hj2;rw[ZaX s j hj2]at this;rw[<-e];exact this
theorem ZrG{s:ZB}(h:∀c∈s.data.toList,vcP (c.toNat:Int)):vcL s:=λj hj=>by
 have hj':j<s.data.toList.length:=by simpa using hj
 unfold at8;rw[Zv hj'];exact h _ (ZD3 _)
theorem ZBl:∀(l:List UInt8) (h:ZeC l<l.length),l[ZeC l]=46:=by
 intro l;induction l with
 |nil=>intro h;simp at h
 |cons b l ih=>
  intro h;by_cases e:b=46
  ·subst e;simp[ZeC]
  ·simp only[ZeC,Za e]at h ⊢;simp only[List.getElem_cons_succ];exact ih (by simpa using h)
theorem Zrt{r:ZB}(hb:ZS r=false):vcL r/\r.size<=180/\0<r.size:=by
 unfold ZS at hb;simp only[Bool.or_eq_false_iff,decide_eq_false_iff_not,Bool.not_eq_false']at hb;obtain⟨h1,h2,h3,h4⟩:=hb;have e1:=Zgi r;have e2:=Zhw r;have d1:=(ZbD _).1 h2;have d2:=(ZbD _).1 h3;rw[e1]at d1;rw[e2]at d2;refine⟨ZrG (λc hc=>?_),by omega,by have:=(Zeo r).2.2;omega⟩;rw[<-List.take_append_drop (ZeC r.data.toList) r.data.toList]at hc;rcases List.mem_append.1 hc with hc|hc
 ·have:=d1 c hc;unfold vcP;omega
 ·by_cases hlt:ZeC r.data.toList<r.data.toList.length
  ·rw[List.drop_eq_getElem_cons hlt]at hc;rcases List.mem_cons.1 hc with e|hc
   ·rw[e,ZBl _ hlt];unfold vcP;decide
   ·have:=d2 c hc;unfold vcP;omega
  ·rw[List.drop_eq_nil_of_le (by omega)]at hc;cases hc
theorem ZyF{s:ZB}(h:Zka s=true):ZS (ZcF s)=false:=by
 unfold Zka ZC Zy at h;cases hb:ZS (ZcF s)
 ·rfl
 ·rw[Zd hb]at h;cases h
theorem Zh3{s:ZB}(h:Zka s=true):vcL s/\s.size<=181/\0<s.size:=by
 obtain⟨hr,h1,h4⟩:=Zrt (ZyF h);clear h;by_cases hp:0<s.size/\(at8 s 0=45\/at8 s 0=43)
 ·have er:ZcF s=s.extract 1 s.size:=by rw[ZcF,Zd hp]
  rw[er]at hr h1 h4;rw[Zao s 1 s.size (Zb _)]at h1 h4;refine⟨λj hj=>?_,by omega,hp.1⟩;by_cases hj0:j=0
  ·subst hj0;unfold vcP;omega
  ·have:=hr (j-1) (by rw[Zao s 1 s.size (Zb _)];omega);rw[ZcD s 1 s.size (j-1) (by omega) (Zb _),show 1+(j-1)=j by omega]at this;exact this
 ·have er:ZcF s=s:=by rw[ZcF,Za hp]
  rw[er]at hr h1 h4;exact⟨hr,by omega,h4⟩
theorem ZBh{c:Int}(h:Z0 c=true):vcP c:=by
 unfold Z0 at h;rw[Z6]at h;unfold vcP;omega
theorem Ziv{s:ZB}(h:ZH s=true):vcL s/\s.size<=25/\0<s.size:=by
 unfold ZH at h;simp only[ZW]at h;obtain⟨h1,h2,-⟩:=h;obtain⟨hs,hk⟩:=ZlD h1;have hs19:(Zej s).size=19:=hs;have hz:19<=s.size:=by
  unfold Zej at hs19;rw[Zao _ _ _ (by omega)]at hs19;omega
 have hhd:∀j,j<19->vcP (at8 s j):=λj hj=>by
  have e:at8 (Zej s) j=at8 s j:=ZmZ hz hj;have:=hk j hj;by_cases e48:at8 p19 j=48
  ·rw[Zd e48,e]at this;exact ZBh this
  ·rw[Za e48,Z6,e]at this;rw[this];rcases(show j=0\/j=1\/j=2\/j=3\/j=4\/j=5\/j=6\/j=7\/j=8\/j=9\/j=10\/j=11\/j=12\/j=13\/j=14\/j=15\/j=16\/j=17\/j=18 by omega) with rfl|rfl|rfl|rfl|rfl|rfl|rfl|rfl|rfl|rfl|rfl|rfl|rfl|rfl|rfl|rfl|rfl|rfl|rfl<;>(unfold vcP;decide)
 have htl:∀j,j<(Zu s).size->vcP (at8 (Zu s) j):=λj hj=>by
  unfold zI at h2;by_cases t0:(Zu s).size=0
  ·omega
  ·rw[Za t0]at h2;by_cases tz:Zu s=⟨#[90]⟩
   ·rw[tz]at hj ⊢;have h1:(⟨#[90]⟩:ZB).size=1:=rfl;have:j=0:=by omega
    subst this;unfold vcP;decide
   ·rw[Za tz]at h2;by_cases ts:(at8 (Zu s) 0=43\/at8 (Zu s) 0=45)/\shB ((Zu s).extract 1 (Zu s).size) p5=true
    ·obtain⟨g1,g2⟩:=ts;obtain⟨hs5,hk5⟩:=ZlD g2;have hsz:((Zu s).extract 1 (Zu s).size).size=5:=hs5;rw[Zao _ _ _ (Zb _)]at hsz;by_cases hj0:j=0
     ·subst hj0;unfold vcP;omega
     ·have:=hk5 (j-1) (by show _<5;omega);rw[ZcD _ 1 _ (j-1) (by omega) (Zb _),show 1+(j-1)=j by omega]at this;by_cases e48:at8 p5 (j-1)=48
      ·rw[Zd e48]at this;exact ZBh this
      ·rw[Za e48,Z6]at this;rw[this];have hj5:j-1<5:=(by omega);generalize j-1=i at hj5;rcases(show i=0\/i=1\/i=2\/i=3\/i=4 by omega) with rfl|rfl|rfl|rfl|rfl<;>(unfold vcP;decide)
    ·rw[Za ts]at h2;cases h2
 have hts:(Zu s).size=s.size-19:=Zao s 19 s.size (Zb _);have htz:(Zu s).size<=6:=by
  unfold zI at h2;by_cases t0:(Zu s).size=0
  ·omega
  ·rw[Za t0]at h2;by_cases tz:Zu s=⟨#[90]⟩
   ·rw[tz];decide
   ·rw[Za tz]at h2;by_cases ts:(at8 (Zu s) 0=43\/at8 (Zu s) 0=45)/\shB ((Zu s).extract 1 (Zu s).size) p5=true
    ·obtain⟨hs5,-⟩:=ZlD ts.2;have hsz:((Zu s).extract 1 (Zu s).size).size=5:=hs5;rw[Zao _ _ _ (Zb _)]at hsz;omega
    ·rw[Za ts]at h2;cases h2
 refine⟨λj hj=>?_,by omega,by omega⟩;by_cases hj19:j<19
 ·exact hhd j hj19
 ·have:=htl (j-19) (by omega);have e:at8 (Zu s) (j-19)=at8 s j:=by
   unfold Zu;rw[ZcD s 19 s.size (j-19) (by omega) (Zb _)];congr 1;omega
  rwa [e]at this
theorem Zmm{n:Bool}{r:ZB}(h:(Zy n r).2.2.2=true):ZP (Zy n r).1 (Zy n r).2.1 (Zy n r).2.2.1=true:=by
 unfold Zy at h ⊢;by_cases hb:ZS r=true
 ·rw[Zd hb]at h;cases h
 ·rw[Za hb]at h ⊢;generalize hR:Za5 n (Zw (Zbg r++ZbV r).data.toList) (ZbV r).size=R at h ⊢;obtain⟨a,b,c,d⟩:=R;simp only at h;subst h;exact ZkB _ _ _ _ _ _ hR
theorem ZkG{t:ZB}(h:Zka t=true):ZP (ZC t).1 (ZC t).2.1 (ZC t).2.2.1=true:=Zmm h
theorem Ztp{t:ZB}(h:Zka t=true):ZC (Zgj t)=ZC t:=by
 have:=ZrJ (ZkG h);unfold Zgj;rw[this];unfold Zka at h;generalize ZC t=R at h;obtain⟨a,b,c,d⟩:=R;simp only at h;subst h;rfl
theorem ZnG{t:ZB}(h:Zka t=true):Zka (Zgj t)=true/\Zgj (Zgj t)=Zgj t:=by
 have hb:=Ztp h;constructor
 ·unfold Zka at h ⊢;rw[hb,h]
 ·show ZeV (ZC (Zgj t)).1 (ZC (Zgj t)).2.1 (ZC (Zgj t)).2.2.1=Zgj t;rw[hb];rfl
theorem Zi3{s:ZB}(h:ZH s=true):Z8 (f0 s) (f1 s) (f2 s) (f3 s) (f4 s) (f5 s) (zI (Zu s)).1 (zI (Zu s)).2.1=true:=by
 unfold ZH at h;simp only[ZW]at h;exact h.2.2
theorem Zb2{t:ZB}(h:ZH t=true):ZH (Zg6 t)=true/\Zg6 (Zg6 t)=Zg6 t:=by
 obtain⟨q,q0,q1,q2,q3,q4,q5,qz,-⟩:=ZpS (Zi3 h) (t:=Zg6 t) rfl;refine⟨q,?_⟩;show dtB (f0 (Zg6 t)) (f1 (Zg6 t)) (f2 (Zg6 t)) (f3 (Zg6 t)) (f4 (Zg6 t)) (f5 (Zg6 t)) (zI (Zu (Zg6 t))).1 (zI (Zu (Zg6 t))).2.1=Zg6 t;rw[q0,q1,q2,q3,q4,q5,qz];rfl
def Zs9(t:ZB):Prop:=∀c∈t.data.toList,blB c=false
theorem Zyz{l:List UInt8}(h:∀c∈l,blB c=false)(h0:l≠[]):wdB [] l=[l]:=by
 have:=Zlo l [] [] h;rw[List.append_nil,List.nil_append]at this;rw[this,wdB,Za h0]
theorem Zxc{t:ZB}(h:Zs9 t):jnB t=t:=by
 by_cases h0:t.data.toList=[]
 ·have e:t=⟨#[]⟩:=Zdf (by rw[h0]);subst e;rfl
 ·apply Zdf;rw[Zm2,Zyz h h0,Lib.join_one]
theorem ZmL{t:ZB}(h:vcL t):Zs9 t:=λc hc=>(Zh0 (Zkz h hc)).1
theorem Zjv{t:ZB}(h:vcL t)(hs:t.size<=20000):ZD t=true:=by
 rw[Zc7,Znm _ (λc hc=>(Zh0 (Zkz h hc)).2)];simp[hs]
theorem Zcz{t:ZB}(h:Zka t=true):vcL (Zgj t)/\(Zgj t).size<=181/\0<(Zgj t).size:=Zh3 (ZnG h).1
theorem Ze5{t:ZB}(h:ZH t=true):vcL (Zg6 t)/\(Zg6 t).size<=25/\0<(Zg6 t).size:=Ziv (Zb2 h).1
theorem Zgp{t:ZB}(h:ZcO t=true):(∀c∈t.data.toList,blB c=false/\c.toNat<128/\ZgG (c.toNat:Int)=true)/\t.size<=40/\0<t.size:=by
 unfold ZcO at h;simp only[ZW,Z6,ZDP]at h;obtain⟨h1,h2,h3,h4⟩:=h;have hall:∀j,j<t.size->Zez (at8 t j)=true:=λj hj=>by
  have:=h4 j (by simpa using hj);simp only[ZDI,ZEd]at this;rcases this with rfl|h
  ·unfold Zfq at h3;unfold Zez;rw[Z6]at h3 ⊢;omega
  ·exact h
 refine⟨λc hc=>?_,h2,h1⟩;obtain⟨j,hj,e⟩:=List.getElem_of_mem hc;have hj2:j<t.size:=by simpa using hj
 have:=hall j hj2;rw[ZaX t j hj2]at this;have e9:t[j]=t.data.toList[j]:=rfl;rw[e9,e]at this;unfold Zez at this;rw[Z6]at this;refine⟨?_,by omega,?_⟩
 ·cases hb:blB c
  ·rfl
  ·unfold blB at hb;simp only[ZDI,ZEd]at hb;exfalso;rcases hb with ((rfl|rfl)|rfl)|rfl<;>revert this<;>decide
 ·unfold ZgG;rw[Z6];omega
theorem ZuO(s:ZB):atV 1 s=s:=by simp[atV]
theorem Ztc(s:ZB):atV 2 s=jnB s:=by simp[atV]
theorem ZtK(s:ZB):atV 3 s=jnB s:=by simp[atV]
theorem Zto(s:ZB):atV 4 s=if Zo0 (jnB s)=true then ZhD else ZeY:=by simp[atV]
theorem Zmp(s:ZB):atV 5 s=Zgj (jnB s):=by simp[atV]
theorem Zo4(s:ZB):atV 6 s=Zgj (jnB s):=by simp[atV]
theorem ZfE(s:ZB):atV 7 s=Zg6 (jnB s):=by simp[atV]
theorem ZAD(s:ZB):atO 1 s=ZD s:=by simp[atO]
theorem ZxJ(s:ZB):atO 2 s=ZD (jnB s):=by simp[atO]
theorem Zyu(s:ZB):atO 3 s=ZcO (jnB s):=by simp[atO]
theorem Zzo(s:ZB):atO 4 s=(Zo0 (jnB s)||Zva (jnB s)):=by simp[atO]
theorem Zlr(s:ZB):atO 5 s=Zka (jnB s):=by simp[atO]
theorem Zl7(s:ZB):atO 6 s=(Zka (jnB s)&&Zif (jnB s)):=by simp[atO]
theorem Zfm(s:ZB):atO 7 s=ZH (jnB s):=by simp[atO]
theorem ZB7:Zs9 ZhD:=by unfold Zs9;decide
theorem ZB4:Zs9 ZeY:=by unfold Zs9;decide
theorem ZAF{t:ZB}(h:Zo0 t=true):t=ZhD\/t=⟨#[49]⟩:=by
 unfold Zo0 at h;rw[ZDI,ZEd,ZEd]at h;rcases h with h|h
 ·exact .inl (by rw[ZEr]at h;exact Zdf h)
 ·exact .inr (by rw[ZEr]at h;exact Zdf h)
theorem ZAJ{t:ZB}(h:Zva t=true):t=ZeY\/t=⟨#[48]⟩:=by
 unfold Zva at h;rw[ZDI,ZEd,ZEd]at h;rcases h with h|h
 ·exact .inl (by rw[ZEr]at h;exact Zdf h)
 ·exact .inr (by rw[ZEr]at h;exact Zdf h)
theorem ZoH{t:ZB}(h:(Zo0 t||Zva t)=true):(∀c∈t.data.toList,blB c=false/\c.toNat<128/\ZgG (c.toNat:Int)=true)/\t.size<=40:=by
 rw[ZDI]at h;have:t=ZhD\/t=⟨#[49]⟩\/t=ZeY\/t=⟨#[48]⟩:=by
  rcases h with h|h
  ·rcases ZAF h with h|h
   ·exact .inl h
   ·exact .inr (.inl h)
  ·rcases ZAJ h with h|h
   ·exact .inr (.inr (.inl h))
   ·exact .inr (.inr (.inr h))
 rcases this with rfl|rfl|rfl|rfl<;>exact⟨by decide,by decide⟩
theorem Zjd{k:Int}(h1:1<=k)(h7:k<=7):k=1\/k=2\/k=3\/k=4\/k=5\/k=6\/k=7:=by omega
theorem Zi9{k:Int}{s:ZB}(h:atO k s=true)(hs:s.size<=20000):ZD s=true:=by
 by_cases hk:1<=k/\k<=7
 ·rcases Zjd hk.1 hk.2 with rfl|rfl|rfl|rfl|rfl|rfl|rfl
  ·rwa [ZAD]at h
  ·rwa [ZxJ,ZjE hs]at h
  ·rw[Zyu]at h;exact ZeE hs (λc hc=>((Zgp h).1 c hc).2)
  ·rw[Zzo]at h;exact ZeE hs (λc hc=>((ZoH h).1 c hc).2)
  ·rw[Zlr]at h;exact ZeE hs (λc hc=>(Zh0 (Zkz (Zh3 h).1 hc)).2)
  ·rw[Zl7,ZW]at h;exact ZeE hs (λc hc=>(Zh0 (Zkz (Zh3 h.1).1 hc)).2)
  ·rw[Zfm]at h;exact ZeE hs (λc hc=>(Zh0 (Zkz (Ziv h).1 hc)).2)
 ·unfold atO at h;rw[Za (by omega),Za (by omega),Za (by omega),Za (by omega),Za (by omega),Za (by omega),Za (by omega)]at h;cases h
theorem Zl1{k:Int}{s:ZB}(h:atO k s=true):1<=k/\k<=7:=by
 by_cases hk:1<=k/\k<=7
 ·exact hk
 ·unfold atO at h;rw[Za (by omega),Za (by omega),Za (by omega),Za (by omega),Za (by omega),Za (by omega),Za (by omega)]at h;cases h
theorem ZeF{t:ZB}(h:∀c∈t.data.toList,blB c=false/\c.toNat<128/\ZgG (c.toNat:Int)=true)(hs:t.size<=20000):ZD t=true:=by
 rw[Zc7,Znm _ (λc hc=>(h c hc).2)];simp[hs]
theorem ZcU{k:Int}{s:ZB}(h:atO k s=true)(hs:ZD s=true):ZD (atV k s)=true:=by
 obtain⟨h1,h7⟩:=Zl1 h;rcases Zjd h1 h7 with rfl|rfl|rfl|rfl|rfl|rfl|rfl
 ·rw[ZuO];exact hs
 ·rw[ZxJ]at h;rw[Ztc];exact h
 ·rw[Zyu]at h;rw[ZtK];exact ZeF (Zgp h).1 (by have:=(Zgp h).2.1;omega)
 ·rw[Zto];split
  ·exact ZeF (t:=ZhD) (by decide) (by decide)
  ·exact ZeF (t:=ZeY) (by decide) (by decide)
 ·rw[Zlr]at h;rw[Zmp];obtain⟨q1,q2,-⟩:=Zcz h;exact Zjv q1 (by omega)
 ·rw[Zl7,ZW]at h;rw[Zo4];obtain⟨q1,q2,-⟩:=Zcz h.1;exact Zjv q1 (by omega)
 ·rw[Zfm]at h;rw[ZfE];obtain⟨q1,q2,-⟩:=Ze5 h;exact Zjv q1 (by omega)
theorem ZwM{k:Int}{s:ZB}(h:atO k s=true)(hb:Zs9 s)(h0:0<s.size):Zs9 (atV k s)/\0<(atV k s).size:=by
 obtain⟨h1,h7⟩:=Zl1 h;have hj:=Zxc hb;rcases Zjd h1 h7 with rfl|rfl|rfl|rfl|rfl|rfl|rfl
 ·rw[ZuO];exact⟨hb,h0⟩
 ·rw[Ztc,hj];exact⟨hb,h0⟩
 ·rw[ZtK,hj];exact⟨hb,h0⟩
 ·rw[Zto];split
  ·exact⟨ZB7,by decide⟩
  ·exact⟨ZB4,by decide⟩
 ·rw[Zlr]at h;rw[Zmp];obtain⟨q1,-,q3⟩:=Zcz h;exact⟨ZmL q1,q3⟩
 ·rw[Zl7,ZW]at h;rw[Zo4];obtain⟨q1,-,q3⟩:=Zcz h.1;exact⟨ZmL q1,q3⟩
 ·rw[Zfm]at h;rw[ZfE];obtain⟨q1,-,q3⟩:=Ze5 h;exact⟨ZmL q1,q3⟩
theorem ZsY(n:Bool)(s:ZB)(c:Int)(m:Bool)(t:ZB)(d:Int):(Zho n s c m t d=0\/Zho n s c m t d=1)↔(Zho m t d n s c = -1\/Zho m t d n s c=0):=by
 unfold Zho;by_cases h:ZP n s c=true/\ZP m t d=true
 ·rw[Zd h,Zd ⟨h.2,h.1⟩];unfold ZnC;split<;>split<;>(try split)<;>(try split)<;>omega
 ·rw[Za h,Za (λe=>h ⟨e.2,e.1⟩)];omega
theorem Zo7(a0 a1 a2 a3 a4 a5:Int)(a6:Bool)(a7:Int)(b0 b1 b2 b3 b4 b5:Int)(b6:Bool)(b7:Int):(ZdX a0 a1 a2 a3 a4 a5 a6 a7 b0 b1 b2 b3 b4 b5 b6 b7=0\/ZdX a0 a1 a2 a3 a4 a5 a6 a7 b0 b1 b2 b3 b4 b5 b6 b7=1)↔(ZdX b0 b1 b2 b3 b4 b5 b6 b7 a0 a1 a2 a3 a4 a5 a6 a7 = -1\/ZdX b0 b1 b2 b3 b4 b5 b6 b7 a0 a1 a2 a3 a4 a5 a6 a7=0):=by
 unfold ZdX;by_cases h:Z8 a0 a1 a2 a3 a4 a5 a6 a7=true/\Z8 b0 b1 b2 b3 b4 b5 b6 b7=true
 ·rw[Zd h,Zd ⟨h.2,h.1⟩];generalize Ze4 a0 a1 a2 a3 a4 a5 a7=x;generalize Ze4 b0 b1 b2 b3 b4 b5 b7=y;unfold ZrM sgn;by_cases hg:a6=b6
  ·rw[Zd hg,Zd hg.symm];split<;>split<;>(try split)<;>(try split)<;>omega
  ·rw[Za hg,Za (show ¬b6=a6 from λe=>hg e.symm)];split<;>split<;>(try split)<;>(try split)<;>omega
 ·rw[Za h,Za (λe=>h ⟨e.2,e.1⟩)];omega
theorem Ztt(k:Int)(a b:ZB):(ZeN k a b=0\/ZeN k a b=1)↔ZeB k b a:=by
 unfold ZeB ZeN;by_cases h:k=7
 ·rw[Zd h,Zd h];exact Zo7 _ _ _ _ _ _ _ _ _ _ _ _ _ _ _ _
 ·rw[Za h,Za h];exact ZsY _ _ _ _ _ _
theorem Zok{t:ZB}(ht:Zka t=true):Zho (ZC (Zgj t)).1 (ZC (Zgj t)).2.1 (ZC (Zgj t)).2.2.1 (ZC (Zgj t)).1 (ZC (Zgj t)).2.1 (ZC (Zgj t)).2.2.1=0:=by
 have hr:=ZkG (ZnG ht).1;unfold Zho;rw[Zd ⟨hr,hr⟩];exact ZmR rfl
theorem ZtD{k:Int}{s:ZB}(hk:odK k)(h:atO k s=true):ZeN k (atV k s) (atV k s)=0:=by
 rcases hk with rfl|rfl|rfl
 ·rw[Zlr]at h;rw[Zmp];unfold ZeN;rw[Za (by decide)];exact Zok h
 ·rw[Zl7,ZW]at h;rw[Zo4];unfold ZeN;rw[Za (by decide)];exact Zok h.1
 ·rw[Zfm]at h;rw[ZfE];have hr:=Zi3 (Zb2 h).1;unfold ZeN;rw[Zd rfl];unfold ZdX;rw[Zd ⟨hr,hr⟩];unfold ZrM;rw[Zd rfl,Int.sub_self];rfl
theorem Zx7{k:Int}{s:ZB}(hk:odK k)(h:atO k s=true):0<(atV k s).size:=by
 rcases hk with rfl|rfl|rfl
 ·rw[Zlr]at h;rw[Zmp];exact(Zcz h).2.2
 ·rw[Zl7,ZW]at h;rw[Zo4];exact(Zcz h.1).2.2
 ·rw[Zfm]at h;rw[ZfE];exact(Ze5 h).2.2
end Go.Proofs.YtcdnilpdohknfaaGreatDoor
