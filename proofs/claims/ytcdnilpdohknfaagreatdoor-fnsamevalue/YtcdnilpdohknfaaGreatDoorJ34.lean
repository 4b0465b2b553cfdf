import Derived.Test.YtcdnilpdohknfaaGreatDoorJ33
set_option linter.unusedVariables false
set_option linter.unusedSimpArgs false
set_option maxRecDepth 100000
set_option maxHeartbeats 16000000
namespace Go.Proofs.YtcdnilpdohknfaaGreatDoor
open Tryz
section
open Go.RowKit Go.Joins Go.Maps
section
variable {w w' w1:World} {R:Nat} {r r':Ru}
theorem ZeW{i:Nat}{v:Value}(h:RuB w R r)(e:(ruV r).toArray.setIfInBounds i v=(ruV r').toArray):RuB (w.setCell ⟨R,i,none⟩ v) R r':=by
 unfold RuB;rw[ZEk w R i _ _ v h,e]
theorem ZqX(h:RuB w R r)(k:Int):RuB (w.setCell ⟨R,10,none⟩ (I k)) R { r with cs:=k }:=ZeW h rfl
theorem Zso(h:RuB w R r)(t:ZB):RuB (w.setCell ⟨R,11,none⟩ (.string t)) R { r with lw:=t }:=ZeW h rfl
theorem Zqf(h:RuB w R r)(t:ZB):RuB (w.setCell ⟨R,12,none⟩ (.string t)) R { r with hg:=t }:=ZeW h rfl
theorem ZA1(h:RuB w R r)(a:Option Addr)(c:Nat)(vs:List ZB)(q:Nat)(hq:vs.length=q):RuB (w.setCell ⟨R,17,none⟩ (.slice a q c)) R { r with ea:=a,ec:=c,ev:=vs }:=by
 subst hq;exact ZeW h rfl
theorem ZvT{S T:Nat->Prop}(h:Kp S w w')(hT:∀j,S j->T j):Kp T w w':=⟨h.os,h.tape,h.output,h.size,λj hj hs=>h.block j hj (λe=>hs (hT j e))⟩
theorem Zde(w:World)(R i:Nat)(v:Value):Kp (λj=>j=R) w (w.setCell ⟨R,i,none⟩ v):=Zex _ _ _ rfl
theorem ZaZ{w2:World}(h:Kp (λj=>j=R) w w1)(k:Kp (λj=>j=R) w1 w2):Kp (λj=>j=R) w w2:=h.trans k (λ_ _ e=>e)
theorem ZdW(h:ZL w w'):Kp (λj=>j=R) w w':=Zew h _
end
structure Rdy (w0:World) (a:Option Addr) (L:List Ty) (rs:List Ru) (m R:Nat) (r:Ru) (w:World):Prop where
 ruw:RuW w0 a L rs
 len:rs.length=m
 far:w0.heap.size<=R
 low:ZL w0 w
 box:RuB w R r
 mem:ZcZ .i64 w0 r.am r.x.ms w0.heap.size
 enu:Zm7 w0 r.ae r.x.en w0.heap.size
theorem Zid{w0:World}{a:Option Addr}{L:List Ty}{rs:List Ru}{m R:Nat}{r:Ru}{w:World}(h:Rdy w0 a L rs m R r w):RuW w a L rs:=ZgV h.ruw h.low
theorem Zxa{w0:World}{a:Option Addr}{L:List Ty}{rs:List Ru}{m R:Nat}{r:Ru}{w:World}(h:Rdy w0 a L rs m R r w):Zg1 w:=(Zid h).2.1
theorem ZxT{w0:World}{a:Option Addr}{L:List Ty}{rs:List Ru}{m R:Nat}{r:Ru}{w:World}(h:Rdy w0 a L rs m R r w):ZcZ .i64 w r.am r.x.ms w.heap.size:=Zrf (ZqD h.mem h.low) h.low.size
theorem Ziu{w0:World}{a:Option Addr}{L:List Ty}{rs:List Ru}{m R:Nat}{r r':Ru}{w w':World}(h:Rdy w0 a L rs m R r w)(k:Kp (λj=>j=R) w w')(hb:RuB w' R r')(hx:r'.x=r.x)(ha:r'.am=r.am)(he:r'.ae=r.ae):Rdy w0 a L rs m R r' w':=
 ⟨h.ruw,h.len,h.far,h.low.trans (ZaB k h.low.size (λj e=>by have e':j=R:=e;have:=h.far;omega)),hb,by rw[hx,ha];exact h.mem,by rw[hx,he];exact h.enu⟩
def LnP(L:List Ty)(m:Nat)(x:Ty):Prop:=(1<=x.kd/\x.kd<=10)/\(x.kd=8\/x.kd=10->0<=x.bs/\x.bs<m)/\(¬(x.kd=8\/x.kd=10)->x.bs=0)/\(x.kd=8->prP L x.bs.toNat<=7)/\
 (x.kd=9->(1<=x.ms.length/\x.ms.length<=4)/\∀y∈x.ms,(0<=y/\y<m)/\prP L y.toNat<=7)/\(x.kd≠9->x.ms=[])
def csO(L:List Ty)(x:Ty):Int:=if x.kd=10 then prP L x.bs.toNat else x.kd
theorem Zwp{L:List Ty}{x:Ty}(h:x.kd=10):csO L x=prP L x.bs.toNat:=by unfold csO;rw[Zd h]
theorem Zjt{L:List Ty}{x:Ty}(h:x.kd≠10):csO L x=x.kd:=by unfold csO;rw[Za h]
def LnA(L:List Ty)(m:Nat)(r:Ru)(R:Nat)(w:World)(e:Ending)(w':World):Prop:=∃(b:Bool) (K:Int),e=.returned (.bool b)/\(b=true↔LnP L m r.x)/\(b=true->K=csO L r.x)/\RuB w' R { r with cs:=K }/\Kp (λj=>j=R) w w'
theorem ZCE{L:List Ty}{m:Nat}{x:Ty}(h:LnP L m x)(e:tyA L m=x):csO L x=prP L m:=by
 unfold csO;subst e;by_cases hk:(tyA L m).kd=10
 ·rw[Zd hk,Zee hk (h.2.1 (.inr hk))]
 ·rw[Za hk,Zdb hk]
def LgP(x:Ty)(k:Int):Prop:=(-1<=x.mn/\x.mn<=1000)/\(-1<=x.mx/\x.mx<=1000)/\(lgK k\/(x.mn<0/\x.mx<0))/\(x.mn<0\/x.mx<0\/x.mn<=x.mx)
def EdP(x:Ty)(k:Int):Prop:=(odK k\/(x.lo.size=0/\x.hi.size=0))/\(x.lo.size=0\/atO k x.lo=true)/\(x.hi.size=0\/atO k x.hi=true)/\(x.lo.size=0\/x.hi.size=0\/ZeB k (atV k x.lo) (atV k x.hi))
def PaP(x:Ty)(k:Int):Prop:=x.pt.size=0\/(Zs3 x.pt=true/\k<=7)
def EnP(x:Ty)(k:Int):Prop:=x.en.length<=12/\(8<=k->x.en=[])/\∀e∈x.en,atO k e=true
theorem ZxB:Zs3 ⟨#[]⟩=true:=by
 kernel_rfl
theorem Zue{t:ZB}(h:t.size=0):t=⟨#[]⟩:=by
 cases t with
 |mk d=>
  have:d.size=0:=h;rw[Array.size_eq_zero_iff.1 this]
theorem Zy1{x:Ty}{k:Int}:fkP x k↔LgP x k/\EdP x k/\PaP x k/\EnP x k:=by
 unfold fkP LgP EdP PaP EnP;constructor
 ·rintro ⟨h1,h2,h3,h4,h5,h6,h7,h8,h9,h10,h11,h12⟩;refine⟨⟨h1,h2,h3,h4⟩,⟨h5,h8,h9,h10⟩,?_,h6,λh=>(h7 h).2,h12⟩;by_cases h:x.pt.size=0
  ·exact .inl h
  ·exact .inr ⟨h11,by
    by_cases h8':8<=k
    ·exact absurd (h7 h8').1 h
    ·omega⟩
 ·rintro ⟨⟨h1,h2,h3,h4⟩,⟨h5,h8,h9,h10⟩,hp,h6,h7,h12⟩;refine⟨h1,h2,h3,h4,h5,h6,λh=>⟨?_,h7 h⟩,h8,h9,h10,?_,h12⟩
  ·rcases hp with hp|hp
   ·exact hp
   ·omega
  ·rcases hp with hp|hp
   ·rw[Zue hp];exact ZxB
   ·exact hp.1
def Pcs(w:World)(r:Ru):Prop:=Zm7 w r.ea r.ev w.heap.size/\(r.x.pt.size=0\/PtM w r.x.pt r.p0 r.p1 r.p2 r.p3)
def Zyb(S:Nat->Prop)(w:World)(r:Ru):Prop:=∀w',Kp S w w'->Pcs w' r
theorem Zsn{S:Nat->Prop}{w:World}{r:Ru}(h:Zyb S w r):Pcs w r:=h w (Kp.refl _ _)
theorem Zsm{S S' T:Nat->Prop}{w w':World}{r:Ru}(h:Zyb S w r)(k:Kp T w w')(hT:∀j,j<w.heap.size->T j->S j)(hS:∀j,j<w.heap.size->S' j->S j):Zyb S' w' r:=λw2 k2=>h w2 ⟨k2.os.trans k.os,k2.tape.trans k.tape,k2.output.trans k.output,ZDA k.size k2.size,λj hj hs=>(k2.block j (ZDy hj k.size) (λe=>hs (hS j hj e))).trans (k.block j hj (λht=>hs (hT j hj ht)))⟩
theorem Zcr{P:Prop}(h:P):true=true↔P:=⟨λ_=>h,λ_=>rfl⟩
theorem ZbC{P:Prop}(h:¬P):false=true↔P:=⟨λe=>(by cases e),λe=>absurd e h⟩
def Zy9(r:Ru):Prop:=(ruV r).toArray.all (·.oneCell')=true
end
end Go.Proofs.YtcdnilpdohknfaaGreatDoor
