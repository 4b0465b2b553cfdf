import Derived.Test.YtcdnilpdohknfaaGreatDoorJ35
import Derived.Test.YtcdnilpdohknfaaGreatDoorJ37
set_option linter.unusedVariables false
set_option linter.unusedSimpArgs false
set_option maxRecDepth 100000
set_option maxHeartbeats 16000000
namespace Go.Proofs.YtcdnilpdohknfaaGreatDoor
open Tryz
section
open Go.RowKit Go.Joins
def Raw(r:Ru):Prop:=r.lw=⟨#[]⟩/\r.hg=⟨#[]⟩/\(r.ev=[]/\r.ea=none/\r.ec=0)/\(r.p0.oneCell'=true/\r.p1.oneCell'=true/\r.p2.oneCell'=true/\r.p3.oneCell'=true)
theorem Zn7{r:Ru}(h:r.p0.oneCell'=true/\r.p1.oneCell'=true/\r.p2.oneCell'=true/\r.p3.oneCell'=true):Zy9 r:=by
 obtain⟨h0,h1,h2,h3⟩:=h;unfold Value.oneCell' at h0 h1 h2 h3;unfold Zy9 ruV;simp[h0,h1,h2,h3,Value.oneCell']
def SaA(r:Ru)(R:Nat)(w:World)(e:Ending)(w':World):Prop:=∃(b:Bool) (q:Ru),e=.returned (.bool b)/\(b=true↔fkP r.x r.cs)/\Kp (λj=>j=R) w w'/\RuB w' R q/\(q.x=r.x/\q.cs=r.cs/\q.am=r.am)/\Zy9 q/\
 (b=true->q.lw=ZfI r.cs r.x.lo/\q.hg=ZfI r.cs r.x.hi/\q.ev=r.x.en.map (atV r.cs)/\Zyb (λj=>j<w.heap.size) w' q)
theorem Zw6(L:List Ty)(rs:List Ru)(a:Option Addr)(m:Nat)(r:Ru)(R:Nat)(w0 w:World)(h:Rdy w0 a L rs m R r w)(hk:1<=r.cs)(hz:TyZ r.x)(hw:Raw r):
  Calls prog 63 #[.pointer (some ⟨R,0,none⟩)] w (SaA r R w):=by
 obtain⟨w1,w2,⟨w3,w4,w5⟩,w6⟩:=hw;have HRD:=J h;have H1C:=J w6;have hRl:R<w.heap.size:=ZiP h.box;have C1:=J (Zt1 r R w h.box);have C2:=J (λw9 (h9:Rdy w0 a L rs m R r w9)=>ZwP L rs a m r R w0 w9 h9 hz.2.1 hz.2.2.1 w1 w2);have C3:Hid (∀(q:Ru) (w9:World),q.x=r.x->q.cs=r.cs->(q.p0=r.p0/\q.p1=r.p1/\q.p2=r.p2/\q.p3=r.p3)->Zg1 w9->RuB w9 R q->Calls prog 112 #[.pointer (some ⟨R,0,none⟩)] w9 (ZCD q R w9)):=J (λq w9 e1 e2 e3 hE hb=>Zpn q R w9 hb hE (by rw[e1];exact hz.2.2.2.1) (by rw[e3.1,e3.2.1,e3.2.2.1,e3.2.2.2];exact w6));have C4:Hid (∀(q:Ru) (w9:World),q.x=r.x->q.cs=r.cs->q.ev=r.ev->q.ea=r.ea->q.ec=r.ec->Rdy w0 a L rs m R q w9->Calls prog 113 #[.pointer (some ⟨R,0,none⟩)] w9 (ZCq q R w9)):=J (λq w9 e1 e2 e3 e4 e5 hr=>ZtA L rs a m q R w0 w9 hr (by rw[e2];exact hk) (by rw[e1];exact hz.2.2.2.2.2.1) (by rw[e1];exact hz.2.2.2.2.2.2) (by rw[e3,w3]) (by rw[e4,w4]) (by rw[e5,w5]));have HF:Hid (fkP r.x r.cs↔LgP r.x r.cs/\EdP r.x r.cs/\PaP r.x r.cs/\EnP r.x r.cs):=J Zy1;obtain⟨P1,hP1⟩:∃P,LgP r.x r.cs=P:=⟨_,rfl⟩;obtain⟨P2,hP2⟩:∃P,EdP r.x r.cs=P:=⟨_,rfl⟩;obtain⟨P3,hP3⟩:∃P,PaP r.x r.cs=P:=⟨_,rfl⟩;obtain⟨P4,hP4⟩:∃P,EnP r.x r.cs=P:=⟨_,rfl⟩;rw[hP1,hP2,hP3,hP4]at HF;rw[hP1]at C1;have HP2:=J hP2;have HP3:=J hP3;have HP4:=J hP4;clear h hz w1 w2 w3 w4 w5 w6 hP1 hP2 hP3 hP4;go_enter func63,ntmps63
 go_wp2_with fail
 refine C1.out.mono ?_;rintro e w1 ⟨B1,rfl,hB1,hb1⟩;have HB1:=J hB1;have HX1:=J (Zbk HRD.out.box hb1);have HK1:=J (ZdW (R:=R) hb1);have HR1:=J (Ziu HRD.out (ZdW (R:=R) hb1) (Zbk HRD.out.box hb1) rfl rfl rfl);have C2:=J (C2.out w1 HR1.out);clear hB1 hb1 C1;cases B1
 ·have HY:Hid (¬fkP r.x r.cs):=J (by rw[HF.out];exact λe=>Bool.noConfusion (HB1.out.2 e.1));go_wp2;go_ret;exact⟨false,r,rfl,ZbC HY.out,HK1.out,HX1.out,⟨rfl,rfl,rfl⟩,Zn7 H1C.out,λe=>(by cases e)⟩
 go_wp2_with fail
 refine C2.out.mono ?_;rintro e w2 ⟨B2,lw,hg,rfl,hB2,hv2,hx2,hk2⟩;rw[HP2.out]at hB2;have HB2:=J hB2;have HV2:=J hv2;have HX2:=J hx2;have HK2:=J (ZaZ HK1.out hk2);have HR2:=J (Ziu (r':={ r with lw:=lw,hg:=hg }) HR1.out hk2 hx2 rfl rfl rfl);clear hB2 hv2 hx2 hk2 C2;cases B2
 ·have HY:Hid (¬fkP r.x r.cs):=J (by rw[HF.out];exact λe=>Bool.noConfusion (HB2.out.2 e.2.1));go_wp2;go_ret;exact⟨false,_,rfl,ZbC HY.out,HK2.out,HX2.out,⟨rfl,rfl,rfl⟩,Zn7 H1C.out,λe=>(by cases e)⟩
 go_wp2_with fail
 refine(C3.out { r with lw:=lw,hg:=hg } _ rfl rfl ⟨rfl,rfl,rfl,rfl⟩ (Zxa HR2.out) HX2.out).mono ?_;rintro e w3 ⟨B3,p0,p1,p2,p3,rfl,hB3,hv3,hx3,hk3,hc3⟩;have hB3':B3=true↔P3:=by rw[hB3,<-HP3.out]
 have HB3:=J hB3';have HV3:=J hv3;have HX3:=J hx3;have HK23:=J hk3;have HK3:=J (ZaZ HK2.out hk3);have HC3:=J hc3;have HR3:=J (Ziu (r':={ r with lw:=lw,hg:=hg,p0:=p0,p1:=p1,p2:=p2,p3:=p3 }) HR2.out hk3 hx3 rfl rfl rfl);clear hB3 hB3' hv3 hx3 hk3 hc3 C3;cases B3
 ·have HY:Hid (¬fkP r.x r.cs):=J (by rw[HF.out];exact λe=>Bool.noConfusion (HB3.out.2 e.2.2.1));go_wp2;go_ret;exact⟨false,_,rfl,ZbC HY.out,HK3.out,HX3.out,⟨rfl,rfl,rfl⟩,Zn7 HC3.out,λe=>(by cases e)⟩
 go_wp2_with fail
 refine(C4.out { r with lw:=lw,hg:=hg,p0:=p0,p1:=p1,p2:=p2,p3:=p3 } _ rfl rfl rfl rfl rfl HR3.out).mono ?_;rintro e w4 ⟨B4,ea,ec,ev,rfl,hB4,hv4,hx4,hk4,ho4⟩;have hB4':B4=true↔P4:=by rw[hB4,<-HP4.out]
 have HY:Hid (B4=true↔fkP r.x r.cs):=J (by rw[HF.out,hB4'];exact⟨λe=>⟨HB1.out.1 (by first|rfl|trivial),HB2.out.1 (by first|rfl|trivial),HB3.out.1 (by first|rfl|trivial),e⟩,λe=>e.2.2.2⟩);have HV4:=J hv4;have HX4:=J hx4;have HK34:=J hk4;have HK4:=J (ZaZ HK3.out hk4);have HO4:=J ho4;clear hB4 hB4' hv4 hx4 hk4 ho4 C4;go_wp2;go_ret;refine⟨B4,_,rfl,HY.out,HK4.out,HX4.out,⟨rfl,rfl,rfl⟩,Zn7 HC3.out,λe=>⟨(HV2.out (by first|rfl|trivial)).1,(HV2.out (by first|rfl|trivial)).2,HV4.out e,λw5 k5=>?_⟩⟩;have hs3:=HK3.out.size;have hs2:=HK2.out.size;refine⟨?_,?_⟩
 ·exact Zvv (Zcd HO4.out k5 (λj hj e=>by have h9:=(HO4.out.lt j hj).1;have e':j<w.heap.size:=e;omega))
 ·rcases HV3.out (by first|rfl|trivial) with e9|e9
  ·exact .inl e9
  ·refine .inr (e9 w5 ?_);have k1:Kp (λj=>j<w2.heap.size) w3 w4:=ZvT HK34.out (λj e=>by have e':j=R:=e;show j<w2.heap.size;omega);exact k1.trans k5 (λj _ e=>by have e':j<w.heap.size:=e;show j<w2.heap.size;omega)
theorem ZjA(r:Ru):(ruV r).length=18:=rfl
theorem Zsi:∀(rs:List Ru) (j i:Nat) (r:Ru),i<18->rs[j]?=some r->(rs.flatMap ruV)[j*18+i]?=(ruV r)[i]?
 |[],j,i,r,_,h=>by simp at h
 |p::rs,0,i,r,hi,h=>by
  simp at h;subst h;rw[List.flatMap_cons,Nat.zero_mul,ZDE,List.getElem?_append_left (by rw[ZjA];exact hi)]
 |p::rs,j+1,i,r,hi,h=>by
  rw[List.flatMap_cons,List.getElem?_append_right (by rw[ZjA];omega),ZjA];rw[show(j+1)*18+i-18=j*18+i by omega];exact Zsi rs j i r hi (by simpa using h)
def ZB2(L:List Ty)(w:World)(q:Ru)(i:Nat):Prop:=q.x=tyA L i/\q.cs=prP L i/\TyZ q.x/\fkP q.x q.cs/\q.lw=ZfI q.cs q.x.lo/\q.hg=ZfI q.cs q.x.hi/\q.ev=q.x.en.map (atV q.cs)/\ZcZ .i64 w q.am q.x.ms w.heap.size/\Zy9 q
structure Inv7 (L:List Ty) (w:World) (j:Nat) (ad:Option Addr) (c:Nat) (rs:List Ru) (wr:World):Prop where
 len:rs.length=j
 own:wr.ownsRow w.heap.size 64 18 (.slice ad j c) j (rs.flatMap ruV)
 fix:∀(i:Nat) (q:Ru),rs[i]?=some q->ZB2 L w q i
 pcs:∀(i:Nat) (q:Ru),rs[i]?=some q->Zyb (λk=>(Value.slice ad j c).ownBlock=some k) wr q
 low:ZL w wr
 oks:∀i,i<j->Zea L i
theorem ZsU{L:List Ty}{w wr:World}{j c:Nat}{ad:Option Addr}{rs:List Ru}(h:Inv7 L w j ad c rs wr)(hE:Zg1 w):RuW wr ad L rs:=by
 refine⟨λh0=>?_,ZbB hE h.low,λi q hi=>?_⟩
 ·have hj:0<j:=by have:=h.len;have:=List.length_pos_iff.2 h0;omega
  rcases h.own.2 with ⟨-,hz⟩|⟨g,cap,cur,hv,hg,hh,-⟩
  ·omega
  ·simp only[ZDG]at hv;obtain⟨rfl,-,rfl⟩:=hv;refine⟨g,0,rfl,(Array.getElem?_eq_some_iff.1 hh).1,λi r hi k v hk=>?_⟩;have hil:i<j:=by have:=(List.getElem?_eq_some_iff.1 hi).1;have:=h.len;omega
   have hk18:k<18:=by have:=(List.getElem?_eq_some_iff.1 hk).1;rw[ZjA]at this;exact this
   rw[ZDE,h.own.cellAt (i*18+k) (by omega),Zsi rs i k r hk18 hi,hk]
 ·obtain⟨q1,q2,q3,q4,q5,q6,q7,q8,q9⟩:=h.fix i q hi;obtain⟨p1,p2⟩:=Zsn (h.pcs i q hi);exact⟨q1,q2,q3,q4,q5,q6,q7,p1,Zrf (ZqD q8 h.low) h.low.size,p2⟩
theorem Zk0{L:List Ty}{w wr:World}{j c:Nat}{ad:Option Addr}{rs:List Ru}(h:Inv7 L w j ad c rs wr):RuC rs:=λi q hi=>(h.fix i q hi).2.2.2.2.2.2.2.2
theorem Zyg(L:List Ty)(w:World):Inv7 L w 0 none 0 [] w:=⟨rfl,ZEo _ _ _ _,λi q h=>by simp at h,λi q h=>by simp at h,Ze _ _,λi h=>by omega⟩
theorem ZuY{L:List Ty}{w wr w3 w5 w6:World}{o:Obj}{j c c':Nat}{ad ad':Option Addr}{rs:List Ru}{q:Ru}(h:Inv7 L w j ad c rs wr)(hb5:ZL wr w5)(h35:wr.heap.size<=w3.heap.size)
  (hq:ZB2 L w q j) (hp:Zyb (λk=>k<w3.heap.size) w5 q) (hok:Zea L j)
  (ho:w6.ownsRow w.heap.size 64 18 (.slice ad' (j+1) c') (j+1) (rs.flatMap ruV++ruV q)) (hg:(w5.alloc o).grownBy w6 (Value.slice ad j c).ownBlock)
  (hn:(Value.slice ad' (j+1) c').ownBlock=(Value.slice ad j c).ownBlock\/(Value.slice ad' (j+1) c').ownBlock=some (w5.alloc o).heap.size):Inv7 L w (j+1) ad' c' (rs++[q]) w6:=by
 have hN:(w5.alloc o).heap.size=w5.heap.size+1:=by simp
 have hG:∀k,(Value.slice ad j c).ownBlock=some k->k<wr.heap.size:=λk e=>(h.own.lt k e).2
 have k56:Kp (λk=>(Value.slice ad j c).ownBlock=some k) w5 w6:=(Zay w5 o).trans (Zca hg (λk e=>e)) (λ_ _ e=>e);have kr6:Kp (λk=>(Value.slice ad j c).ownBlock=some k) wr w6:=(Zew hb5 (λk=>(Value.slice ad j c).ownBlock=some k)).trans k56 (λ_ _ e=>e);refine⟨by rw[ZDz,h.len];rfl,by rw[List.flatMap_append];simpa using ho,λi r hi=>?_,λi r hi=>?_,?_,λi hi=>?_⟩
 ·by_cases hij:i<j
  ·rw[List.getElem?_append_left (by rw[h.len];exact hij)]at hi;exact h.fix i r hi
  ·rw[List.getElem?_append_right (by rw[h.len];omega),h.len]at hi;have e0:i-j=0:=by
    have:=(List.getElem?_eq_some_iff.1 hi).1;simp at this;omega
   rw[e0]at hi;simp at hi;have:i=j:=by omega
   subst this;subst hi;exact hq
 ·by_cases hij:i<j
  ·rw[List.getElem?_append_left (by rw[h.len];exact hij)]at hi;refine Zsm (h.pcs i r hi) kr6 (λk _ e=>e) (λk hk e=>?_);rcases hn with hn|hn
   ·rw[hn]at e;exact e
   ·rw[hn]at e;cases e;have:=hb5.size;omega
  ·rw[List.getElem?_append_right (by rw[h.len];omega),h.len]at hi;have e0:i-j=0:=by
    have:=(List.getElem?_eq_some_iff.1 hi).1;simp at this;omega
   rw[e0]at hi;simp at hi;subst hi;refine Zsm hp k56 (λk _ e=>?_) (λk hk e=>?_)
   ·have:=hG k e;show k<w3.heap.size;omega
   ·show k<w3.heap.size;rcases hn with hn|hn
    ·rw[hn]at e;have:=hG k e;omega
    ·rw[hn]at e;cases e;omega
 ·refine h.low.trans (ZaB kr6 h.low.size (λk e=>(h.own.lt k e).1))
 ·by_cases hij:i=j
  ·subst hij;exact hok
  ·exact h.oks i (by omega)
theorem Zhc{L:List Ty}{i:Nat}:Zea L i↔(ZcO (tyA L i).nm=true/\∀k,k<i->(tyA L k).nm≠(tyA L i).nm)/\LnP L i (tyA L i)/\fkP (tyA L i) (prP L i):=by
 unfold Zea LnP;constructor
 ·rintro ⟨h1,h2,h3,h4,h5,h6,h7,h8,h9⟩;exact⟨⟨h1,h2⟩,⟨h3,h4,h5,h6,h7,h8⟩,h9⟩
 ·rintro ⟨⟨h1,h2⟩,⟨h3,h4,h5,h6,h7,h8⟩,h9⟩;exact⟨h1,h2,h3,h4,h5,h6,h7,h8,h9⟩
theorem ZAz{L:List Ty}{j:Nat}(h:LnP L j (tyA L j))(ho:∀i,i<j->Zea L i):1<=csO L (tyA L j):=by
 by_cases hk:(tyA L j).kd=10
 ·rw[Zwp hk];have hb:=h.2.1 (.inr hk);exact(Znq _ (λi hi=>ho i (by omega))).1
 ·rw[Zjt hk];exact h.1.1
end
end Go.Proofs.YtcdnilpdohknfaaGreatDoor
