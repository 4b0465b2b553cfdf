import Derived.Deep.MidRow
import Derived.Test.YtcdnilpdohknfaaGreatDoorJ36
import Derived.Maps.AppendAt
set_option linter.unusedVariables false
set_option linter.unusedSimpArgs false
set_option maxRecDepth 100000
set_option maxHeartbeats 16000000
namespace Go.Proofs.YtcdnilpdohknfaaGreatDoor
open Tryz
section
open Go.RowKit Go.Joins Go.Maps
theorem ZtU{w:World}{B B' e z n:Nat}{v:Value}{xs:List Value}(h:w.ownsRow B e z v n xs)(hB:B'<=B):w.ownsRow B' e z v n xs:=by
 obtain⟨hl,h⟩:=h;refine⟨hl,?_⟩;rcases h with h|⟨g,cap,cur,hv,hg,hh,h1,h2,h3,h4⟩
 ·exact .inl h
 ·exact .inr ⟨g,cap,cur,hv,ZDA hB hg,hh,h1,h2,h3,h4⟩
theorem ZvC{N g c:Nat}{w w':World}{V:List Nd}(h:XO N (λj=>N<=j) w (some ⟨g,0,none⟩) c V)(k:Kp (λj=>j<N) w w'):Zch w' g 0 (ZdZ V) w.heap.size:=by
 by_cases hV:0<V.length
 ·have hx:=Zjm h hV;obtain⟨g',hg',hNg,hg⟩:=hx;cases hg';intro j hj;have hj':j<V.length:=hj;obtain⟨ad,cp,b1,b2,b3,b4⟩:=ZvZ h (Zv hj');have e:=Zgt (Zv hj');have b1':∀o,o<7->w'.cell? ⟨g,j*7+o,none⟩=(ndV V[j] ad cp)[o]?:=λo ho=>by
   rw[<-b1 o ho];have hbk:=k.block g hg (by omega);simp only[World.cell?,hbk]
  have b2':=Zcd b2 k (λi hi hs=>by have h1:=b3 i hi;have h1':N<=i:=h1;have h2':i<N:=hs;omega);refine⟨ad,cp,?_,?_⟩
  ·unfold Zh7;simp only[ZdZ,e,ZDE];exact⟨b1' 0 (by omega),b1' 1 (by omega),b1' 2 (by omega),b1' 3 (by omega),b1' 4 (by omega),b1' 5 (by omega),b1' 6 (by omega)⟩
  ·simp only[ZdZ,e];have r1:=Zjs b2;have r2:=Zjs b2';intro h0;obtain⟨q1,o1,e1,l1,-⟩:=r1 h0;obtain⟨q2,o2,e2,l2,hc⟩:=r2 h0;rw[e1]at e2;cases e2;exact⟨q1,o1,e1,l1,hc⟩
 ·intro j hj;have hj':j<V.length:=hj;omega
theorem Zos{C:List Int}{b:Bool}(h:rgO C b=true):rxB (ZdZ (rgV C b))=true:=by
 unfold rgO at h;unfold rgV;unfold rgW at h ⊢;by_cases h1:b=true/\C.length<=400
 ·rw[Zd h1]at h ⊢;cases e:rdW C with
  |none=>rw[e]at h;cases h
  |some X=>
   rw[e]at h;simp only at h ⊢;by_cases h2:rxB (ZdZ X)=true
   ·rw[Zd h2];exact h2
   ·rw[Za h2]at h;cases h
 ·rw[Za h1]at h;cases h
theorem ZuL{N g c:Nat}{pt:ZB}{w2 w3 w4:World}(hX:XO N (λj=>N<=j) w2 (some ⟨g,0,none⟩) c (rgV (ZF (rns pt)) (rns pt).isSome))(hN:N<=w2.heap.size)(ho:Zs3 pt=true){p0 p1 p2 p3:Value}
  (hM:MoA (ptX pt) (.slice (some ⟨g,0,none⟩) (rgV (ZF (rns pt)) (rns pt).isSome).length c) ((rgV (ZF (rns pt)) (rns pt).isSome).length-1) w2 (.returned (.agg #[p0,p1,p2,p3])) w3) (k:Kp (λj=>j<N) w3 w4):PtM w4 pt p0 p1 p2 p3:=by
 obtain⟨p,M,sa,sc,S,he,h1,h2,h3,h4,h5,h6,h7,h8⟩:=hM;simp only[Ending.returned.injEq,Value.agg.injEq]at he;simp only[Array.mk.injEq,List.cons.injEq,Z3]at he;obtain⟨e0,e1,e2,e3⟩:=he;have hr:=Zos ho;have hk:=(Zk7 hr).1;have hkl:0<(rgV (ZF (rns pt)) (rns pt).isSome).length:=by have:(ZdZ (rgV (ZF (rns pt)) (rns pt).isSome)).len=(rgV (ZF (rns pt)) (rns pt).isSome).length:=rfl;omega
 obtain⟨g',hg',-,hg⟩:=Zjm hX hkl;cases hg';have k24:Kp (λj=>j<N) w2 w4:=(Zew h7 (λj=>j<N)).trans k (λ_ _ e=>e);refine⟨g,0,c,_,w2.heap.size,w2.heap.size+1,p,sc,sa,M,S,⟨e0,e1,e2,e3⟩,⟨rfl,hr,λj hj=>?_⟩,⟨ZvC hX k24,hg,k24.size⟩,?_,h2,h3,?_,h5,h6⟩
 ·obtain⟨xs,q1,q2,q3⟩:=hX;have hj':j<(rgV (ZF (rns pt)) (rns pt).isSome).length:=hj;obtain⟨a9,cp9,b1,b2,b3,b4⟩:=q2 j _ (Zv hj');have e:(ptX pt).NR j=((rgV (ZF (rns pt)) (rns pt).isSome)[j]).L.length:=by
   unfold ptX;simp only[ZdZ,Zgt (Zv hj')]
  rw[e];unfold maxLen;omega
 ·exact ZtU (Zcd h1 k (λj hj e=>by have h9:=(h1.lt j hj).1;have e':j<N:=e;omega)) (by omega)
 ·exact Zfl h4 k (λe=>by have e':w2.heap.size+1<N:=e;omega)
section
variable {w:World} {R:Nat} {r:Ru}
theorem ZBd(h:RuB w R r)(q0 q1 q2 q3:Value):RuB (w.setCells R 13 [q0,q1,q2,q3]) R { r with p0:=q0,p1:=q1,p2:=q2,p3:=q3 }:=by
 simp only[World.setCells];have h0:RuB (w.setCell ⟨R,13,none⟩ q0) R { r with p0:=q0 }:=ZeW h rfl;have h1:RuB ((w.setCell ⟨R,13,none⟩ q0).setCell ⟨R,14,none⟩ q1) R { r with p0:=q0,p1:=q1 }:=ZeW h0 rfl;have h2:RuB (((w.setCell ⟨R,13,none⟩ q0).setCell ⟨R,14,none⟩ q1).setCell ⟨R,15,none⟩ q2) R { r with p0:=q0,p1:=q1,p2:=q2 }:=ZeW h1 rfl;exact ZeW h2 rfl
theorem ZBR(w:World)(R:Nat)(q0 q1 q2 q3:Value):Kp (λj=>j=R) w (w.setCells R 13 [q0,q1,q2,q3]):=by
 simp only[World.setCells];exact ZaZ (ZaZ (ZaZ (Zde _ _ _ _) (Zde _ _ _ _)) (Zde _ _ _ _)) (Zde _ _ _ _)
theorem Zrg(h:RuB w R r):w.there R 13 4:=λj hj=>by
 have:j=0\/j=1\/j=2\/j=3:=by omega
 refine⟨?_,Zcw h _⟩;rw[ZE h];rcases this with rfl|rfl|rfl|rfl<;>rfl
end
def ZCD(r:Ru)(R:Nat)(w:World)(e:Ending)(w':World):Prop:=∃(b:Bool) (p0 p1 p2 p3:Value),e=.returned (.bool b)/\(b=true↔PaP r.x r.cs)/\(b=true->r.x.pt.size=0\/∀w2,Kp (λj=>j<w.heap.size) w' w2->PtM w2 r.x.pt p0 p1 p2 p3)/\
 RuB w' R { r with p0:=p0,p1:=p1,p2:=p2,p3:=p3 }/\Kp (λj=>j=R) w w'/\(p0.oneCell'=true/\p1.oneCell'=true/\p2.oneCell'=true/\p3.oneCell'=true)
theorem Zpn(r:Ru)(R:Nat)(w:World)(h:RuB w R r)(hE:Zg1 w)(hz:r.x.pt.size<=20000)(h1c:r.p0.oneCell'=true/\r.p1.oneCell'=true/\r.p2.oneCell'=true/\r.p3.oneCell'=true):
  Calls prog 112 #[.pointer (some ⟨R,0,none⟩)] w (ZCD r R w):=by
 have c8:=ZE h 8;have c10:=ZE h 10;simp only[ruV,List.getElem?_cons_succ,List.getElem?_cons_zero]at c8 c10;have HX:=J h;have H1C:=J h1c;have hRl:R<w.heap.size:=ZiP h;by_cases p0:r.x.pt.size=0
 ·have p0b:=ZbE p0;have HY:Hid (PaP r.x r.cs):=J (.inl p0);have HP0:=J p0;clear h h1c p0 hE;go_enter func112,ntmps112
  go_wp2;go_ret;exact⟨true,r.p0,r.p1,r.p2,r.p3,rfl,Zcr HY.out,λ_ => .inl HP0.out,HX.out,Kp.refl _ _,H1C.out⟩
 have p0b:=Zbx p0;have CR:=J (Zmg r.x.pt _ _ w (by omega) hE.2.2.2 rfl rfl);obtain⟨ok,hok⟩:=ZX (rgO (ZF (rns r.x.pt)) (rns r.x.pt).isSome);rw[hok]at CR;have HOK:Hid (ok=true↔Zs3 r.x.pt=true):=J (by rw[<-hok];rfl);have HP0:=J p0;have HE:=J hE;have HF:Hid (∀(b:Bool) (w':World),¬PaP r.x r.cs->ZL w w'->b=false->ZCD r R w (.returned (.bool b)) w'):=J (λb w' hn hb e=>by
  subst e;exact⟨false,r.p0,r.p1,r.p2,r.p3,rfl,⟨λe=>(by cases e),λe=>absurd e hn⟩,λe=>(by cases e),Zbk h hb,ZdW hb,h1c⟩)
 unfold ZqN at CR;obtain⟨vn,hvn⟩:=ZX ((rgV (ZF (rns r.x.pt)) (rns r.x.pt).isSome).length);have HVN:=J hvn;clear h h1c p0 hE hok hz;go_enter func112,ntmps112
 go_wp2_with fail
 refine CR.out.mono ?_;rintro e w2 ⟨ad,c,rfl,hx2,hb2⟩;rw[hvn];clear hvn;have HX2:=J hx2;have HB2:=J hb2;have X2:=J (Zbk HX.out hb2);have d8:=ZE X2.out 8;have d10:=ZE X2.out 10;simp only[ruV,List.getElem?_cons_succ,List.getElem?_cons_zero]at d8 d10;clear hx2 hb2 CR c8 c10;cases ok
 ·have HN:Hid (¬PaP r.x r.cs):=J (λe=>by
   rcases e with e|e
   ·exact HP0.out e
   ·have:=HOK.out.2 e.1;cases this)
  go_wp2;go_ret;exact HF.out false _ HN.out HB2.out rfl
 by_cases k7:(7:Int)<r.cs
 ·have HN:Hid (¬PaP r.x r.cs):=J (λe=>by
   rcases e with e|e
   ·exact HP0.out e
   ·omega)
  go_wp2;go_ret;exact HF.out false _ HN.out HB2.out rfl
 have HY:Hid (PaP r.x r.cs):=J (.inr ⟨HOK.out.1 rfl,by omega⟩);have hpo:Zs3 r.x.pt=true:=HOK.out.1 rfl;have hr:=Zos hpo;obtain⟨q1,q2,q3,q4,q5,q6⟩:=Zk7 hr;have hlen:(ZdZ (rgV (ZF (rns r.x.pt)) (rns r.x.pt).isSome)).len=vn:=HVN.out;rw[hlen]at q1 q2 q3 q4 q5 q6;have h0:0<(rgV (ZF (rns r.x.pt)) (rns r.x.pt).isSome).length:=by have:=HVN.out;omega
 obtain⟨g,hg,hNg,hgl⟩:=Zjm HX2.out h0;subst hg;have hts:1+tsX (ZdZ (rgV (ZF (rns r.x.pt)) (rns r.x.pt).isSome)) (vn-1)<=300000:=by
  obtain⟨t1,-,-⟩:=Zph (ZdZ (rgV (ZF (rns r.x.pt)) (rns r.x.pt).isSome)) vn q2 vn (vn-1) 0 (by omega) (by omega) q3 q4;have z1:(wtX (ZdZ (rgV (ZF (rns r.x.pt)) (rns r.x.pt).isSome)) (vn-1)).toNat<=2000:=by omega
  have z2:=Nat.mul_le_mul z1 (show vn-1+1-0<=120 by omega);omega
 have CM:=J (Zqb (ZdZ (rgV (ZF (rns r.x.pt)) (rns r.x.pt).isSome)) vn hlen q1.2 q1.1 g 0 c w2 (λB=>ZrC _ vn hlen q1.2 q2 q6 g 0 c B vn (vn-1) 0 (by omega) (by omega) q3) hts (ZvC HX2.out (Kp.refl _ _)) hgl);have HPO:=J hpo;clear hpo hr q1 q2 q3 q4 q5 q6 hts hNg h0 hlen;go_wp2_with fail
 refine CM.out.mono ?_;rintro e w3 hM;have HM:=J hM;obtain⟨p,M,sa,sc,S,he,-,-,-,-,-,-,hb3,-⟩:=hM;subst he;have HB3:=J (Zp HB2.out hb3);have X3:=J (Zbk X2.out hb3);have HTH:=J (Zrg X3.out);clear hb3 CM d8 d10;go_wp2_with (refine wpList_store_mid rfl _ _ _ rfl R 13 _ rfl rfl HTH.out (by kernel_rfl) (by simp[Value.oneCell']) ?_)
 go_ret;refine⟨true,_,_,_,_,rfl,Zcr HY.out,λ_ => .inr (λw4 k4=>?_),ZBd X3.out _ _ _ _,ZaZ (ZdW HB3.out) (ZBR _ _ _ _ _ _),rfl,rfl,rfl,rfl⟩;have hv:=HVN.out;subst hv;exact ZuL HX2.out HB2.out.size HPO.out HM.out ((ZvT (ZBR w3 R _ _ _ _) (λj e=>by have e':j=R:=e;show j<w.heap.size;omega)).trans k4 (λ_ _ e=>e))
end
section
open Go.RowKit Go.Joins
def ZCq(r:Ru)(R:Nat)(w:World)(e:Ending)(w':World):Prop:=∃(b:Bool) (ea:Option Addr) (ec:Nat) (ev:List ZB),e=.returned (.bool b)/\(b=true↔EnP r.x r.cs)/\(b=true->ev=r.x.en.map (atV r.cs))/\RuB w' R { r with ea:=ea,ec:=ec,ev:=ev }/\Kp (λj=>j=R) w w'/\
 w'.ownsRow w.heap.size 9 1 (.slice ea ev.length ec) ev.length (ev.map Value.string)
theorem ZA9{w wr w2:World}{R:Nat}(k:Kp (λj=>j=R) w wr)(h:Below w.heap.size wr w2):Kp (λj=>j=R) w w2:=⟨h.os.trans k.os,h.tape.trans k.tape,h.output.trans k.output,ZDA k.size h.size,λj hj hs=>(h.block j hj).trans (k.block j hj hs)⟩
theorem Zxo{wr w2:World}{R B:Nat}{r:Ru}(h:RuB wr R r)(hb:Below B wr w2)(hR:R<B):RuB w2 R r:=(hb.block R hR).trans h
theorem ZoM{B:Nat}{wr w2:World}{o:Obj}{e:TypeId}{z:Nat}{ad:Option Addr}{n c:Nat}{xs:List Value}(hB:B<=wr.heap.size)(hown:wr.ownsRow B e z (.slice ad n c) n xs)
  (hg:(wr.alloc o).grownBy w2 (Value.slice ad n c).ownBlock):Below B wr w2:=by
 have h2:Below B wr (wr.alloc o):=(Ze _ _).alloc hB o;refine h2.grown hg (by simp;omega) λj hj=>?_
 rcases hown.2 with ⟨hv,h0⟩|⟨g,cap,cur,hv,hBg,rest⟩
 ·rw[hv]at hj;simp[Value.ownBlock]at hj
 ·rw[hv]at hj;simp[Value.ownBlock]at hj;omega
theorem Zqg{en:List ZB}{k:Int}{j:Nat}{E:ZB}(h:en[j]?=some E):((en.take j).map (atV k))++[atV k E]=(en.take (j+1)).map (atV k):=by
 obtain⟨hl,e⟩:=List.getElem?_eq_some_iff.1 h;subst e;rw[List.take_succ_eq_append_getElem hl,List.map_append];rfl
theorem ZtA(L:List Ty)(rs:List Ru)(a:Option Addr)(m:Nat)(r:Ru)(R:Nat)(w0 w:World)(h:Rdy w0 a L rs m R r w)(hk:1<=r.cs)(hq20:r.x.en.length<=20000)(hz:∀e∈r.x.en,e.size<=20000)(hev:r.ev=[])(hea:r.ea=none)(hec:r.ec=0):
  Calls prog 113 #[.pointer (some ⟨R,0,none⟩)] w (ZCq r R w):=by
 have c9:=ZE h.box 9;have c10:=ZE h.box 10;simp only[ruV,List.getElem?_cons_succ,List.getElem?_cons_zero]at c9 c10;have hRl:R<w.heap.size:=ZiP h.box;have HE:Hid (∀w9,Kp (λj=>j=R) w w9->Zg1 w9):=J (λw9 k=>ZbB h.ruw.2.1 (h.low.trans (ZaB k h.low.size (λj e=>by have e':j=R:=e;have:=h.far;omega))));have CO:Hid (∀(t:ZB) (w9:World),t.size<=20000->r.cs<=7->Kp (λj=>j=R) w w9->Calls prog 143 #[I r.cs,.string t] w9 (ZT (avO r.cs t) w9)):=J (λt w9 ht hk7 k=>Zzy r.cs t w9 ⟨hk,hk7⟩ ht (HE.out w9 k));have HEN:Hid (∀w9,Kp (λj=>j=R) w w9->Zm7 w9 r.ae r.x.en w0.heap.size):=J (λw9 k=>Zq2 h.enu (h.low.trans (ZaB k h.low.size (λj e=>by have e':j=R:=e;have:=h.far;omega))));have HFAR:=J h.far;have HB0:Hid (RuB w R { r with ea:=none,ec:=0,ev:=[] }):=J (by
  rw[show({ r with ea:=none,ec:=0,ev:=[] }:Ru)=r by rw[<-hev,<-hea,<-hec]];exact h.box)
 have HZ:=J hz;have HRW:Hid (∀B,w.ownsRow B 9 1 (.slice none 0 0) 0 []):=J (λB=>ZEo _ _ _ _);have FIN:Hid (∀(b:Bool) (ea:Option Addr) (ec:Nat) (ev:List ZB) (w':World),(b=true↔EnP r.x r.cs)->(b=true->ev=r.x.en.map (atV r.cs))->RuB w' R { r with ea:=ea,ec:=ec,ev:=ev }->Kp (λj=>j=R) w w'->w'.ownsRow w.heap.size 9 1 (.slice ea ev.length ec) ev.length (ev.map Value.string)->ZCq r R w (.returned (.bool b)) w'):=J (λb ea ec ev w' h1 h2 h3 h4 h5=>⟨b,ea,ec,ev,rfl,h1,h2,h3,h4,h5⟩);obtain⟨q,hq⟩:=ZX r.x.en.length;have HQ:=J hq;rw[hq]at c9 hq20;clear h hz hev hea hec hq;by_cases q12:(12:Int)<(q:Int)
 ·have HY:Hid (¬EnP r.x r.cs):=J (λe=>by have:=e.1;have:=HQ.out;omega);go_enter func113,ntmps113
  go_wp2;go_ret;exact FIN.out false _ _ _ _ (ZbC HY.out) (λe=>by cases e) HB0.out (Kp.refl _ _) (HRW.out _)
 by_cases q0:q=0
 ·have HEM:Hid (r.x.en=[]):=J (List.length_eq_zero_iff.1 (HQ.out.trans q0));have HY:Hid (EnP r.x r.cs):=J (by unfold EnP;rw[HEM.out];exact⟨by simp,λ_=>rfl,λe he=>by cases he⟩);have q0b:¬(0:Int)<(q:Int):=by omega
  have q0c:((0:Int)<(q:Int))=False:=by simp;omega
  go_enter func113,ntmps113
  go_wp2_with fail
  go_loopw [36] (λiv wr=>iv=I 0/\wr=w) (λiv _=>0)
  case atStart=>exact⟨rfl,rfl⟩
  case round=>
   obtain⟨rfl,rfl⟩:=hrel;go_wp2;go_ret;exact FIN.out true _ _ _ _ (Zcr HY.out) (λ_=>by rw[HEM.out];rfl) HB0.out (Kp.refl _ _) (HRW.out _)
 have q1:(0:Int)<(q:Int):=by omega
 by_cases k7:(7:Int)<r.cs
 ·have HY:Hid (¬EnP r.x r.cs):=J (λe=>by have:=e.2.1 (by omega);have:=HQ.out;rw[‹r.x.en=[]›]at this;simp at this;omega);clear q0;go_enter func113,ntmps113
  go_wp2;go_ret;exact FIN.out false _ _ _ _ (ZbC HY.out) (λe=>by cases e) HB0.out (Kp.refl _ _) (HRW.out _)
 have k7':r.cs<=7:=by omega
 obtain⟨i0,hi0,hy0,hy1,hy2⟩:=info_parts Zj6;go_enter func113,ntmps113
 go_wp2_with fail
 go_loopw [36] (λiv wr=>∃(j:Nat) (ea:Option Addr) (ec:Nat),iv=I j/\j<=q/\Hid (RuB wr R { r with ea:=ea,ec:=ec,ev:=(r.x.en.take j).map (atV r.cs) })/\Hid (Kp (λj=>j=R) w wr)/\Hid (wr.ownsRow w.heap.size 9 1 (.slice ea j ec) j (((r.x.en.take j).map (atV r.cs)).map Value.string))/\Hid (∀i e,i<j->r.x.en[i]?=some e->atO r.cs e=true)) (λiv _=>q-(Zi iv).toNat)
 case atStart=>exact⟨0,none,0,rfl,Zx _,HB0,J (Kp.refl _ _),J (HRW.out _),J (λi e hi=>by omega)⟩
 case round=>
  obtain⟨j,ea,ec,rfl,hj,HXB,HK,HO,HA⟩:=hrel;have hEVL:((r.x.en.take j).map (atV r.cs)).length=j:=by rw[ZDD,List.length_take];have:=HQ.out;omega
  have d10:=ZE HXB.out 10;have d17:=ZE HXB.out 17;simp only[ruV,List.getElem?_cons_succ,List.getElem?_cons_zero]at d10 d17;rw[hEVL]at d17;have HEVL:=J hEVL;clear hEVL;by_cases hlt:j<q
  ·have hjL:j<r.x.en.length:=by rw[HQ.out];exact hlt
   have hji:(j:Int)<(q:Int):=by omega
   obtain⟨be,oe,hae,hbe,hce⟩:=Zkl (HEN.out wr HK.out) j hjL;have ce0:=hce j hjL;obtain⟨E,hE⟩:=ZX (r.x.en[j]?.getD ⟨#[]⟩);have hEj:r.x.en[j]?=some E:=by rw[<-hE,Zv hjL];rfl
   have HEJ:=J hEj;rw[hE]at ce0;have hEz:=HZ.out E (List.mem_of_getElem? hEj);have CV:=J (CO.out E wr hEz k7' HK.out);obtain⟨V,hV⟩:=ZX ((avO r.cs E).getD ⟨#[]⟩);obtain⟨B,hB⟩:=ZX ((avO r.cs E).isSome);have HV:=J (λe=>ZnT hV e);have HBB:=J (Zon hB);unfold ZT Zf0 at CV;rw[hV,hB]at CV;have HAE:=J hae;rw[hae];clear hce hE hEj hEz hjL hV hB hae;go_wp2_with fail
   refine ZM CV.out ?_;rintro w5 hb5;have HX5:=J (Zbk HXB.out hb5);have HK5:=J (ZaZ HK.out (ZdW hb5));have HO5:=J (ZbX HO.out hb5);have e17:=ZE HX5.out 17;simp only[ruV,List.getElem?_cons_succ,List.getElem?_cons_zero]at e17;rw[HEVL.out]at e17;have hw5:w.heap.size<=w5.heap.size:=HK5.out.size;clear CV ce0 d10 d17 hb5;cases B
   ·have HY:Hid (¬EnP r.x r.cs):=J (λe=>by have:=HBB.out.2 (e.2.2 E (List.mem_of_getElem? HEJ.out));cases this);go_wp2;go_ret;exact FIN.out false ea ec _ _ (ZbC HY.out) (λe=>by cases e) HX5.out HK5.out (by rw[HEVL.out];exact HO5.out)
   ·have HVE:Hid (V=atV r.cs E):=J (HV.out (HBB.out.1 rfl));go_wp2_with (at_builtin;refine wpList_append_own _ rfl (.tmp 55) (.tmp 57) 31 rfl w.heap.size 9 i0 (.string ByteArray.empty) 1 16 underlying31 hi0 hy0 hy1 hy2 rfl (by decide) _ _ _ rfl (HO5.out.alloc _) ⟨w5.heap.size,0,none⟩ 1 1 [.string V] rfl rfl (λj u hj=>Zf1 w5 _ _ j u hj) (ZfN _) (by unfold maxLen;omega) (by omega) (by simp;omega) ?_;intro v9 w6 hown2 hgrow2 _;obtain⟨ad6,c6,hv2⟩:=Zdp hown2;rw[hv2]at hown2 ⊢;clear hv2;have HB6:=J (ZoM hw5 HO5.out hgrow2);have HX6:=J (Zxo HX5.out HB6.out hRl);have f17:=Zcw HX6.out 17;have g17:=ZE HX6.out 17;simp only[ruV,List.getElem?_cons_succ,List.getElem?_cons_zero]at g17;have HO6:=J hown2;clear hown2 hgrow2)
    go_roundw
    case rel=>exact⟨j+1,ad6,c6,by go_num,by omega,J (by rw[<-Zqg HEJ.out,<-HVE.out,<-HAE.out];exact ZA1 HX6.out ad6 c6 ((r.x.en.take j).map (atV r.cs)++[V]) (j+1) (by have h9:=HEVL.out;rw[ZDz,h9];rfl)),J (ZaZ (ZA9 HK5.out HB6.out) (Zde _ _ _ _)),J (by rw[<-Zqg HEJ.out,<-HVE.out,List.map_append];exact Zcd HO6.out (Zde _ _ _ _) (λjj hj e=>by have h9:=(HO6.out.lt jj hj).1;have e':jj=R:=e;omega)),J (λi e hi he=>by
      by_cases hij:i=j
      ·subst hij;rw[HEJ.out]at he;cases he;exact HBB.out.1 (by first|rfl|trivial)
      ·exact HA.out i e (by omega) he)⟩
    case measure=>simp[Zi];omega
  ·have hjq:j=q:=by omega
   have hji:¬(j:Int)<(q:Int):=by omega
   have HALL:Hid (EnP r.x r.cs):=J (⟨by have:=HQ.out;omega,λe=>by omega,λe he=>by
    obtain⟨i,hi,hie⟩:=List.getElem_of_mem he;exact HA.out i e (by rw[hjq,<-HQ.out];exact hi) (by rw[Zv hi,hie])⟩)
   have HTK:Hid ((r.x.en.take j).map (atV r.cs)=r.x.en.map (atV r.cs)):=J (by rw[ZD2 (by have:=HQ.out;omega)]);clear hjq;go_wp2;go_ret;exact FIN.out true ea ec _ _ (Zcr HALL.out) (λ_=>HTK.out) HXB.out HK.out (by rw[HEVL.out];exact HO.out)
end
end Go.Proofs.YtcdnilpdohknfaaGreatDoor
