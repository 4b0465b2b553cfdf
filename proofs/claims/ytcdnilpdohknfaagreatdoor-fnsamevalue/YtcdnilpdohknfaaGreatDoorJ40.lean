import Derived.Test.YtcdnilpdohknfaaGreatDoorJ34
set_option linter.unusedVariables false
set_option linter.unusedSimpArgs false
set_option maxRecDepth 100000
set_option maxHeartbeats 16000000
namespace Go.Proofs.YtcdnilpdohknfaaGreatDoor
open Tryz
section
open Go.RowKit Go.Joins
theorem Ztv(L:List Ty)(rs:List Ru)(a:Option Addr)(m c:Nat)(r:Ru)(R:Nat)(w0 w:World)(h:Rdy w0 a L rs m R r w)(hC:RuC rs)(hm:m<=20000)(hz:r.x.nm.size<=20000):
  Calls prog 61 #[.pointer (some ⟨R,0,none⟩),.slice a m c] w (BlA (ZcO r.x.nm=true/\∀k,k<m->(tyA L k).nm≠r.x.nm) w):=by
 have hR:=Zid h;have HRA:=J hR.1;have HX:Hid (∀(j:Nat) (q:Ru),rs[j]?=some q->q.x.nm=(tyA L j).nm):=J (λj q e=>by rw[(hR.2.2 j q e).1]);have HL:=J h.len;have HC:Hid (∀w',ZL w w'->w'.cell? ⟨R,0,none⟩=some (.string r.x.nm)):=J (λw' hb=>ZE (Zbk h.box hb) 0);have CN:=J (λw9=>Zv8 r.x.nm w9 (by unfold maxLen;omega));obtain⟨P,hP⟩:=ZX (ZcO r.x.nm=true/\∀k,k<m->(tyA L k).nm≠r.x.nm);have HP:Hid (P↔ZcO r.x.nm=true/\∀k,k<m->(tyA L k).nm≠r.x.nm):=J (by rw[hP]);rw[hP];generalize r.x.nm=nm at HC CN HP;have c0:=HC.out w (Ze _ _);have HB0:Hid (ZL w w.drew):=J ⟨rfl,rfl,rfl,Zb _,λ_ _=>rfl⟩;have HRC:=J hC;have HSZ:Hid (∀q:Ru,(prog.info? 64).map (·.size)=some (ruV q).toArray.size):=J (λq=>by kernel_rfl);clear hR h hz hP hC;go_enter func61,ntmps61
 go_wp2_with fail
 go_loopw [9] (λiv wr=>∃j:Nat,iv=I j/\j<=m/\Hid (ZL w wr)/\Hid (∀k,k<j->(tyA L k).nm≠nm)) (λiv _=>m-(Zi iv).toNat)
 case atStart=>exact⟨0,rfl,Zx _,by first|exact HB0|exact J (Ze _ _),J (λi h=>by omega)⟩
 case round=>
  obtain⟨j,rfl,hj,HB,HA⟩:=hrel;by_cases hlt:j<m
  ·have hjL:j<rs.length:=by rw[HL.out];exact hlt
   have hji:(j:Int)<(m:Int):=by omega
   obtain⟨b,off,rfl,hb,hc⟩:=HRA.out (λe=>by rw[e]at hjL;simp at hjL);obtain⟨q,hq⟩:=ZX (rs[j]);have hrj:rs[j]?=some q:=by rw[Zv hjL,hq]
   have hcj:∀(i:Nat) (v:Value),(ruV q)[i]?=some v->_:=λi v hv=>(HB.out.cell (p:=⟨b,off+j*18+i,none⟩) hb).trans (hc j q hrj i v hv)
   have d0:=hcj 0 _ rfl;have d1:=hcj 1 _ rfl;have d2:=hcj 2 _ rfl;have d3:=hcj 3 _ rfl;have d4:=hcj 4 _ rfl;have d5:=hcj 5 _ rfl;have d6:=hcj 6 _ rfl;have d7:=hcj 7 _ rfl;have d8:=hcj 8 _ rfl;have d9:=hcj 9 _ rfl;have d10:=hcj 10 _ rfl;have d11:=hcj 11 _ rfl;have d12:=hcj 12 _ rfl;have d13:=hcj 13 _ rfl;have d14:=hcj 14 _ rfl;have d15:=hcj 15 _ rfl;have d16:=hcj 16 _ rfl;have d17:=hcj 17 _ rfl;rw[Nat.add_zero]at d0;have HE:=J (HX.out j q hrj);have H1C:=J (HRC.out j q hrj);have HLO:Hid (∀o,(wr.alloc o).heap[wr.heap.size]?=some o):=J (λo=>Zz wr o);have HSR:Hid (∀xs ys T,(wr.alloc (.cells xs T)).setRow wr.heap.size ys=wr.alloc (.cells ys T)):=J (λxs ys T=>World.setRow_alloc_new wr xs ys T);have HB1:Hid (ZL w (wr.alloc (.cells (ruV q).toArray 64))):=J (HB.out.alloc HB.out.size _);have HX1:Hid (RuB (wr.alloc (.cells (ruV q).toArray 64)) wr.heap.size q):=J (Zz wr _);clear c0 hq hrj hcj hc hjL;go_upto_region 4 with (refine wpList_store_row rfl 64 _ _ rfl wr.heap.size (ruV q).toArray rfl rfl 64 _ (HLO.out _) (HSZ.out q) rfl H1C.out ?_;rw[HSR.out])
   obtain⟨W0,hW0⟩:=ZX (wr.alloc (.cells (ruV q).toArray 64));rw[hW0]at HB1 HX1;rw[hW0];have b0:=ZE HX1.out 0;have c0r:=HC.out _ HB1.out;simp only[ruV,List.getElem?_cons_succ,List.getElem?_cons_zero]at b0;try simp only[Act.put]
   clear hW0 HLO HSR H1C d0 d1 d2 d3 d4 d5 d6 d7 d8 d9 d10 d11 d12 d13 d14 d15 d16 d17;have HBD:Hid (∀nq,ZL w (W0.drewN nq)):=J (λnq=>HB1.out.trans ⟨rfl,rfl,rfl,Zb _,λ_ _=>rfl⟩);generalize q.x.nm=E at b0 HE;cases he:(E.toList==nm.toList)
   ·have HA2:Hid (∀k,k<j+1->(tyA L k).nm≠nm):=J (λk hk=>by
     by_cases e:k=j
     ·subst e;rw[<-HE.out];exact ZqV he
     ·exact HA.out k (by omega))
    go_quiet (fail)
    go_wp2
    go_roundw
    case rel=>exact⟨j+1,by go_num,by omega,J (HBD.out _),HA2⟩
    case measure=>simp[Zi];omega
   ·have HN:Hid (¬P):=J (λh=>(HP.out.1 h).2 j hlt (by rw[<-HE.out];exact Zpk he));go_quiet (fail)
    go_wp2;go_ret;exact ZdQ HN.out (HBD.out _)
  ·have hjq:j=m:=by omega
   have hji:¬(j:Int)<(m:Int):=by omega
   have c0r:=HC.out _ HB.out;have HALL:Hid (∀k,k<m->(tyA L k).nm≠nm):=J (λk hk=>HA.out k (by rw[hjq];exact hk));clear hjq c0;obtain⟨z,hz⟩:=ZX (ZcO nm);have HZ:Hid (z=true↔P):=J (by rw[HP.out,hz];exact⟨λe=>⟨e,HALL.out⟩,λe=>e.1⟩);rw[hz]at CN;clear hz;go_wp2_with (go_at_call 107;refine Zc (CN.out _) ?_)
   go_ret;exact⟨z,rfl,HZ.out,HB.out⟩
theorem Zuo(L:List Ty)(rs:List Ru)(a:Option Addr)(m c:Nat)(r:Ru)(R:Nat)(w0 w:World)(h:Rdy w0 a L rs m R r w)(hm:m<=20000)(hz:r.x.ms.length<=20000/\∀y∈r.x.ms,-1000000<=y/\y<=1000000)(hbs : -1000000<=r.x.bs/\r.x.bs<=1000000):
  Calls prog 62 #[.pointer (some ⟨R,0,none⟩),.slice a m c] w (LnA L m r R w):=by
 have HXB:=J h.box;have f10:=Zcw h.box 10;have c1:=ZE h.box 1;have c2:=ZE h.box 2;have c3:=ZE h.box 3;have c10:=ZE h.box 10;simp only[ruV,List.getElem?_cons_succ,List.getElem?_cons_zero]at c1 c2 c3 c10;have hRl:R<w.heap.size:=ZiP h.box;have HS:Hid (∀k,Kp (λj=>j=R) w (w.setCell ⟨R,10,none⟩ (I k))/\RuB (w.setCell ⟨R,10,none⟩ (I k)) R { r with cs:=k }):=J (λk=>⟨Zde _ _ _ _,ZqX h.box k⟩);have HR1:Hid (∀k,Rdy w0 a L rs m R { r with cs:=k } (w.setCell ⟨R,10,none⟩ (I k))):=J (λk=>Ziu h (Zde _ _ _ _) (ZqX h.box k) rfl rfl rfl);have CS:=J (λk=>ZiW L rs a m c r.x.bs (w.setCell ⟨R,10,none⟩ (I k)) (Zid (HR1.out k)) h.len hm hbs);have CM:=J (λk=>ZoP L rs a m c r.x.ms r.am r.cm (w.setCell ⟨R,10,none⟩ (I k)) (Zid (HR1.out k)) h.len hm hz.1 hz.2 (ZxT (r:={ r with cs:=k }) (HR1.out k)));have CH:=J (λw9=>ZkF a m c r.x.bs w9 hm hbs);have CB:=J (λw9=>ZgE r.x.kd 1 7 w9);have HRW:=J (λk=>Zid (HR1.out k));have HLN:=J h.len;obtain⟨P,hP⟩:=ZX (LnP L m r.x);have HP:Hid (P↔LnP L m r.x):=J (by rw[hP]);have FIN:Hid (∀(b:Bool) (K:Int) (w':World),(b=true↔LnP L m r.x)->(b=true->K=csO L r.x)->w'=w.setCell ⟨R,10,none⟩ (I K)->LnA L m r R w (.returned (.bool b)) w'):=J (λb K w' h1 h2 h3=>by
  subst h3;exact⟨b,K,rfl,h1,h2,(HS.out K).2,(HS.out K).1⟩)
 obtain⟨q,hq⟩:=ZX r.x.ms.length;have HQ:=J hq;rw[hq]at c3 CM;clear hq hP h;by_cases k8:r.x.kd=8
 ·have HK:=J k8;rw[k8]at c1;obtain⟨B,hB⟩:=ZX (decide ((0<=r.x.bs/\r.x.bs<(m:Int))/\prP L r.x.bs.toNat<=7));have HBB:=J hB;rw[hB]at CS;have HLN8:Hid (LnP L m r.x↔q=0/\B=true):=J (by
   rw[<-HBB.out,Z6,<-HQ.out,ZDx];unfold LnP;rw[HK.out];constructor
   ·intro e;exact⟨e.2.2.2.2.2 (by omega),e.2.1 (.inl rfl),e.2.2.2.1 rfl⟩
   ·rintro ⟨e1,e2,e3⟩;exact⟨by omega,λ_=>e2,λe=>absurd (.inl rfl) e,λ_=>e3,λe=>by omega,λ_=>e1⟩)
  clear hB k8;by_cases q0:q=0
  ·have q0b:((q:Int)==0)=true:=by rw[q0];rfl
   have HY:Hid (B=true↔LnP L m r.x):=J (by rw[HLN8.out];exact⟨λe=>⟨q0,e⟩,λe=>e.2⟩);clear q0;go_enter func62,ntmps62
   go_wp2_with (go_at_call 108;refine Zc (CS.out _) ?_)
   go_ret;exact FIN.out B 8 _ HY.out (λ_=>by rw[Zjt (by rw[HK.out];decide),HK.out]) rfl
  ·have q0b:((q:Int)==0)=false:=by rw[ZDU];omega
   have HY:Hid (¬LnP L m r.x):=J (by rw[HLN8.out];exact λe=>absurd e.1 q0);clear q0;go_enter func62,ntmps62
   go_wp2;go_ret;exact FIN.out false 8 _ (ZbC HY.out) (λe=>by cases e) rfl
 have k8b:(r.x.kd==8)=false:=by rw[ZDU];exact k8
 by_cases k9:r.x.kd=9
 ·have HK:=J k9;rw[k9]at c1;have HLN9:Hid (LnP L m r.x↔r.x.bs=0/\((∀y∈r.x.ms,(0<=y/\y<(m:Int))/\prP L y.toNat<=7)/\1<=q/\q<=4)):=J (by
   rw[<-HQ.out];unfold LnP;rw[HK.out];constructor
   ·intro e;have e5:=e.2.2.2.2.1 rfl;exact⟨e.2.2.1 (by omega),e5.2,e5.1⟩
   ·rintro ⟨e1,e2,e3⟩;exact⟨by omega,λe=>by omega,λ_=>e1,λe=>by omega,λ_=>⟨e3,e2⟩,λe=>absurd rfl e⟩)
  generalize ((∀y∈r.x.ms,(0<=y/\y<(m:Int))/\prP L y.toNat<=7)/\1<=q/\q<=4)=P9 at HLN9 CM;unfold BlA at CM;clear k8 k8b k9;by_cases b0:r.x.bs=0
  ·have b0b:(r.x.bs==0)=true:=by rw[b0];rfl
   have HB0:=J b0;clear b0;go_enter func62,ntmps62
   go_wp2_with fail
   refine(CM.out _).mono ?_;rintro e w9 ⟨B,rfl,hB,h9⟩;have HY:Hid (B=true↔LnP L m r.x):=J (by rw[HLN9.out,hB];exact⟨λe=>⟨HB0.out,e⟩,λe=>e.2⟩);have H9:=J h9;clear hB h9;go_wp2;go_ret;refine⟨B,9,rfl,HY.out,λ_=>by rw[Zjt (by rw[HK.out];decide),HK.out],Zbk (HS.out 9).2 H9.out,ZaZ (HS.out 9).1 (ZdW H9.out)⟩
  ·have b0b:(r.x.bs==0)=false:=by rw[ZDU];exact b0
   have HY:Hid (¬LnP L m r.x):=J (by rw[HLN9.out];exact λe=>absurd e.1 b0);clear b0;go_enter func62,ntmps62
   go_wp2;go_ret;exact FIN.out false 9 _ (ZbC HY.out) (λe=>by cases e) rfl
 have k9b:(r.x.kd==9)=false:=by rw[ZDU];exact k9
 by_cases k10:r.x.kd=10
 ·have HK:=J k10;rw[k10]at c1;obtain⟨B,hB⟩:=ZX (decide (0<=r.x.bs/\r.x.bs<(m:Int)));have HBB:=J hB;rw[hB]at CH;have HLN10:Hid (LnP L m r.x↔q=0/\B=true):=J (by
   rw[<-HBB.out,Z6,<-HQ.out,ZDx];unfold LnP;rw[HK.out];constructor
   ·intro e;exact⟨e.2.2.2.2.2 (by omega),e.2.1 (.inr rfl)⟩
   ·rintro ⟨e1,e2⟩;exact⟨by omega,λ_=>e2,λe=>absurd (.inr rfl) e,λe=>by omega,λe=>by omega,λ_=>e1⟩)
  clear hB k8 k8b k9 k9b k10;by_cases q0:q=0
  ·have q0b:¬(0:Int)<(q:Int):=by omega
   cases B
   ·have HY:Hid (¬LnP L m r.x):=J (by rw[HLN10.out];exact λe=>absurd e.2 (by decide));clear q0;go_enter func62,ntmps62
    go_wp2_with (go_at_call 34;refine Zc (CH.out _) ?_)
    go_ret;exact FIN.out false 10 _ (ZbC HY.out) (λe=>by cases e) rfl
   ·have HY:Hid (LnP L m r.x):=J (by rw[HLN10.out];exact⟨q0,rfl⟩);have hbb:=ZDY HBB.out;obtain⟨p,hp⟩:∃p:Nat,r.x.bs=p:=⟨r.x.bs.toNat,by omega⟩;have HPB:=J hp;rw[hp]at c2 CH;have hpm:(p:Int)<(m:Int):=(by omega);have hpl:p<rs.length:=(by rw[HLN.out];omega);obtain⟨b,off,e,hb,hc⟩:=(HRW.out 10).1 (λe=>by rw[e]at hpl;simp at hpl);subst e;have d10:=hc p rs[p] (Zv hpl) 10 _ rfl;rw[((HRW.out 10).2.2 p rs[p] (Zv hpl)).2.1]at d10;have HKE:Hid (csO L r.x=prP L p):=J (by rw[Zwp HK.out,HPB.out];rfl);generalize prP L p=K at d10 HKE;have HF:Hid (Kp (λj=>j=R) w ((w.setCell ⟨R,10,none⟩ (I 10)).setCell ⟨R,10,none⟩ (I K))/\RuB ((w.setCell ⟨R,10,none⟩ (I 10)).setCell ⟨R,10,none⟩ (I K)) R { r with cs:=K }):=J ⟨ZaZ (Zde _ _ _ _) (Zde _ _ _ _),ZqX (HS.out 10).2 K⟩;have f10b:=Zcw (HS.out 10).2 10;clear q0 hc hp hbb;go_enter func62,ntmps62
    go_wp2_with (go_at_call 34;refine Zc (CH.out _) ?_)
    go_ret;exact⟨true,K,rfl,Zcr HY.out,λ_=>HKE.out.symm,HF.out.2,HF.out.1⟩
  ·have q0b:(0:Int)<(q:Int):=by omega
   have HY:Hid (¬LnP L m r.x):=J (by rw[HLN10.out];exact λe=>absurd e.1 q0);clear q0;go_enter func62,ntmps62
   go_wp2;go_ret;exact FIN.out false 10 _ (ZbC HY.out) (λe=>by cases e) rfl
 have k10b:(r.x.kd==10)=false:=by rw[ZDU];exact k10
 have HLN1:Hid (LnP L m r.x↔(1<=r.x.kd/\r.x.kd<=7)/\r.x.bs=0/\q=0):=J (by
  rw[<-HQ.out,ZDx];unfold LnP;constructor
  ·intro e;exact⟨by omega,e.2.2.1 (by omega),e.2.2.2.2.2 k9⟩
  ·rintro ⟨e1,e2,e3⟩;exact⟨by omega,λe=>by omega,λ_=>e2,λe=>by omega,λe=>by omega,λ_=>e3⟩)
 have HCK:Hid (csO L r.x=r.x.kd):=J (Zjt k10);clear k8 k9 k10;obtain⟨B,hB⟩:=ZX (decide (1<=r.x.kd/\r.x.kd<=7));rw[hB]at CB;have HBB:=J hB;clear hB;cases B
 ·have HY:Hid (¬LnP L m r.x):=J (by rw[HLN1.out];exact λe=>absurd e.1 (ZDZ HBB.out));generalize hkk:r.x.kd=kk at c1 k8b k9b k10b CB;go_enter func62,ntmps62
  go_wp2_with (go_at_call 64;refine Zc (CB.out _) ?_)
  go_ret;exact FIN.out false kk _ (ZbC HY.out) (λe=>by cases e) rfl
 ·have h17:=ZDY HBB.out;by_cases b0:r.x.bs=0
  ·have b0b:(r.x.bs==0)=true:=by rw[b0];rfl
   by_cases q0:q=0
   ·have q0b:((q:Int)==0)=true:=(by rw[q0];rfl);have HY:Hid (LnP L m r.x):=J (by rw[HLN1.out];exact⟨h17,b0,q0⟩);clear q0 b0 h17;generalize hkk:r.x.kd=kk at c1 k8b k9b k10b CB HCK;go_enter func62,ntmps62
    go_wp2_with (go_at_call 64;refine Zc (CB.out _) ?_)
    go_ret;exact FIN.out true kk _ (Zcr HY.out) (λ_=>HCK.out.symm) rfl
   ·have q0b:((q:Int)==0)=false:=(by rw[ZDU];omega);have HY:Hid (¬LnP L m r.x):=J (by rw[HLN1.out];exact λe=>absurd e.2.2 q0);clear q0 b0 h17;generalize hkk:r.x.kd=kk at c1 k8b k9b k10b CB;go_enter func62,ntmps62
    go_wp2_with (go_at_call 64;refine Zc (CB.out _) ?_)
    go_ret;exact FIN.out false kk _ (ZbC HY.out) (λe=>by cases e) rfl
  ·have b0b:(r.x.bs==0)=false:=by rw[ZDU];exact b0
   have HY:Hid (¬LnP L m r.x):=J (by rw[HLN1.out];exact λe=>absurd e.2.1 b0);clear b0 h17;generalize hkk:r.x.kd=kk at c1 k8b k9b k10b CB;go_enter func62,ntmps62
   go_wp2_with (go_at_call 64;refine Zc (CB.out _) ?_)
   go_ret;exact FIN.out false kk _ (ZbC HY.out) (λe=>by cases e) rfl
end
end Go.Proofs.YtcdnilpdohknfaaGreatDoor
