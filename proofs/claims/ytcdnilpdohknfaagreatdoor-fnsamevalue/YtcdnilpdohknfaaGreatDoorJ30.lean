import Derived.Test.YtcdnilpdohknfaaGreatDoorJ28
set_option linter.unusedVariables false
set_option linter.unusedSimpArgs false
set_option maxRecDepth 100000
set_option maxHeartbeats 16000000
namespace Go.Proofs.YtcdnilpdohknfaaGreatDoor
open Tryz
section
open Go.RowKit Go.Joins
theorem ZDn(L:List Ty)(rs:List Ru)(m n:Nat)(a:Option Addr)(c G:Nat)(ms:List Int)(am:Option Addr)(cm:Nat)(s:ZB)(w:World)(v0 v1 v2 v4 v5 v6 v7 v8 v9:Value)(hG:ZV w G #[.slice a m c])(hH:ZV w (G+1) #[v0,v1,v2,.slice am ms.length cm,v4,v5,v6,v7,v8,v9])
  (hs:s.size<=4000) (hpl:ZD s=true) (hR:RuW w a L rs) (IH:IVH L rs m a c n) (hms:∀y∈ms,0<=y/\y<(n:Int)) (hmq20:ms.length<=20000) (hma:ZcZ .i64 w am ms w.heap.size) (hn:n<=20000):
  Calls prog 90 #[.string s,.pointer (some ⟨G,0,none⟩),.pointer (some ⟨G+1,0,none⟩)] w (ZT (ZkE (ms.map λy=>Zq L y.toNat s)) w):=by
 have g0:w.cell? ⟨G,0,none⟩=some (.slice a m c):=by rw[ZaI hG];rfl
 have h3:w.cell? ⟨G+1,3,none⟩=some (.slice am ms.length cm):=by rw[ZaI hH];rfl
 have CF:=J (Zpj L rs m n a c ms am cm s w hs hpl hR IH hms hmq20 hma hn);unfold FmA at CF;obtain⟨o,ho⟩:=ZX (ZkE (ms.map λy=>Zq L y.toNat s));rw[ho]at CF ⊢;obtain⟨T,hT⟩:=ZX (o.getD ⟨#[]⟩);obtain⟨B,hB⟩:=ZX o.isSome;have HO:=J (Zlg hT hB);rw[hT,hB]at CF;obtain⟨M,hM⟩:=ZX (ZpI L s ms);rw[hM]at CF;obtain⟨mq,hmq⟩:∃q,ms.length=q:=⟨_,rfl⟩;rw[hmq]at CF h3;clear hT hB hM hmq ho hG hH hR IH hms hma;go_enter func90,ntmps90
 go_wp2_with fail
 refine ZM CF.out ?_;rintro w2 hb2;have HB2:=J hb2;clear hb2 CF g0 h3;go_wp2;go_ret2;exact⟨by rw[HO.out];rfl,HB2.out⟩
theorem ZCo(L:List Ty)(rs:List Ru)(m n p:Nat)(a:Option Addr)(c G:Nat)(s:ZB)(w:World)(v0 v1 v3 v4 v5 v6 v7 v8 v9:Value)(hG:ZV w G #[.slice a m c])(hH:ZV w (G+1) #[v0,v1,I p,v3,v4,v5,v6,v7,v8,v9])
  (hs:s.size<=4000) (hpl:ZD s=true) (hR:RuW w a L rs) (IH:IVH L rs m a c n) (hp:p<n):
  Calls prog 91 #[.string s,.pointer (some ⟨G,0,none⟩),.pointer (some ⟨G+1,0,none⟩)] w (ZT (Zq L p s) w):=by
 have g0:w.cell? ⟨G,0,none⟩=some (.slice a m c):=by rw[ZaI hG];rfl
 have h2:w.cell? ⟨G+1,2,none⟩=some (I p):=by rw[ZaI hH];rfl
 have CF:=J (IH p hp s w hs hpl hR);unfold ZT at CF;obtain⟨o,ho⟩:=ZX (Zq L p s);rw[ho]at CF ⊢;obtain⟨T,hT⟩:=ZX (o.getD ⟨#[]⟩);obtain⟨B,hB⟩:=ZX o.isSome;have HO:=J (Zlg hT hB);rw[HO.out]at CF;clear hT hB ho hG hH hR IH;go_enter func91,ntmps91
 go_wp2_with fail
 refine ZM CF.out ?_;rintro w2 hb2;have HB2:=J hb2;clear hb2 CF g0 h2;go_wp2;go_ret2;exact⟨by rw[HO.out];rfl,HB2.out⟩
noncomputable def lvO (L:List Ty)(p:Nat)(s:ZB):Option ZB:=match Zfn ((wdB [] s.data.toList).map λu=>Zq L p ⟨u.toArray⟩) with
  |none=>none
  |some vs=>some (Zd3 vs)
theorem Zsr(x:ZB):(⟨x.data.toList.toArray⟩:ZB)=x:=by rw[Array.toArray_toList]
theorem ZnA(L:List Ty)(p:Nat)(s:ZB):(wdB [] s.data.toList).map (λu=>Zq L p ⟨u.toArray⟩)=(Lib.goFieldsP blR s).map (Zq L p):=by
 rw[<-Zcy,List.map_map];apply List.map_congr_left;intro x _;show Zq L p ⟨x.data.toList.toArray⟩=_;rw[Zsr]
theorem Zxm(vs ws:List ZB)(v:ZB)(j:Nat)(hj:vs.length=j)(hl:j<ws.length):
  ((vs++ws.drop j).map Value.string).set j (.string v)=((vs++[v])++ws.drop (j+1)).map Value.string:=by
 rw[List.map_append,List.set_append_right _ _ (by rw[ZDD];omega),ZDD,hj,Nat.sub_self];have hd:ws.drop j=ws[j]::ws.drop (j+1):=List.drop_eq_getElem_cons hl;rw[hd,List.map_cons,Zk,List.append_assoc,List.map_append];rfl
theorem ZBu(L:List Ty)(rs:List Ru)(m n p:Nat)(a:Option Addr)(c:Nat)(s:ZB)(w:World)(hs:s.size<=4000)(hpl:ZD s=true)(hR:RuW w a L rs)(IH:IVH L rs m a c n)(hp:p<n)(hok:∀j,j<=p->Zea L j)(hP7:prP L p<=7):
  Calls prog 89 #[.slice a m c,I p,.string s] w (ZT (lvO L p s) w):=by
 have HR:=J hR;have HIH:=J IH;obtain⟨o,ho⟩:=ZX (lvO L p s);have HV:Hid (o=match Zfn ((Lib.goFieldsP blR s).map (Zq L p)) with
  |none=>none
  |some vs=>some (Zd3 vs)):=J (by rw[<-ho,<-ZnA];rfl)
 have CW:=J (ZlY s w (by omega));have HPW:Hid (∀x∈Lib.goFieldsP blR s,ZD x=true/\x.size<=4000):=J (λx hx=>by
  have hu:x.data.toList∈wdB [] s.data.toList:=by rw[<-Zcy];exact List.mem_map_of_mem hx
  have h1:=ZrP s hu;have h2:=Zkj s hu;have h3:=ZjL hpl hu;rw[Zsr]at h2 h3;exact⟨h3,by omega⟩)
 have HLB:Hid (∀vs,Zfn ((Lib.goFieldsP blR s).map (Zq L p))=some vs->(Zd3 vs).size<=800000):=J (λvs hvs=>by
  rw[<-ZnA]at hvs;exact(Ze6 hok hP7 hvs hs).1)
 have hWLl:(Lib.goFieldsP blR s).length<=4001:=by
  have h3:=Zii s.data.toList [];have h4:s.data.toList.length=s.size:=by simp
  have h5:=Zn List.length (Zcy s);rw[ZDD]at h5;simp only[List.length_nil]at h3;omega
 rw[ho];unfold ZwJ at CW;generalize Lib.goFieldsP blR s=WL at HV CW HPW HLB hWLl;obtain⟨nw,hnw⟩:=ZX WL.length;have HNW:=J hnw;rw[hnw]at CW hWLl;clear hnw ho hR IH hok hP7 hs hpl;go_enter func89,ntmps89
 go_wp2_with fail
 refine CW.out.mono ?_;rintro e w2 ⟨A,rfl,ho2,hb2⟩;have HB2:=J hb2;have HO2:=J ho2;clear ho2 hb2 CW;go_wp2_with fail
 go_loopw [17] (λiv wr=>∃(j:Nat) (vs:List ZB),iv=I j/\j<=nw/\Hid (ZL w wr)/\Hid (Zfn ((WL.take j).map (Zq L p))=some vs)/\Hid (vs.length=j)/\Hid (wr.ownsRow w.heap.size 9 1 (.slice (some ⟨A,0,none⟩) nw nw) nw ((vs++WL.drop j).map Value.string))) (λiv _=>nw-(Zi iv).toNat)
 case atStart=>exact⟨0,[],rfl,Zx _,HB2,J rfl,J rfl,HO2⟩
 case round=>
  obtain⟨j,vs,rfl,hj,HB,HSQ,HVL,HO⟩:=hrel;by_cases hlt:j<nw
  ·have hjL:j<WL.length:=by rw[HNW.out];exact hlt
   have hji:(j:Int)<(nw:Int):=by omega
   have HJL:=J hjL;have hmem:=ZD3 hjL;have hpw:ZD WL[j]=true:=(HPW.out _ hmem).1;have hsw:WL[j].size<=4000:=(HPW.out _ hmem).2;have hLEN:((vs++WL.drop j).map Value.string).length=nw:=by rw[ZDD,ZDz,ZDC,HVL.out,HNW.out];omega
   have hx0:=HO.out.cellAt j (by omega);have hxr:wr.cell? ⟨A,j,none⟩=some (.string WL[j]):=by
    rw[hx0,List.getElem?_map,List.getElem?_append_right (by rw[HVL.out];exact Zb _),HVL.out,Nat.sub_self,List.getElem?_drop,Nat.add_zero,Zv hjL];rfl
   have HTK:Hid ((WL.take (j+1)).map (Zq L p)=(WL.take j).map (Zq L p)++[Zq L p WL[j]]):=J (by rw[List.take_succ_eq_append_getElem hjL,List.map_append];rfl);have HMM:Hid (Zq L p WL[j]∈WL.map (Zq L p)):=J (List.mem_map.2 ⟨_,hmem,rfl⟩);obtain⟨X,hX⟩:∃X:ZB,WL[j]=X:=⟨_,rfl⟩;rw[hX]at hxr hpw hsw HTK HMM;have CV:=J (HIH.out p hp X wr hsw hpw (ZgV HR.out HB.out));obtain⟨o2,ho2⟩:=ZX (Zq L p X);rw[ho2]at CV HTK HMM;clear hx0 hmem hX ho2 hpw hsw hLEN hjL;go_wp2_with fail
   refine ZM CV.out ?_;rintro w5 hb5;have HB5:=J (Zp HB.out hb5);have HO5:=J (ZbX HO.out hb5);clear hb5 CV hxr;cases o2 with
   |none=>
    have HY:Hid (o=none):=J (by rw[HV.out,Zj1 _ HMM.out]);simp only[Zf0,Option.getD_none,Option.isSome_none];go_wp2;go_ret2;exact Zim HY.out HB5.out
   |some v=>
    have HS2:=J (ZjM _ _ v HSQ.out);have hst:=J (HO5.out.stored j (.string v));have hfr:=HO5.out.frozenAt j;have hcc:∃v0,w5.cell? ⟨A,j,none⟩=some v0:=by
     have h8:=HO5.out.cellAt j (by omega);try rw[ZDE]at h8
     rw[h8];exact⟨_,Zv (by rw[ZDD,ZDz,ZDC,HVL.out,HNW.out];omega)⟩
    obtain⟨v0,hcv⟩:=hcc;have HBs:Hid (ZL w (w5.setCell ⟨A,j,none⟩ (.string v))):=J (HB5.out.setCell (HO5.out.lt A rfl).1 _);simp only[Zf0,Option.getD_some,Option.isSome_some];go_wp2
    go_roundw
    case rel=>
     refine⟨j+1,vs++[v],by go_num,by omega,HBs,J (by rw[HTK.out];exact HS2.out),J (by rw[ZDz,HVL.out];rfl),J ?_⟩;rw[<-Zxm vs WL v j HVL.out HJL.out];exact hst.out.1
    case measure=>simp[Zi];omega
  ·have hjn:j=nw:=by omega
   have hji:¬(j:Int)<(nw:Int):=by omega
   have hSE:Zfn (WL.map (Zq L p))=some vs:=by
    have:=HSQ.out
    rwa [ZD2 (by rw[HNW.out];omega)]at this
   have hbd:=HLB.out vs hSE;have HV2:Hid (o=some (Zd3 vs)):=J (by rw[HV.out,hSE]);have hOW:wr.ownsRow w.heap.size 9 1 (.slice (some ⟨A,0,none⟩) nw nw) nw (vs.map Value.string):=by
    have:=HO.out
    rwa [List.drop_of_length_le (by rw[HNW.out];omega),List.append_nil]at this
   have CJ:Hid (Calls prog 39 #[.slice (some ⟨A,0,none⟩) nw nw,.string ⟨#[32]⟩] wr λe w'=>e=.returned (.string (Zd3 vs))/\ZL wr w'):=J (by
    have hvl:vs.length=nw:=(by rw[HVL.out,hjn]);have h0:=ZE6 A 0 nw vs ⟨#[32]⟩ wr (λi x hx=>by
     have hi:=(List.getElem?_eq_some_iff.1 hx).1;have h8:=hOW.cellAt i (by omega);rw[ZDE,h8,List.getElem?_map,hx];rfl) (hOW.lt A rfl).2 (by omega) (by omega) (by
      have:(Lib.join (vs.map (·.data.toList)) [32]).length=(Zd3 vs).size:=by unfold Zd3;simp[ByteArray.size]
      show(Lib.join (vs.map (·.data.toList)) [32]).length<=_;omega)
    rw[hvl]at h0;refine h0.mono ?_;rintro e w' ⟨rfl,hb⟩;exact⟨rfl,hb⟩)
   clear hjn hSE hbd hOW;go_wp2_with fail
   refine ZM CJ.out ?_;rintro w5 hb5;have HB5:=J (Zp HB.out hb5);clear hb5 CJ;go_wp2;go_ret2;exact ZlS HV2.out HB5.out
theorem ZDl(L:List Ty)(rs:List Ru)(m n p:Nat)(a:Option Addr)(c G:Nat)(s:ZB)(w:World)(v0 v1 v3 v4 v5 v6 v7 v8 v9:Value)(hG:ZV w G #[.slice a m c])(hH:ZV w (G+1) #[v0,v1,I p,v3,v4,v5,v6,v7,v8,v9])
  (hs:s.size<=4000) (hpl:ZD s=true) (hR:RuW w a L rs) (IH:IVH L rs m a c n) (hp:p<n) (hok:∀j,j<=p->Zea L j) (hP7:prP L p<=7):
  Calls prog 88 #[.string s,.pointer (some ⟨G,0,none⟩),.pointer (some ⟨G+1,0,none⟩)] w (ZT (lvO L p s) w):=by
 have g0:w.cell? ⟨G,0,none⟩=some (.slice a m c):=by rw[ZaI hG];rfl
 have h2:w.cell? ⟨G+1,2,none⟩=some (I p):=by rw[ZaI hH];rfl
 have CF:=J (ZBu L rs m n p a c s w hs hpl hR IH hp hok hP7);unfold ZT at CF;obtain⟨o,ho⟩:=ZX (lvO L p s);rw[ho]at CF ⊢;obtain⟨T,hT⟩:=ZX (o.getD ⟨#[]⟩);obtain⟨B,hB⟩:=ZX o.isSome;have HO:=J (Zlg hT hB);rw[HO.out]at CF;clear hT hB ho hG hH hR IH hok hP7;go_enter func88,ntmps88
 go_wp2_with fail
 refine ZM CF.out ?_;rintro w2 hb2;have HB2:=J hb2;clear hb2 CF g0 h2;go_wp2;go_ret2;exact⟨by rw[HO.out];rfl,HB2.out⟩
theorem Zmz{L:List Ty}{n:Nat}{s:ZB}(h:(tyA L n).kd<=7):kvP L n s=avO (tyA L n).kd s:=by
 rw[Zs0 h];by_cases ha:atO (tyA L n).kd s=true
 ·rw[Zd ha];unfold avO;rw[Zd ha]
 ·rw[Za ha];unfold avO;rw[Za ha]
theorem ZCG{L:List Ty}{n:Nat}{s:ZB}(h:(tyA L n).kd=8):kvP L n s=lvO L (tyA L n).bs.toNat s:=by rw[Zsj h];rfl
theorem ZAh{L:List Ty}{rs:List Ru}{a:Option Addr}{w:World}{n:Nat}{r:Ru}{s:ZB}(hR:RuW w a L rs)(hr:rs[n]?=some r)(hok:∀j,j<=n->Zea L j)(hs:s.size<=4000)(hpl:ZD s=true):
  ∀(v:ZB) (w1:World) (R:Nat),kvP L n s=some v->ZL w w1->RuB w1 R r->
   Calls prog 51 #[.pointer (some ⟨R,0,none⟩),.string v,.string s] w1 (BlA (fcP r.x r.cs s v) w1):=λv w1 R hv hb hB=>by
 obtain⟨h1,h2,h3⟩:=Zu7 hok hs hpl hv;obtain⟨-,hE,hq⟩:=hR;obtain⟨-,q2,q3⟩:=hq n r hr;exact Ztj r R s v w1 (by omega) (by omega) (λe=>h2 (by rw[<-q2];exact e)) (λe=>h3 (by rw[<-q2];exact e)) hB (Zlk q3 hb) (ZbB hE hb)
theorem ZkF(a:Option Addr)(m c:Nat)(n:Int)(w:World)(hm:m<=20000)(hn : -1000000<=n/\n<=1000000):Calls prog 34 #[.slice a m c,I n] w λe w'=>e=.returned (.bool (decide (0<=n/\n<(m:Int))))/\w'=w:=by
 have CB:=J (λw9=>ZgE n 0 ((m:Int)-1) w9);have HD:Hid (decide (0<=n/\n<=(m:Int)-1)=decide (0<=n/\n<(m:Int))):=J (by congr 1;exact propext ⟨λh=>⟨h.1,by omega⟩,λh=>⟨h.1,by omega⟩⟩);rw[HD.out]at CB;generalize decide (0<=n/\n<(m:Int))=B at CB;clear HD;go_enter func34,ntmps34
 go_wp2_with (go_at_call 64;first|(refine Zc (CB.out _) ?_)|(have h0:=CB.out;trace_state))
 go_ret;exact⟨rfl,rfl⟩
theorem ZiW(L:List Ty)(rs:List Ru)(a:Option Addr)(m c:Nat)(n:Int)(w:World)(hR:RuW w a L rs)(hl:rs.length=m)(hm:m<=20000)(hn : -1000000<=n/\n<=1000000):
  Calls prog 108 #[.slice a m c,I n] w λe w'=>e=.returned (.bool (decide ((0<=n/\n<(m:Int))/\prP L n.toNat<=7)))/\w'=w:=by
 have CB:=J (λw9=>ZkF a m c n w9 hm hn);by_cases h:0<=n/\n<(m:Int)
 ·have HD:Hid (decide (0<=n/\n<(m:Int))=true):=J (by simpa using h);obtain⟨p,rfl⟩:∃p:Nat,n=p:=⟨n.toNat,by omega⟩;rw[HD.out]at CB;have hpl:p<rs.length:=by omega
  have hne:rs≠[]:=λe=>by rw[e]at hpl;simp at hpl
  obtain⟨b,off,rfl,hb,hc⟩:=hR.1 hne;have c10:=hc p rs[p] (Zv hpl) 10 _ rfl;have hcs:=(hR.2.2 p rs[p] (Zv hpl)).2.1;rw[hcs]at c10;have hpm:(p:Int)<(m:Int):=by omega
  rw[ZDK];generalize prP L p=K at c10;clear hcs hc hR hne hl;by_cases hk:K<=7
  ·have HR2:Hid (decide ((0<=(p:Int)/\(p:Int)<(m:Int))/\K<=7)=true):=J (Zh ⟨h,hk⟩);rw[HR2.out];clear HD h;go_enter func108,ntmps108
   go_wp2_with (go_at_call 34;refine Zc (CB.out _) ?_)
   go_ret;exact⟨Zo (by first|(simp;done)|(simp;omega)),rfl⟩
  ·have HR2:Hid (decide ((0<=(p:Int)/\(p:Int)<(m:Int))/\K<=7)=false):=J (Zg (λe=>hk e.2));rw[HR2.out];clear HD h;go_enter func108,ntmps108
   go_wp2_with (go_at_call 34;refine Zc (CB.out _) ?_)
   go_ret;exact⟨Zo (by first|(simp;done)|(simp;omega)),rfl⟩
 ·have HD:Hid (decide (0<=n/\n<(m:Int))=false):=J (Zg h);have HR2:Hid (decide ((0<=n/\n<(m:Int))/\prP L n.toNat<=7)=false):=J (Zg (λe=>h e.1));rw[HD.out]at CB;rw[HR2.out];clear HD h hR;go_enter func108,ntmps108
  go_wp2_with (go_at_call 34;refine Zc (CB.out _) ?_)
  go_ret;exact⟨rfl,rfl⟩
theorem ZoP(L:List Ty)(rs:List Ru)(a:Option Addr)(m c:Nat)(ms:List Int)(am:Option Addr)(cm:Nat)(w:World)(hR:RuW w a L rs)(hl:rs.length=m)(hm:m<=20000)
  (hmq20:ms.length<=20000) (hmz:∀y∈ms,-1000000<=y/\y<=1000000) (hma:ZcZ .i64 w am ms w.heap.size):
  Calls prog 109 #[.slice a m c,.slice am ms.length cm] w (BlA ((∀y∈ms,(0<=y/\y<(m:Int))/\prP L y.toNat<=7)/\1<=ms.length/\ms.length<=4) w):=by
 have HR:=J hR;have HL:=J hl;have HMS:=J hma;have HMZ:=J hmz;obtain⟨mq,hmq⟩:∃q,ms.length=q:=⟨_,rfl⟩;have HMQ:=J hmq;rw[hmq]at hmq20 ⊢;clear hmq hR hma hmz hl;have HB0:Hid (ZL w w.drew):=J ⟨rfl,rfl,rfl,Zb _,λ_ _=>rfl⟩;go_enter func109,ntmps109
 go_wp2_with fail
 go_loopw [9] (λiv wr=>∃j:Nat,iv=I j/\j<=mq/\Hid (ZL w wr)/\Hid (∀i x,i<j->ms[i]?=some x->(0<=x/\x<(m:Int))/\prP L x.toNat<=7)) (λiv _=>mq-(Zi iv).toNat)
 case atStart=>exact⟨0,rfl,Zx _,by first|exact HB0|exact J (Ze _ _),J (λi x h=>by omega)⟩
 case round=>
  obtain⟨j,rfl,hj,HB,HA⟩:=hrel;by_cases hlt:j<mq
  ·have hjL:j<ms.length:=by rw[HMQ.out];exact hlt
   have hji:(j:Int)<(mq:Int):=by omega
   obtain⟨be,oe,rfl,hbe,hce⟩:=HMS.out (λe=>by rw[e]at hjL;simp at hjL);have ce0:=(HB.out.cell (p:=⟨be,oe+j,none⟩) hbe).trans (hce j hjL);obtain⟨E,hE⟩:=ZX (ms[j]?.getD 0);have hEj:ms[j]?=some E:=by rw[<-hE,Zv hjL];rfl
   try simp only at ce0
   rw[hE]at ce0;have HEM:=J (List.mem_of_getElem? hEj);have HEJ:=J hEj;have CV:=J (ZiW L rs a m c E wr (ZgV HR.out HB.out) HL.out hm (HMZ.out E (List.mem_of_getElem? hEj)));obtain⟨B,hB⟩:=ZX (decide ((0<=E/\E<(m:Int))/\prP L E.toNat<=7));have HBB:=J hB;rw[hB]at CV;clear hce hE hEj hjL hB;go_wp2_with fail
   refine ZM CV.out ?_;rintro w5 h5;rw[h5];clear h5 CV ce0;cases B with
   |false=>
    have HN:Hid (¬((∀y∈ms,(0<=y/\y<(m:Int))/\prP L y.toNat<=7)/\1<=mq/\mq<=4)):=J (λh=>ZDZ HBB.out (h.1 E HEM.out));go_wp2;go_ret;exact ZdQ HN.out HB.out
   |true=>
    have HA2:Hid (∀i x,i<j+1->ms[i]?=some x->(0<=x/\x<(m:Int))/\prP L x.toNat<=7):=J (λi x hi hx=>by
     by_cases e:i=j
     ·subst e;rw[HEJ.out]at hx;cases hx;exact ZDY HBB.out
     ·exact HA.out i x (by omega) hx)
    go_wp2
    go_roundw
    case rel=>exact⟨j+1,by go_num,by omega,HB,HA2⟩
    case measure=>simp[Zi];omega
  ·have hjq:j=mq:=by omega
   have hji:¬(j:Int)<(mq:Int):=by omega
   have HALL:Hid (∀y∈ms,(0<=y/\y<(m:Int))/\prP L y.toNat<=7):=J (λx hx=>by
    obtain⟨i,hi,hie⟩:=List.getElem_of_mem hx;exact HA.out i x (by rw[hjq,<-HMQ.out];exact hi) (by rw[Zv hi,hie]))
   have HD:Hid (decide ((1:Int)<=(mq:Int)/\(mq:Int)<=4)=true↔(∀y∈ms,(0<=y/\y<(m:Int))/\prP L y.toNat<=7)/\1<=mq/\mq<=4):=J ⟨λh=>by
    have h2:=ZDY h;exact⟨HALL.out,by omega,by omega⟩,λh=>Zh (by have:=h.2;omega)⟩
   have CB:=J (λw9=>ZgE (mq:Int) 1 4 w9);generalize decide ((1:Int)<=(mq:Int)/\(mq:Int)<=4)=B at HD CB;clear hjq;go_wp2_with (go_at_call 64;refine Zc (CB.out _) ?_)
   go_ret;exact⟨B,rfl,HD.out,HB.out⟩
end
end Go.Proofs.YtcdnilpdohknfaaGreatDoor
