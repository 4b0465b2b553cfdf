import Derived.Test.YtcdnilpdohknfaaGreatDoorJ21
set_option linter.unusedVariables false
set_option linter.unusedSimpArgs false
set_option maxRecDepth 100000
set_option maxHeartbeats 16000000
namespace Go.Proofs.YtcdnilpdohknfaaGreatDoor
open Tryz
section
open Go.RowKit Go.Joins Go.Maps
theorem Zna{B R:Nat}{w:World}{v0 v2 v3:Value}{M:List Sp}(h:MA B w R v0 v2 v3 M):w.cell? ⟨R,2,none⟩=some v2/\w.cell? ⟨R,3,none⟩=some v3:=by
 obtain⟨sa,sc,d0,d1,d2,d3,-⟩:=ZfZ h;exact⟨d2,d3⟩
theorem ZBz{w:World}{R B:Nat}{v0 v2 v3:Value}(hB:B<=R)(h:w.heap[R]?=some (.cells #[v0,.slice none 0 0,v2,v3] 62 (0,0))):MA B w R v0 v2 v3 []:=⟨hB,none,0,h,ZEo _ _ _ _⟩
theorem ZAC{w:World}{R B:Nat}{v0 v2 v3:Value}{M:List Sp}(h:MA B w R v0 v2 v3 M)(v:Value):MA B (w.setCell ⟨R,3,none⟩ v) R v0 v2 v M/\Bf B R w (w.setCell ⟨R,3,none⟩ v)/\w.frozen? ⟨R,3,none⟩=false:=by
 have hl:=Zey h;obtain⟨h0,sa,sc,h1,h2⟩:=h;have ks:Kp (λj=>j=R) w (w.setCell ⟨R,3,none⟩ v):=Zex (S:=λj=>j=R) _ _ _ rfl;refine⟨⟨h0,sa,sc,ZEk w R 3 _ _ v h1,Zcd h2 ks (λj hj=>Zbf h2 hj h1 (by decide))⟩,⟨ZaB ks hl.1 (λj hj=>by have hj':j=R:=hj;omega),⟨ks.os,ks.tape,ks.output,ks.size,λj hj hs=>ks.block j hj (λe=>hs (.inl e))⟩⟩,Zk9 h1 3⟩
theorem Zye{B R b K:Nat}{w w':World}{S:Nat->Bool}(h:Bf B R w w')(hp:PS w b S K)(hR:b≠R):PS w' b S K:=by
 obtain⟨es,cl,hm⟩:=Zlv hp;refine Zfl hp h.2 ?_;rintro (e|⟨cur,hc⟩)
 ·exact hR e
 ·rw[hm]at hc;cases hc
def RB(w:World)(G:Nat):Prop:=w.heap[G]?=some (.cells #[.slice none 0 0,.slice none 0 0,.map none,I 0] 62 (0,0))
theorem Zyh{B R G:Nat}{w w':World}(h:Bf B R w w')(hp:RB w G)(hR:G≠R):RB w' G:=by
 unfold RB at hp ⊢;refine(h.2.block G (Array.getElem?_eq_some_iff.1 hp).1 ?_).trans hp;rintro (e|⟨cur,hc⟩)
 ·exact hR e
 ·rw[hp]at hc;simp only[ZDJ,Obj.cells.injEq]at hc;exact absurd hc.2.1 (by decide)
theorem ZCx{G b:Nat}{w w':World}(h:Kp (λj=>j=b) w w')(hp:RB w G)(hb:∃es cl,w.heap[b]?=some (.map es cl)):RB w' G:=by
 unfold RB at hp ⊢;obtain⟨es,cl,hb⟩:=hb;refine(h.block G (Array.getElem?_eq_some_iff.1 hp).1 (λe=>?_)).trans hp;have e':G=b:=e;subst e';rw[hp]at hb;cases hb
theorem Zt5{w:World}{G:Nat}(h:RB w G):(w.cell? ⟨G,0,none⟩=some (.slice none 0 0)/\w.cell? ⟨G,1,none⟩=some (.slice none 0 0)/\w.cell? ⟨G,2,none⟩=some (.map none)/\w.cell? ⟨G,3,none⟩=some (I 0))/\∀i,w.frozen? ⟨G,i,none⟩=false:=by
 have e:∀i,w.cell? ⟨G,i,none⟩=(#[.slice none 0 0,.slice none 0 0,.map none,I 0]:Array Value)[i]?:=λi=>by rw[ZO w G i _ _ (0,0) h]
 exact⟨⟨e 0,e 1,e 2,e 3⟩,λi=>ZEm w G i _ _ h⟩
def MoA(X:Rx)(v0:Value)(n:Nat)(w:World)(e:Ending)(w':World):Prop:=∃(p:Nat) (M:List Sp) (sa:Option Addr) (sc:Nat) (S:Nat->Bool),e=.returned (.agg #[v0,.slice sa M.length sc,.map (some (w.heap.size+1)),I 0])/\w'.ownsRow (w.heap.size+2) 233 4 (.slice sa M.length sc) M.length (spV M)/\Ent X [⟨true,0,0,0⟩] (λc=>tkX X c n) 0 p M/\M.length<=300000/\PS w' (w.heap.size+1) S M.length/\Clo M S/\(∀x,S x=true↔Rch M p x)/\ZL w w'/\w.heap.size+2<=w'.heap.size
theorem Zqb(X:Rx)(len:Nat)(hX:X.len=len)(hlen:len<=120)(hl1:1<=len)(b off cap:Nat)(w:World)(CE:∀B,EnC X len b off cap B (len-1))(hts:1+tsX X (len-1)<=300000)(hr:Zch w b off X w.heap.size)(hb:b<w.heap.size):
  Calls prog 145 #[.slice (some ⟨b,off,none⟩) len cap] w (MoA X (.slice (some ⟨b,off,none⟩) len cap) (len-1) w):=by
 have hmm:=@run_makeMap prog;have HR:=J hr;have HCE:=J CE;have e1:((w.alloc (.cells #[.slice none 0 0,.slice none 0 0,.map none,I 0] 62)).alloc (.map #[] 0)).heap.size=w.heap.size+2:=by simp
 have e0:(w.alloc (.cells #[.slice none 0 0,.slice none 0 0,.map none,I 0] 62)).heap.size=w.heap.size+1:=by simp
 have HA0:=J (((((Ze w.heap.size w).alloc (Zb _) (.cells #[.slice none 0 0,.slice none 0 0,.map none,I 0] 62)).alloc (by simp) (.map #[] 0)).alloc (by simp;omega) (.cells #[.slice (some ⟨b,off,none⟩) len cap,.slice none 0 0,.map (some (w.heap.size+1)),I 0] 62)));have HM0:Hid (MA (w.heap.size+2) (((w.alloc (.cells #[.slice none 0 0,.slice none 0 0,.map none,I 0] 62)).alloc (.map #[] 0)).alloc (.cells #[.slice (some ⟨b,off,none⟩) len cap,.slice none 0 0,.map (some (w.heap.size+1)),I 0] 62)) (w.heap.size+2) (.slice (some ⟨b,off,none⟩) len cap) (.map (some (w.heap.size+1))) (I 0) []):=J (ZBz (Zb _) (by
  have:=Zz ((w.alloc (.cells #[.slice none 0 0,.slice none 0 0,.map none,I 0] 62)).alloc (.map #[] 0)) (.cells #[.slice (some ⟨b,off,none⟩) len cap,.slice none 0 0,.map (some (w.heap.size+1)),I 0] 62);rw[e1]at this;exact this))
 have HP0:Hid (∀K,PS (((w.alloc (.cells #[.slice none 0 0,.slice none 0 0,.map none,I 0] 62)).alloc (.map #[] 0)).alloc (.cells #[.slice (some ⟨b,off,none⟩) len cap,.slice none 0 0,.map (some (w.heap.size+1)),I 0] 62)) (w.heap.size+1) (λ_=>false) K):=J (λK=>by
  have:=World.ownsMap_made (H:=Unit) (w.alloc (.cells #[.slice none 0 0,.slice none 0 0,.map none,I 0] 62)) prog 2 unitElem;rw[e0]at this;exact Zfl (ZsR this) (Zay (S:=λ_=>False) _ _) (λe=>e))
 have HX0:Hid ((((w.alloc (.cells #[.slice none 0 0,.slice none 0 0,.map none,I 0] 62)).alloc (.map #[] 0)).alloc (.cells #[.slice (some ⟨b,off,none⟩) len cap,.slice none 0 0,.map (some (w.heap.size+1)),I 0] 62)).heap[w.heap.size]?=some (.cells #[.slice none 0 0,.slice none 0 0,.map none,I 0] 62 (0,0))):=J (by
  have h1:=Zz w (.cells #[.slice none 0 0,.slice none 0 0,.map none,I 0] 62);exact(((Zay (S:=λ_=>False) _ _).trans (Zay (S:=λ_=>False) _ _) (λ_ _ e=>e)).block w.heap.size (by simp) (λe=>e)).trans h1)
 clear e1 e0 hr CE;obtain⟨B,hBe⟩:=ZX (w.heap.size+2);have HBe:=J hBe;rw[hBe]at HM0;clear hBe;go_enter func145,ntmps145
 go_wp2_with fail
 rw[show w.heap.size+1+1=w.heap.size+2 from rfl,HBe.out];refine ZM (ZkU B B _ _ _ [] 0 _ rfl (by omega) HM0.out) ?_;rintro w1 ⟨hm1,hb1⟩;have hBw:=HBe.out;have HP1:=J (λK=>Zye hb1 (HP0.out K) (by omega));have HX1:=J (Zyh hb1 HX0.out (by omega));have HM1:=J hm1;have HB1:=J (HA0.out.trans (hb1.1.mono (by omega)));obtain⟨d2,d3⟩:=Zna hm1;obtain⟨hm2,hb2,hf2⟩:=ZAC hm1 (I 0);have HM2:=J hm2;have HB2:=J (HB1.out.trans (hb2.1.mono (by omega)));have HP2:=J (λK=>Zye hb2 (HP1.out K) (by omega));have HX2:=J (Zyh hb2 HX1.out (by omega));have hlw:w1.heap.size=w1.heap.size:=rfl;clear hm1 hb1 hm2 hb2 hmm hlw;go_wp2_with fail
 obtain⟨W2,hW2⟩:=ZX (w1.setCell ⟨B,3,none⟩ (I 0));rw[hW2]at HM2 HB2 HP2 HX2;rw[hW2];clear hW2 hf2 d2 d3;have hbB:b<B:=by omega
 have hBW:B<=W2.heap.size:=(Zey HM2.out).1;have hi:(len:Int)-1=((len-1:Nat):Int):=by omega
 have CEN:Hid (∀W,Bf B B W2 W->MA B W B (.slice (some ⟨b,off,none⟩) len cap) (.map (some (w.heap.size+1))) (I 0) [⟨true,0,0,0⟩]->Calls prog 190 #[.pointer (some ⟨B,0,none⟩),I ((len:Int)-1),I 0] W (EnA X B B (.slice (some ⟨b,off,none⟩) len cap) (.map (some (w.heap.size+1))) (I 0) [⟨true,0,0,0⟩] (len-1) 0 W)):=J (λW h1 h2=>by
  rw[hi];exact HCE.out B B _ _ _ 0 W (ZaN (ZcV (ZaN HR.out hb HB2.out) (by omega)) hbB h1.1) hbB h2 (by simp) (by simp) (by simp;omega))
 have CRE:=J (λM K hM hK hW p W (hp:p<K) (hm:MA B W B (.slice (some ⟨b,off,none⟩) len cap) (.map (some (w.heap.size+1))) (I 0) M) (hps:PS W (w.heap.size+1) (λ_=>false) K)=>Zrd X B B _ _ _ M K (w.heap.size+1) hM hK hW (K+1) (λ_=>false) p W (by rw[Zmy];omega) hp hm hps);have HS0:=J (Zna HM2.out);have HD:=J (ZmG (Zxz B B W2));have hwz:IntKind.i64.wrap ((len:Int)-1)=(len:Int)-1:=by rw[ZY];omega
 have hl1i:(1:Int)<=(len:Int):=by omega
 have hl2i:(len:Int)<=120:=by omega
 clear hi hBw
 go_region_held3 (λw'=>w'.cell? ⟨B,2,none⟩=some (.map (some (w.heap.size+1)))/\w'.cell? ⟨B,3,none⟩=some (I 0)) (first|assumption|exact HS5.out|exact HS4.out|exact HS0.out) (first|(go_at_call 190;refine(CEN.out _ HD.out (Zl4 HM2.out)).mono ?_;rintro e w4 ⟨p4,M4,rfl,he4,hl4,hm4,hb4⟩;have hq4:=(Zdz he4).2;have HE4:=J he4;have HL4:=J hl4;have HM4:=J hm4;have HS4:=J (Zna hm4);have HB4:=J (Zbe HD.out hb4);have HP4:=J (λK=>Zye HB4.out (HP2.out K) (by have:=HBe.out;omega));have HX4:=J (Zyh HB4.out HX2.out (by have:=HBe.out;omega));clear he4 hl4 hm4 hb4)|(go_at_call 189;refine ZM (CRE.out M4 M4.length rfl (by have:=HL4.out;simp at this;omega) (HE4.out.2.2.2 (by simp) (Zwo X)) p4 _ hq4 HM4.out (HP4.out _)) ?_;rintro w5 ⟨S5,hp5,hr5,hk5⟩;have HP5:=J hp5;have HR5:=J (Zvq (Zn6 M4) hr5);have HM5:=J (Zn9 HM4.out (Zlv (HP4.out 0)) hk5);have HS5:=J (Zna HM5.out);have HX5:=J (ZCx hk5 HX4.out (Zlv (HP4.out 0)));have HK5:=J hk5;clear hp5 hr5 hk5))
 all_goals
  obtain⟨h0,sa,sc,hm1,hm2⟩:=HM5.out;obtain⟨q0,q1,q2,q3⟩:=ZdG hm1;obtain⟨⟨r0,r1,r2,r3⟩,rf⟩:=Zt5 HX5.out;have rf0:=rf 0;have rf1:=rf 1;have rf2:=rf 2;have rf3:=rf 3;have HO5:=J hm2;have hne:w.heap.size≠B:=by have:=HBe.out;omega
  have hlt5:B<w5.heap.size:=Zo9 hm1;clear rf hm1 hm2;go_wp2;have ks:∀(u:World) (i:Nat) (v:Value),Kp (λj=>j=w.heap.size) u (u.setCell ⟨w.heap.size,i,none⟩ v):=λu i v=>Zex (S:=λj=>j=w.heap.size) _ _ _ rfl
  have kk:=(((ks w5 0 (.slice (some ⟨b,off,none⟩) len cap)).trans (ks _ 1 (.slice sa M4.length sc)) (λ_ _ e=>e)).trans (ks _ 2 (.map (some (w.heap.size+1)))) (λ_ _ e=>e)).trans (ks _ 3 (I 0)) (λ_ _ e=>e);have HKK:=J kk;clear ks kk;refine bodyPost_ret (v:=.agg #[.slice (some ⟨b,off,none⟩) len cap,.slice sa M4.length sc,.map (some (w.heap.size+1)),I 0]) (by simp[results,results145,go_sem,r0,r1,r2,r3]) rfl ?_;have hBw:=HBe.out;refine⟨p4,M4,sa,sc,S5,rfl,?_,HE4.out,by have:=HL4.out;simp at this;omega,Zfl HP5.out HKK.out (λe=>by have e':w.heap.size+1=w.heap.size:=e;omega),HR5.out.1,λx=>?_,?_,?_⟩
  ·rw[hBw];exact Zcd HO5.out HKK.out (λj hj e=>by have h9:=(HO5.out.lt j hj).1;have e':j=w.heap.size:=e;omega)
  ·rw[HR5.out.2 x];exact⟨λh=>h.elim (λe=>by cases e) (λe=>e),λh => .inr h⟩
  ·have b4:=HB2.out.trans (HB4.out.1.mono (by omega));have b5:=b4.trans (ZaB HK5.out b4.size (λj e=>by have e':j=w.heap.size+1:=e;omega));exact b5.trans (ZaB HKK.out b5.size (λj e=>by have e':j=w.heap.size:=e;omega))
  ·exact ZDA (m:=w5.heap.size) (by omega) HKK.out.size
theorem Zk7{X:Rx}(h:rxB X=true):(1<=X.len/\X.len<=120)/\ZBT X X.len/\trX X (X.len-1)=some 0/\wtX X (X.len-1)<=2000/\(∀j,j<X.len->ZdO X j=true)/\∀j,j<X.len->X.K j=5->X.MX j = -1\/X.MN j<=X.MX j:=by
 unfold rxB at h;rw[ZW,ZW,ZW,ZD1,ZD1,ZD1,ZDP]at h;obtain⟨h1,h2,h3,h4⟩:=h;refine⟨h1,λj hj=>?_,h3,h4,λj hj=>h2 j (by simpa using hj),λj hj k5=>?_⟩
 ·have hn:=h2 j (by simpa using hj);refine⟨λh5=>Zjz hn h5,λk2=>?_,?_⟩
  ·unfold ZdO ZR at hn;rw[Za (by omega),Zd k2,ZW]at hn;have hr:=hn.1;unfold ZlR at hr;rw[ZW,ZD1]at hr;refine⟨hr.1.1,hr.1.2,λi hi=>?_⟩;have hg:=hr.2;unfold Zzc at hg;rw[ZDP]at hg;have hx:=hg i (by simpa using hi);unfold rgB at hx;rw[ZW,ZW,ZD1]at hx;exact⟨hx.1,hx.2.1,hx.2.2⟩
  ·unfold ZdO ZR at hn;by_cases k1:X.K j=1
   ·exact .inl k1
   ·rw[Za k1]at hn;by_cases k2:X.K j=2
    ·exact .inr (.inl k2)
    ·rw[Za k2]at hn;by_cases k3:X.K j=3\/X.K j=4
     ·rcases k3 with k|k
      ·exact .inr (.inr (.inl k))
      ·exact .inr (.inr (.inr (.inl k)))
     ·rw[Za k3]at hn;by_cases k5:X.K j=5
      ·exact .inr (.inr (.inr (.inr k5)))
      ·rw[Za k5]at hn;cases hn
 ·have hn:=h2 j (by simpa using hj);unfold ZdO at hn;rw[k5]at hn;simp[ZR]at hn;omega
def MtP(X:Rx)(C:List Int)(bb:Bool):Prop:=rxB X=true/\bb=true/\C.length<=300/\tkX X (clX X C) (X.len-1) 0 C.length
def MtA(X:Rx)(C:List Int)(bb:Bool)(w:World)(e:Ending)(w':World):Prop:=∃z,e=.returned (.bool z)/\(z=true↔MtP X C bb)/\ZL w w'
end
section
open Go.RowKit Go.Joins
theorem Znc(m:Nat):∀b,b<=m->((List.replicate (m+1) false).set 0 true)[b]?.getD false=decide (b=0):=λb hb=>by
 rw[ZnR _ _ _ (by simp)];by_cases e:b=0
 ·subst e;simp
 ·rw[Za e,Zvg,Zg e]
theorem ZyD{R:Nat->Nat->Prop}{m:Nat}{G:List Bool}(h:Fwd ((List.replicate (m+1) false).set 0 true) G m R):G[m]?.getD false=true↔R 0 m:=by
 rw[h m (Zb _)];constructor
 ·rintro ⟨a,ha,hf,hr⟩;rw[Znc m a ha]at hf;have:a=0:=ZDY hf;subst this;exact hr
 ·intro hr;exact⟨0,Zx _,by rw[Znc m 0 (Zx _)];rfl,hr⟩
theorem Zln(X:Rx)(len:Nat)(a:Option Addr)(cap:Nat)(s:ZB)(C:List Int)(m:Nat)(bb:Bool)(w:World)(hX:X.len=len)(hlen:len<=maxLen)(hnr:∀j,j<len->X.NR j<=maxLen)(hr:Zwq w a X w.heap.size)(hs:s.size<=1048576)(hC:ZF (rns s)=C)(hbb:(rns s).isSome=bb)(hm:C.length=m):
  Calls prog 103 #[.slice a len cap,.string s] w (MtA X C bb w):=by
 obtain⟨i0,hi0,hz0,hz1,hz2⟩:=info_parts ZhL;have CR:=J (Zdg s C bb w hs hC hbb);rw[hm]at CR;have hm2:m<=20000:=by rw[<-hm,<-hC];exact Zb0 s
 have CO:=J (λw2 (h:ZL w w2)=>Zqa X len a cap w2 hX hlen hnr (Zxf (ZxA hr h) h.size));have HR:=J hr;have HX:=J hX;have HML:=J hm;clear hC hbb hs hm;cases bb
 ·clear hr hnr hX hlen CO;go_enter func103,ntmps103
  go_wp2_with (go_at_call 55;refine CR.out.mono ?_;rintro e w1 ⟨ad,c,rfl,ho,hb1⟩;have HB1:=J hb1;clear ho hb1)
  go_ret;exact⟨false,rfl,⟨λe=>(by cases e),λe=>(by cases e.2.1)⟩,HB1.out⟩
 ·cases hb:rxB X
  ·have HV:Hid (rxB X=false):=J hb;rw[hb]at CO;clear hr hnr hX hlen hb;go_enter func103,ntmps103
   go_wp2_with (first|(go_at_call 55;refine CR.out.mono ?_;rintro e w1 ⟨ad,c,rfl,ho,hb1⟩;have HB1:=J hb1;clear ho hb1)|(go_at_call 134;refine ZM (CO.out _ HB1.out) ?_;rintro w2 hb2;have HB2:=J (HB1.out.trans (hb2.mono HB1.out.size));clear hb2))
   go_ret;exact⟨false,rfl,⟨λe=>(by cases e),λe=>(by have:=e.1;rw[HV.out]at this;cases this)⟩,HB2.out⟩
  ·have HV:Hid (rxB X=true):=J hb;by_cases h3:(300:Int)<(m:Int)
   ·rw[hb]at CO;clear hr hnr hX hlen hb;go_enter func103,ntmps103
    go_wp2_with (first|(go_at_call 55;refine CR.out.mono ?_;rintro e w1 ⟨ad,c,rfl,ho,hb1⟩;have HB1:=J hb1;clear ho hb1)|(go_at_call 134;refine ZM (CO.out _ HB1.out) ?_;rintro w2 hb2;have HB2:=J (HB1.out.trans (hb2.mono HB1.out.size));clear hb2))
    go_ret;exact⟨false,rfl,⟨λe=>(by cases e),λe=>(by have:=e.2.2.1;rw[HML.out]at this;omega)⟩,HB2.out⟩
   ·obtain⟨h1,h2,h3',h4,h5,h6⟩:=Zk7 hb;rw[hX]at h1 h2 h3' h4 h5 h6;obtain⟨b,off,rfl,hbw,hrow⟩:=hr (by omega);have CT:=J (λsa sc=>Zvr X C len m hX h1.2 HML.out (by omega) h2 h5 h6 b off cap sa sc len (len-1) 0 (by omega) (by omega) h3');have HRW:=J hrow;have hi:(len:Int)-1=((len-1:Nat):Int):=(by omega);have hwz:IntKind.i64.wrap ((len:Int)-1)=(len:Int)-1:=(by rw[ZY];omega);have hl1:(1:Int)<=(len:Int):=(by omega);have hl2:(len:Int)<=120:=(by omega);have CS:Hid (∀f fa fc sa sc (W:World),ZL w W->f.length=m+1->ZcZ .i64 W sa C W.heap.size->Zkt W fa f W.heap.size->Calls prog 136 #[.slice (some ⟨b,off,none⟩) len cap,I ((len:Int)-1),.slice sa m sc,.slice fa ((m:Nat)+1) fc] W (StA m (tkX X (clX X C) (len-1)) f W)):=J (λf fa fc sa sc W hW hf hs ha=>by rw[hi];exact CT.out sa sc f fa fc W (ZDy hbw hW.size) (ZcV (ZaN HRW.out hbw hW) hW.size) hs hf ha);rw[hb]at CO;clear hr hnr hX hlen hb hrow h2 h3' h4 h5 h6 CT hi h1;have hm3:(m:Int)+1<=301:=(by omega);have hmw:IntKind.i64.wrap ((m:Int)+1)=(m:Int)+1:=(by rw[ZY];omega);go_enter func103,ntmps103
    go_wp2_with (first
     |(go_at_call 55;refine CR.out.mono ?_;rintro e w1 ⟨ad,c,rfl,ho,hb1⟩;have HO1:=J (Zdi HML.out ho);have HB1:=J hb1;clear ho hb1)
     |(go_at_call 134;refine ZM (CO.out _ HB1.out) ?_;rintro w2 hb2;have HO2:=J (Zft HO1.out hb2);have HB2:=J (HB1.out.trans (hb2.mono HB1.out.size));clear hb2)
     |(at_make;refine wpList_make_full _ rfl _ _ 158 rfl w2.heap.size 4 i0 (.bool false) 1 underlying158 hi0 hz0 hz1 .i64 .i64 _ _ (m+1) rfl rfl (by go_num) (by go_num) (by rw[hz2];omega) (by unfold maxLen;omega) (Zb _) ?_;intro w3 hown hgrow;rw[ZgC]at hown;have HX3:Hid (BoX w2.heap.size w3 w2.heap.size (m+1) (m+1) (List.replicate (m+1) false)):=J ⟨by rw[List.length_replicate],hown⟩;have hb3:ZL w2 w3:=((Ze _ _).grown hgrow (Zb _) (λk h=>by cases h));have HO3:=J (Zft HO2.out hb3);have HB3:=J (HB2.out.trans (hb3.mono HB2.out.size));have u0:=(Zbq HX3.out).2.2 0 (by omega);have uz:=Zd7 HX3.out 0;have hm0:(0:Int)<((m:Nat)+1:Int):=(by omega);clear hown hgrow hb3)
     |(go_at_call 136;refine(CS.out _ _ _ _ _ _ (HB3.out.setCell (p:=⟨w2.heap.size,0,none⟩) HB2.out.size (.bool true)) (ZfA HX3.out 0 true).1 (by have hset:Below w2.heap.size w3 (w3.setCell ⟨w2.heap.size,0,none⟩ (.bool true)):=(Ze _ _).setCell (p:=⟨w2.heap.size,0,none⟩) (Zb _) (.bool true);intro h0;obtain⟨b9,o9,e9,hb9,hc9⟩:=HO2.out h0;exact⟨b9,o9,e9,(by have:=HX3.out;have h8:=(Zbq HX3.out).2.1;simp;omega),λj hj=>(hset.cell (p:=⟨b9,o9+j,none⟩) hb9).trans ((HO3.out h0).elim λb8 h8=>h8.elim λo8 h8=>(by have e8:=h8.1;rw[e9]at e8;simp only[ZDJ,Addr.mk.injEq]at e8;obtain⟨rfl,rfl,-⟩:=e8;exact h8.2.2 j hj))⟩) (Zi0 (ZfA HX3.out 0 true))).mono ?_;rintro e w4 ⟨g4,c4,G4,rfl,hx4,hf4,hb4⟩;have y0:=(Zbq hx4).2.2 m (by omega);have HF4:=J (ZyD hf4);have HB4:=J ((HB3.out.setCell (p:=⟨w2.heap.size,0,none⟩) HB2.out.size (.bool true)).trans (hb4.mono (HB3.out.setCell (p:=⟨w2.heap.size,0,none⟩) HB2.out.size (.bool true)).size));obtain⟨z,hz⟩:=ZX (G4[m]?.getD false);rw[hz]at y0 HF4;have hm4:(m:Int)<((m:Nat)+1:Int):=(by omega);clear hx4 hf4 hb4 hz))
    go_ret;refine⟨z,rfl,?_,HB4.out⟩;rw[HF4.out];unfold MtP;rw[HX.out,HML.out];exact⟨λe=>⟨HV.out,rfl,by omega,e⟩,λe=>e.2.2.2⟩
end
end Go.Proofs.YtcdnilpdohknfaaGreatDoor
