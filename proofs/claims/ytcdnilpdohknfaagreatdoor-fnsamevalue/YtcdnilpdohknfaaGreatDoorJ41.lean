import Derived.Test.YtcdnilpdohknfaaGreatDoorJ39
import Derived.Great.Walk
import Derived.Great.BuildSlice
import Derived.Test.YtcdnilpdohknfaaGreatDoorJ40
set_option linter.unusedVariables false
set_option linter.unusedSimpArgs false
set_option maxRecDepth 100000
set_option maxHeartbeats 16000000
namespace Go.Proofs.YtcdnilpdohknfaaGreatDoor
open Tryz
section
open Go.RowKit Go.Joins
theorem ZzO:(prog.info? 64).map (λi=>(i.zero,i.size,i.bytes))=some (some (.agg #[.string ⟨#[]⟩,I 0,I 0,.slice none 0 0,I 0,I 0,.string ⟨#[]⟩,.string ⟨#[]⟩,.string ⟨#[]⟩,.slice none 0 0,I 0,.string ⟨#[]⟩,.string ⟨#[]⟩,.slice none 0 0,.slice none 0 0,.map none,I 0,.slice none 0 0]),18,272):=by kernel_rfl
theorem Zz9{L:List Ty}{w w':World}(h:¬OkP L)(hb:ZL w w'):RlA L w (.returned (.tuple #[.slice none 0 0,.bool false])) w':=⟨none,0,0,false,rfl,ZbC h,hb,λe=>(by cases e)⟩
def ruN(x:Ty)(am:Option Addr)(cm:Nat)(ae:Option Addr)(ce:Nat):Ru:=⟨x,am,cm,ae,ce,0,⟨#[]⟩,⟨#[]⟩,.slice none 0 0,.slice none 0 0,.map none,I 0,none,0,[]⟩
theorem ZBJ(w:World)(q:Ru)(j:Nat)(u:Value)(hj:(ruV q)[j]?=some u):(w.alloc (.cells (ruV q).toArray 64)).cell? ((⟨w.heap.size,0,none⟩:Addr).add j)=some u:=by
 rw[show(⟨w.heap.size,0,none⟩:Addr).add j=⟨w.heap.size,j,none⟩ from by
  unfold Addr.add;simp only[ZDE];split
  ·rename_i e;rw[e]
  ·rfl]
 rw[ZO _ w.heap.size j _ 64 (0,0) (Zz w _)];simpa using hj
theorem ZtW{q:Ru}(h:Zy9 q):∀u∈ruV q,u.oneCell'=true:=λu hu=>by
 unfold Zy9 at h;rw[Array.all_eq_true_iff_forall_mem]at h;exact h u (by simpa using hu)
theorem Zt7(q:Ru):Go.Program.builtSlice prog 64 1 [(0,.agg (ruV q).toArray)]=some (ruV q).toArray:=by kernel_rfl
def Rnd(L:List Ty)(w WR:World)(j R:Nat)(wx:World)(b:Bool):Prop:=ZL WR wx/\(b=true->¬Zea L j)/\(b=false->Zea L j/\∃(q:Ru) (w3:World),RuB wx R q/\ZB2 L w q j/\WR.heap.size<=w3.heap.size/\Zyb (λk=>k<w3.heap.size) wx q)
theorem Zqq{L:List Ty}{w WR wx:World}{j R:Nat}(hb:ZL WR wx)(h:¬Zea L j):Rnd L w WR j R wx true:=⟨hb,λ_=>h,λe=>(by cases e)⟩
theorem ZuJ(L:List Ty)(m:Nat)(a:Option Addr)(c:Nat)(w:World)(hD:L.length=m)(hZ:Zwr L)(hBS:∀j,j<m->-1000000<=(tyA L j).bs/\(tyA L j).bs<=1000000)(hr:ZiL w a L w.heap.size)(hE:Zg1 w):
  Calls prog 33 #[.slice a m c] w (RlA L w):=by
 obtain⟨i0,hi0,hy0,hy1,hy2⟩:=info_parts ZzO;have HD:=J hD;have HZ:=J hZ;have HBS:=J hBS;have HR:=J hr;have HE:=J hE;clear hr hE;by_cases m30:(30:Int)<(m:Int)
 ·have HN:Hid (¬OkP L):=J (λe=>by have:=e.1;omega);clear hD hZ hBS;go_enter func33,ntmps33
  go_wp2;go_ret2;exact Zz9 HN.out (Ze _ _)
 have hm30:m<=30:=by omega
 clear hD hZ hBS;go_enter func33,ntmps33
 go_wp2_with fail
 go_loopw [4,13] (λov iv wr=>∃(j c2:Nat) (ad:Option Addr) (rs:List Ru),iv=I j/\j<=m/\ov=.slice ad j c2/\Hid (Inv7 L w j ad c2 rs wr)) (λ_ iv _=>m-(Zi iv).toNat)
 case atStart=>exact⟨0,0,none,[],rfl,Zx _,rfl,J (Zyg L w)⟩
 case round=>
  obtain⟨j,c2,ad,rs,rfl,hj,rfl,HI⟩:=hrel;obtain⟨WR,rfl⟩:∃WR,WR=wr:=⟨_,rfl⟩;by_cases hlt:j<m
  ·have hjL:j<L.length:=by rw[HD.out];exact hlt
   have hji:(j:Int)<(m:Int):=by omega
   obtain⟨b,off,rfl,hb,hrow⟩:=ZeZ HR.out hjL;obtain⟨am,cm,ae,ce,hx,hma,hea⟩:=hrow j hjL;obtain⟨c0,c1,c2',c3,c4,c5,c6,c7,c8,c9⟩:=Zkx hx hb HI.out.low;have HMA:=J hma;have HEA:=J hea;have hzx:=HZ.out.2 j hjL;have hbx:=HBS.out j hlt;obtain⟨x,hxx⟩:=ZX (tyA L j);have HXX:=J hxx;rw[hxx]at c0 c1 c2' c3 c4 c5 c6 c7 c8 c9 HMA HEA hzx hbx;have HZX:=J hzx;clear hrow hx hma hea hxx;have HRU:Hid (RuW WR ad L rs):=J (ZsU HI.out HE.out);go_upto_region 8 with fail
   obtain⟨W1,hW1⟩:∃W,(WR.alloc (.cells #[.string x.nm,I x.kd,I x.bs,.slice am x.ms.length cm,I x.mn,I x.mx,.string x.lo,.string x.hi,.string x.pt,.slice ae x.en.length ce] 33)).alloc (.cells (ruV (ruN x am cm ae ce)).toArray 64)=W:=⟨_,rfl⟩;have hW2:(WR.alloc (.cells #[.string x.nm,I x.kd,I x.bs,.slice am x.ms.length cm,I x.mn,I x.mx,.string x.lo,.string x.hi,.string x.pt,.slice ae x.en.length ce] 33)).alloc (.cells #[.string x.nm,I x.kd,I x.bs,.slice am x.ms.length cm,I x.mn,I x.mx,.string x.lo,.string x.hi,.string x.pt,.slice ae x.en.length ce,I 0,.string ⟨#[]⟩,.string ⟨#[]⟩,.slice none 0 0,.slice none 0 0,.map none,I 0,.slice none 0 0] 64)=W1:=hW1;have HB1:Hid (ZL WR W1):=J (by rw[<-hW1];exact((Ze _ _).alloc (Zb _) _).alloc (by simp) _);have HX1:Hid (RuB W1 (WR.heap.size+1) (ruN x am cm ae ce)):=J (by
    have:=Zz (WR.alloc (.cells #[.string x.nm,I x.kd,I x.bs,.slice am x.ms.length cm,I x.mn,I x.mx,.string x.lo,.string x.hi,.string x.pt,.slice ae x.en.length ce] 33)) (.cells (ruV (ruN x am cm ae ce)).toArray 64);rw[hW1]at this;have e:(WR.alloc (.cells #[.string x.nm,I x.kd,I x.bs,.slice am x.ms.length cm,I x.mn,I x.mx,.string x.lo,.string x.hi,.string x.pt,.slice ae x.en.length ce] 33)).heap.size=WR.heap.size+1:=(by simp);rw[e]at this;exact this)
   rw[hW2];have HRD:Hid (Rdy WR ad L rs j (WR.heap.size+1) (ruN x am cm ae ce) W1):=J ⟨HRU.out,HI.out.len,Nat.le_succ _,HB1.out,HX1.out,Zrf (ZqD HMA.out HI.out.low) HI.out.low.size,Zuz (Zq2 HEA.out HI.out.low) HI.out.low.size⟩;have HRC:=J (Zk0 HI.out);have hbx1:=hbx.1;have hbx2:=hbx.2;clear hW1 hW2 c0 c1 c2' c3 c4 c5 c6 c7 c8 c9 hzx hbx HRU
   go_cut [4,7,13,30] (λv4 v7 v13 v30 wx=>v4=.slice ad j c2/\v7=.pointer (some ⟨WR.heap.size+1,0,none⟩)/\v13=I (j:Int)/\∃b:Bool,v30=.bool b/\Hid (Rnd L w WR j (WR.heap.size+1) wx b))
   case first=>
    go_wp2_with fail
    refine(Ztv L rs ad j c2 (ruN x am cm ae ce) (WR.heap.size+1) WR W1 HRD.out HRC.out (by omega) HZX.out.1).mono ?_;rintro e w2 ⟨B,rfl,hB,hb2⟩;have HN2:=J hB;have HB2:=J (HB1.out.trans (hb2.mono HB1.out.size));have HR2:=J (Ziu HRD.out (ZdW (R:=WR.heap.size+1) hb2) (Zbk HX1.out hb2) rfl rfl rfl);clear hB hb2;cases B
    ·have HNO:Hid (¬Zea L j):=J (λe=>Bool.noConfusion (HN2.out.2 (by have:=(Zhc.1 e).1;rw[HXX.out]at this;exact this)));go_wp2;go_meet
     exact⟨rfl,rfl,rfl,true,rfl,J (Zqq HB2.out HNO.out)⟩
    have HN2':=J (HN2.out.1 rfl);clear HN2;go_wp2_with fail
    refine(Zuo L rs ad j c2 (ruN x am cm ae ce) (WR.heap.size+1) WR w2 HR2.out (by omega) HZX.out.2.2.2.2.1 ⟨hbx1,hbx2⟩).mono ?_;rintro e w3 ⟨B,K,rfl,hB,hK,hx3,hk3⟩;have HN3:=J hB;have HK:=J hK;have HB3:Hid (ZL WR w3):=J (HB2.out.trans (ZaB hk3 HB2.out.size (λk e=>by have e':k=WR.heap.size+1:=e;omega)));have HR3:=J (Ziu (r':={ ruN x am cm ae ce with cs:=K }) HR2.out hk3 hx3 rfl rfl rfl);clear hB hK hx3 hk3;cases B
    ·have HNO:Hid (¬Zea L j):=J (λe=>Bool.noConfusion (HN3.out.2 (by have:=(Zhc.1 e).2.1;rw[HXX.out]at this;exact this)));go_wp2;go_meet
     exact⟨rfl,rfl,rfl,true,rfl,J (Zqq HB3.out HNO.out)⟩
    have HN3':Hid (LnP L j x):=J (HN3.out.1 rfl);have hKe:K=csO L x:=HK.out rfl;have HCS:Hid (1<=csO L x/\csO L x=prP L j):=J ⟨by
     have:=ZAz (L:=L) (j:=j) (by rw[HXX.out];exact HN3'.out) HI.out.oks;rw[HXX.out]at this;exact this,ZCE HN3'.out HXX.out⟩
    subst hKe;clear HN3 HK;go_wp2_with fail
    refine(Zw6 L rs ad j _ (WR.heap.size+1) WR w3 HR3.out HCS.out.1 HZX.out ⟨rfl,rfl,⟨rfl,rfl,rfl⟩,rfl,rfl,rfl,rfl⟩).mono ?_;rintro e w4 ⟨B,q,rfl,hB,hk4,hx4,hq,hc4,hv4⟩;have HB4:Hid (ZL WR w4):=J (HB3.out.trans (ZaB hk4 HB3.out.size (λk e=>by have e':k=WR.heap.size+1:=e;omega)));have HN4:=J hB;have HQ:=J hq;have HX4:=J hx4;have HC4:=J hc4;have HV4:=J hv4;clear hB hk4 hx4 hq hc4 hv4;cases B
    ·have HNO:Hid (¬Zea L j):=J (λe=>Bool.noConfusion (HN4.out.2 (by
      have:=(Zhc.1 e).2.2;rw[HXX.out,<-HCS.out.2]at this;exact this)))
     go_wp2;go_meet
     exact⟨rfl,rfl,rfl,true,rfl,J (Zqq HB4.out HNO.out)⟩
    have HFK:Hid (fkP x (csO L x)):=J (HN4.out.1 rfl);have HV5:=J (HV4.out rfl);have HRN:Hid (Rnd L w WR j (WR.heap.size+1) w4 false):=J ⟨HB4.out,λe=>(by cases e),λ_=>⟨Zhc.2 ⟨by rw[HXX.out];exact HN2'.out,by rw[HXX.out];exact HN3'.out,by rw[HXX.out,<-HCS.out.2];exact HFK.out⟩,q,w3,HX4.out,⟨by rw[HXX.out,HQ.out.1];rfl,by rw[HQ.out.2.1];exact HCS.out.2,by rw[HQ.out.1];exact HZX.out,by rw[HQ.out.1,HQ.out.2.1];exact HFK.out,by rw[HV5.out.1,HQ.out.1,HQ.out.2.1],by rw[HV5.out.2.1,HQ.out.1,HQ.out.2.1],by rw[HV5.out.2.2.1,HQ.out.1,HQ.out.2.1],by rw[HQ.out.1,HQ.out.2.2];exact HMA.out,HC4.out⟩,HB3.out.size,HV5.out.2.2.2⟩⟩;clear HN4 HV4;go_wp2;go_meet
    exact⟨rfl,rfl,rfl,false,rfl,HRN⟩
   obtain⟨rfl,rfl,rfl,B,rfl,HRN⟩:=hcut;clear HRD HB1 HX1 HRC;cases B
   ·obtain⟨hb9,-,h9⟩:=HRN.out;obtain⟨hok,q,w3,hx9,hit,hs9,hp9⟩:=h9 rfl;have HB9:=J hb9;have HOK9:=J hok;have HX9:=J hx9;have HIT:=J hit;have HS9:=J hs9;have HP9:=J hp9;have HC9:=J hit.2.2.2.2.2.2.2.2;have HSZ9:Hid (w.heap.size<=wc.heap.size):=J (ZDA HI.out.low.size hb9.size);have HO9:Hid (wc.ownsRow w.heap.size 64 18 (.slice ad j c2) j (rs.flatMap ruV)):=J (ZbX HI.out.own hb9);have HSZ:Hid ((prog.info? 64).map (·.size)=some (ruV q).toArray.size):=J (by kernel_rfl);have HBS:Hid (∀ps,ps=[(0,.agg (ruV q).toArray)]->Go.Program.builtSlice prog 64 1 ps=some (ruV q).toArray):=J (λps h=>by rw[h];exact Zt7 q);clear hb9 hok hx9 hit hs9 hp9 h9 HRN;go_wp2_with (first|(refine wpList_load_row rfl 64 _ rfl (WR.heap.size+1) rfl 64 (ruV q).toArray (0,0) _ HX9.out underlying64 rfl HSZ.out ?_)|(refine Go.Great.wpList_buildSliceTo rfl 48 64 1 _ rfl wc.heap.size rfl _ rfl underlying48 (ruV q).toArray (HBS.out _ (by kernel_rfl)) ?_)|(at_builtin;refine wpList_append_own_at _ rfl (.tmp 31) (.tmp 33) 48 rfl w.heap.size 64 i0 _ 18 272 underlying48 hi0 hy0 hy1 hy2 rfl (by decide) _ _ _ rfl (HO9.out.alloc _) ⟨wc.heap.size,0,none⟩ 1 1 (ruV q) rfl rfl (λj u hj=>ZBJ wc q j u hj) (ZtW HC9.out) (by unfold maxLen;omega) (by omega) (by have:=HSZ9.out;simp;omega) ?_;intro v9 w6 hown2 hgrow2 _ hat2;obtain⟨ad6,c6,hv2⟩:=Zdp hown2;rw[hv2]at hown2 hat2 ⊢;clear hv2;have HI6:=J (ZuY HI.out HB9.out HS9.out HIT.out HP9.out HOK9.out hown2 hgrow2 hat2);clear hown2 hgrow2 hat2))
    go_roundw
    case rel=>exact⟨j+1,c6,ad6,rs++[q],by go_num,by omega,rfl,HI6⟩
    case measure=>simp[Zi];omega
   ·have HNO:Hid (¬OkP L):=J (λe=>HRN.out.2.1 rfl (e.2 j hjL));have HBW:Hid (ZL w wc):=J (HI.out.low.trans (HRN.out.1.mono HI.out.low.size));clear HRN;go_wp2;go_ret2;exact Zz9 HNO.out HBW.out
  ·have hjm:j=m:=by omega
   have hji:¬(j:Int)<(m:Int):=by omega
   subst hjm;have HOK:Hid (OkP L):=J ⟨by rw[HD.out];omega,λi hi=>HI.out.oks i (by rw[HD.out]at hi;exact hi)⟩;go_wp2;go_ret2;exact⟨ad,j,c2,true,rfl,Zcr HOK.out,HI.out.low,λ_=>⟨rs,HD.out.symm,HI.out.len,ZsU HI.out HE.out,Zk0 HI.out⟩⟩
theorem Zad:ZqF:=λL m a c w hD hZ hB hr hE=>ZuJ L m a c w hD hZ hB hr hE
end
end Go.Proofs.YtcdnilpdohknfaaGreatDoor
