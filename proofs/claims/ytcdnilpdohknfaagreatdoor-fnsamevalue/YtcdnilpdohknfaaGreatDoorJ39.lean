import Derived.Test.YtcdnilpdohknfaaGreatDoorJ38
import Derived.Test.YtcdnilpdohknfaaGreatDoorJ29
set_option linter.unusedVariables false
set_option linter.unusedSimpArgs false
set_option maxRecDepth 100000
set_option maxHeartbeats 16000000
namespace Go.Proofs.YtcdnilpdohknfaaGreatDoor
open Tryz
section
open Go.RowKit Go.Joins
def RlA(L:List Ty)(w:World)(e:Ending)(w':World):Prop:=∃(ad:Option Addr) (n c:Nat) (b:Bool),e=.returned (.tuple #[.slice ad n c,.bool b])/\(b=true↔OkP L)/\ZL w w'/\(b=true->∃rs:List Ru,n=L.length/\rs.length=n/\RuW w' ad L rs/\RuC rs)
def RlC(L:List Ty)(m:Nat)(a:Option Addr)(c:Nat)(w:World):Prop:=∀w',ZL w w'->Calls prog 33 #[.slice a m c] w' (RlA L w')
theorem Zo2(a:Option Addr)(m c:Nat)(n:Int)(w:World)(hm:m<=20000):Calls prog 34 #[.slice a m c,I n] w λe w'=>e=.returned (.bool (decide (0<=n/\n<(m:Int))))/\w'=w:=by
 have CB:=J (λw9=>ZgE n 0 ((m:Int)-1) w9);have HD:Hid (decide (0<=n/\n<=(m:Int)-1)=decide (0<=n/\n<(m:Int))):=J (by congr 1;exact propext ⟨λh=>⟨h.1,by omega⟩,λh=>⟨h.1,by omega⟩⟩);rw[HD.out]at CB;generalize decide (0<=n/\n<(m:Int))=B at CB;clear HD;go_enter func34,ntmps34
 go_wp2_with (go_at_call 64;refine Zc (CB.out _) ?_)
 go_ret;exact⟨rfl,rfl⟩
def RfA(L:List Ty)(n:Int)(s:ZB)(w:World)(e:Ending)(w':World):Prop:=∃(ad:Option Addr) (m c:Nat) (b:Bool),e=.returned (.tuple #[.slice ad m c,.bool b])/\(b=true↔OkP L/\(0<=n/\n<L.length)/\ZD s=true)/\ZL w w'/\(b=true->∃rs:List Ru,m=L.length/\rs.length=m/\RuW w' ad L rs/\RuC rs)
theorem ZoS(L:List Ty)(m:Nat)(a:Option Addr)(c:Nat)(n:Int)(s:ZB)(w:World)(hZ:L.length<=20000)(CR:RlC L m a c w)(hs:s.size<=20000)(hE:Zg1 w):
  Calls prog 27 #[.slice a m c,I n,.string s] w (RfA L n s w):=by
 have C1:=J (CR w (Ze _ _));have HE:=J hE;clear CR hE;go_enter func27,ntmps27
 go_wp2_with fail
 refine C1.out.mono ?_;rintro e w1 ⟨ad,k,c2,b,rfl,hb,hb1,hv⟩;have HB:=J hb;have HB1:=J hb1;have HV:=J hv;clear hb hb1 hv C1;cases b
 ·have HN:Hid (¬(OkP L/\(0<=n/\n<L.length)/\ZD s=true)):=J (λe=>Bool.noConfusion (HB.out.2 e.1));go_wp2;go_ret2;exact⟨ad,k,c2,false,rfl,ZbC HN.out,HB1.out,λe=>(by cases e)⟩
 have HOK:Hid (OkP L):=J (HB.out.1 rfl);obtain⟨rs,hk,hl,hW,hC⟩:=HV.out rfl;have HK:=J hk;have HW:=J hW;have HC:=J hC;have HLR:=J hl;clear HB HV hW hC hl;have CH:=J (λw9=>Zo2 ad k c2 n w9 (by omega));obtain⟨z,hz⟩:=ZX (decide (0<=n/\n<(k:Int)));rw[hz]at CH;have HZ:Hid (z=true↔0<=n/\n<(L.length:Int)):=J (by rw[<-hz,Z6,HK.out]);clear hz hk;cases z
 ·have HN:Hid (¬(OkP L/\(0<=n/\n<L.length)/\ZD s=true)):=J (λe=>Bool.noConfusion (HZ.out.2 e.2.1));go_wp2_with (go_at_call 34;refine Zc (CH.out _) ?_)
  go_ret2;exact⟨ad,k,c2,false,rfl,ZbC HN.out,HB1.out,λe=>(by cases e)⟩
 have HNN:Hid (0<=n/\n<(L.length:Int)):=J (HZ.out.1 rfl);have CP:=J (Zqh s w1 (by omega) (ZbB HE.out HB1.out).2.2.2);obtain⟨y,hy⟩:=ZX (ZD s);rw[hy]at CP;have HY:=J hy;clear hy HZ;go_wp2_with (first|(go_at_call 34;refine Zc (CH.out _) ?_)|(go_at_call 49;refine ZM CP.out ?_;rintro w5 hb5;have HB5:=J hb5;clear hb5))
 go_ret2;exact⟨ad,k,c2,y,rfl,⟨λe=>⟨HOK.out,HNN.out,HY.out.trans e⟩,λe=>HY.out.symm.trans e.2.2⟩,Zp HB1.out HB5.out,λ_=>⟨rs,HK.out,HLR.out,ZgV HW.out HB5.out,HC.out⟩⟩
theorem ZzI{L:List Ty}{m c:Nat}{a:Option Addr}{w w1:World}(h:RlC L m a c w)(hb:ZL w w1):RlC L m a c w1:=λw' h'=>h w' (Zp hb h')
theorem ZgP(L:List Ty)(m:Nat)(a:Option Addr)(c:Nat)(n:Int)(s:ZB)(w:World)(hZ:L.length<=20000)(CR:RlC L m a c w)(hs:s.size<=4000)(hE:Zg1 w):
  Calls prog 9 #[.slice a m c,I n,.string s] w (ZT (vaO L n s) w):=by
 have C1:=J (ZoS L m a c n s w hZ CR (by omega) hE);clear CR hE;go_enter func9,ntmps9
 go_wp2_with fail
 refine C1.out.mono ?_;rintro e w1 ⟨ad,k,c2,b,rfl,hb,hb1,hv⟩;have HB:=J hb;have HB1:=J hb1;have HV:=J hv;clear hb hb1 hv C1;cases b
 ·have HN:Hid (vaO L n s=none):=J (Zuc (λe=>Bool.noConfusion (HB.out.2 e)));go_wp2;go_ret2;exact Zim HN.out HB1.out
 obtain⟨h1,h2,h3⟩:=HB.out.1 rfl;obtain⟨rs,hk,hl,hW,hC⟩:=HV.out rfl;obtain⟨p,rfl⟩:∃p:Nat,n=p:=⟨n.toNat,by omega⟩;have HVO:Hid (vaO L p s=Zq L p s):=J (by rw[ZAu h1 h2 h3];rfl);have CV:=J (ZtV L rs ad k c2 hC hl (by omega) p (by omega) (λj hj=>h1.2 j (by omega)) s w1 hs h3 hW);unfold ZT Zf0 at CV;obtain⟨T,hT⟩:=ZX ((Zq L p s).getD ⟨#[]⟩);obtain⟨ok,hok⟩:=ZX ((Zq L p s).isSome);rw[hT,hok]at CV;have HT:Hid (Zf0 (Zq L p s)=.tuple #[.string T,.bool ok]):=J (by unfold Zf0;rw[hT,hok]);clear HB HV hW hC hl hk h1 h2 h3 hT hok;go_wp2_with fail
 refine ZM CV.out ?_;rintro w2 hb2;have HB2:=J (Zp HB1.out hb2);clear hb2 CV;go_wp2;go_ret2;exact⟨by rw[HVO.out,HT.out];rfl,HB2.out⟩
theorem ZxR(L:List Ty)(m:Nat)(a:Option Addr)(c:Nat)(n:Int)(s t:ZB)(w:World)(hZ:L.length<=20000)(CR:RlC L m a c w)(hs:s.size<=4000)(ht:t.size<=4000)(hE:Zg1 w):
  Calls prog 13 #[.slice a m c,I n,.string s,.string t] w (BlA (saP L n s t) w):=by
 have C1:=J (ZgP L m a c n s w hZ CR hs hE);have C2:=J (λw2 (h2:ZL w w2)=>ZgP L m a c n t w2 hZ (ZzI CR h2) ht (ZbB hE h2));have HSA:Hid (saP L n s t↔(vaO L n s).isSome=true/\vaO L n s=vaO L n t):=J Iff.rfl;generalize vaO L n s=o1 at C1 HSA;generalize vaO L n t=o2 at C2 HSA;generalize saP L n s t=P at HSA ⊢;unfold ZT Zf0 at C1 C2;clear CR hE;cases o1 with
 |none=>
  have HN:Hid (¬P):=J (λe=>by have:=(HSA.out.1 e).1;cases this);simp only[Option.getD_none,Option.isSome_none]at C1;cases o2 with
  |none=>
   simp only[Option.getD_none,Option.isSome_none]at C2;go_enter func13,ntmps13
   go_wp2_with (go_at_call 9;first|(refine ZM C1.out ?_;rintro w1 hb1;have HB1:=J hb1;clear hb1 C1)|(refine ZM (C2.out _ HB1.out) ?_;rintro w2 hb2;have HB2:=J (Zp HB1.out hb2);clear hb2))
   go_ret;exact ZdQ HN.out HB2.out
  |some v2=>
   simp only[Option.getD_some,Option.isSome_some]at C2;go_enter func13,ntmps13
   go_wp2_with (go_at_call 9;first|(refine ZM C1.out ?_;rintro w1 hb1;have HB1:=J hb1;clear hb1 C1)|(refine ZM (C2.out _ HB1.out) ?_;rintro w2 hb2;have HB2:=J (Zp HB1.out hb2);clear hb2))
   go_ret;exact ZdQ HN.out HB2.out
 |some v1=>
  simp only[Option.getD_some,Option.isSome_some]at C1;cases o2 with
  |none=>
   have HN:Hid (¬P):=J (λe=>by have:=(HSA.out.1 e).2;cases this);simp only[Option.getD_none,Option.isSome_none]at C2;go_enter func13,ntmps13
   go_wp2_with (go_at_call 9;first|(refine ZM C1.out ?_;rintro w1 hb1;have HB1:=J hb1;clear hb1 C1)|(refine ZM (C2.out _ HB1.out) ?_;rintro w2 hb2;have HB2:=J (Zp HB1.out hb2);clear hb2))
   go_ret;exact ZdQ HN.out HB2.out
  |some v2=>
   simp only[Option.getD_some,Option.isSome_some]at C2;cases he:(v1.toList==v2.toList)
   ·have HN:Hid (¬P):=J (λe=>by have:=(HSA.out.1 e).2;cases this;exact ZqV he rfl);go_enter func13,ntmps13
    go_wp2_with (go_at_call 9;first|(refine ZM C1.out ?_;rintro w1 hb1;have HB1:=J hb1;clear hb1 C1)|(refine ZM (C2.out _ HB1.out) ?_;rintro w2 hb2;have HB2:=J (Zp HB1.out hb2);clear hb2))
    go_ret;exact ZdQ HN.out HB2.out
   ·have HN:Hid P:=J (HSA.out.2 ⟨rfl,by rw[Zpk he]⟩);go_enter func13,ntmps13
    go_wp2_with (go_at_call 9;first|(refine ZM C1.out ?_;rintro w1 hb1;have HB1:=J hb1;clear hb1 C1)|(refine ZM (C2.out _ HB1.out) ?_;rintro w2 hb2;have HB2:=J (Zp HB1.out hb2);clear hb2))
    go_ret;exact Zpl HN.out HB2.out

def ZqF:Prop:=∀(L:List Ty) (m:Nat) (a:Option Addr) (c:Nat) (w:World),L.length=m->Zwr L->(∀j,j<m->-1000000<=(tyA L j).bs/\(tyA L j).bs<=1000000)->ZiL w a L w.heap.size->Zg1 w->Calls prog 33 #[.slice a m c] w (RlA L w)
structure Lw (L:List Ty) (m:Nat) (ad:Option Addr) (c:Nat) (w:World):Prop where
 len:L.length=m
 few:m<=6
 siz:Zwr L
 bas:∀j,j<m->-1000000<=(tyA L j).bs/\(tyA L j).bs<=1000000
 at_:ZiL w ad L w.heap.size
 env:Zg1 w
 sim:ZBU 29 L m ad c
section
variable {L:List Ty} {m c:Nat} {ad:Option Addr} {w w1:World}
theorem ZqI(h:Lw L m ad c w)(hb:ZL w w1):Lw L m ad c w1:=⟨h.len,h.few,h.siz,h.bas,ZcM (ZcP h.at_ hb) hb.size,ZbB h.env hb,h.sim⟩
theorem ZCs{B:Nat}{Q:List Tq}(h:TqO B w ad m c Q)(hk:Zqm Q)(hm:m<=6)(hE:Zg1 w):Lw (tqL Q) m ad c w:=
 ⟨by unfold tqL;rw[ZDD];exact h.1,hm,Zjp hk (by rw[h.1];omega),λj hj=>by
  have hj2:j<Q.length:=by rw[h.1];exact hj
  have e:tyA (tqL Q) j=(tqA Q j).x:=Zyv hj2;rw[e];have:=(hk _ (ZmA hj2)).2.2.2.2.2.2.1;omega,ZlX h,hE,Zgy h hk (by omega)⟩
theorem ZBp(h:Lw L m ad c w)(hR:ZqF):RlC L m ad c w:=λw' hb=>hR L m ad c w' h.len h.siz h.bas (ZqI h hb).at_ (ZqI h hb).env
theorem ZCN(h:Lw L m ad c w):L.length<=20000:=by have:=h.len;have:=h.few;omega
theorem ZCZ(h:Lw L m ad c w)(hR:ZqF)(n:Int)(s:ZB)(hs:s.size<=4000):Calls prog 9 #[.slice ad m c,I n,.string s] w (ZT (vaO L n s) w):=ZgP L m ad c n s w (ZCN h) (ZBp h hR) hs h.env
theorem ZwL(h:Lw L m ad c w)(hR:ZqF)(n:Int)(s t:ZB)(hs:s.size<=4000)(ht:t.size<=4000):Calls prog 13 #[.slice ad m c,I n,.string s,.string t] w (BlA (saP L n s t) w):=ZxR L m ad c n s t w (ZCN h) (ZBp h hR) hs ht h.env
end
noncomputable def pB (P:Prop):Bool:=@decide P (Classical.propDecidable P)
theorem ZAf{P:Prop}:pB P=true↔P:=by unfold pB;exact @decide_eq_true_iff P (Classical.propDecidable P)
theorem Zwg{P:Prop}{w w':World}{e:Ending}(h:BlA P w e w'):e=.returned (.bool (pB P))/\ZL w w':=by
 obtain⟨B,rfl,hB,hb⟩:=h;have:B=pB P:=by
  cases B
  ·cases e:pB P
   ·rfl
   ·have:=hB.2 (ZAf.1 e);cases this
  ·exact(ZAf.2 (hB.1 rfl)).symm
 rw[this];exact⟨rfl,hb⟩
theorem ZBZ{P Q:Prop}(h:P↔Q):pB P=pB Q:=by rw[propext h]
theorem ZyJ(L:List Ty)(n:Int)(s t:ZB):saP L n s t↔saP L n t s:=⟨λh=>⟨by rw[<-h.2];exact h.1,h.2.symm⟩,λh=>⟨by rw[<-h.2];exact h.1,h.2.symm⟩⟩
theorem Zyd(L:List Ty)(n:Int)(s:ZB):pB (saP L n s s)=(vaO L n s).isSome:=by
 cases e:(vaO L n s).isSome
 ·cases e2:pB (saP L n s s)
  ·rfl
  ·have:=(ZAf.1 e2).1;rw[e]at this;cases this
 ·exact ZAf.2 ⟨e,rfl⟩
end
end Go.Proofs.YtcdnilpdohknfaaGreatDoor
