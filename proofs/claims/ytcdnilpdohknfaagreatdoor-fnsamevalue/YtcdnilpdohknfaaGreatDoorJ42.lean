import Derived.Test.YtcdnilpdohknfaaGreatDoorJ39
set_option linter.unusedVariables false
set_option linter.unusedSimpArgs false
set_option maxRecDepth 100000
set_option maxHeartbeats 16000000
namespace Go.Proofs.YtcdnilpdohknfaaGreatDoor
open Tryz
section
open Go.RowKit Go.Joins
theorem Zab(hR:ZqF)(a0:Option Addr)(len0 cap0:Nat)(zs:List Int)(w:World)(hl:zs.length=len0)(hz:∀x∈zs,0<=x/\x<=255)(hn:len0<=1048576)(hs:Zpw w a0 zs w.heap.size)(hE:Zg1 w):
  Calls prog 6 #[.slice a0 len0 cap0] w λe w'=>e=.returned (.bool true)/\ZL w w':=by
 have HS:=J hs;have HL:=J hl;have HZ:=J hz;have HE:=J hE;have HR:=J hR;have hn':¬(1048576:Int)<(len0:Int):=by omega
 clear hs hl hz hE hR;go_enter func6,ntmps6
 go_wp2_with (go_at_call 7;go_in)
 refine(ZyU a0 len0 cap0 zs w HL.out HZ.out hn HS.out).mono ?_;rintro e w1 ⟨B,ad,m,c,Q,k,s,t,rfl,hm,ho,hk,-,hs,ht,hb⟩;have HB1:=J hb;have HW1:Hid (Lw (tqL Q) m ad c w1):=J (ZCs ho hk hm.2 (ZbB HE.out hb));clear hb ho hk;generalize tqL Q=L at HW1;have CI:=J (λw9 (h9:ZL w1 w9) (x y:ZB) (hx:x.size<=4000) (hy:y.size<=4000)=>(ZwL (ZqI HW1.out h9) HR.out k x y hx hy).mono (λe w' h=>Zwg h));have CS:=J (λw9 (h9:ZL w1 w9)=>(ZyN L m ad c k s t w9 HW1.out.len HW1.out.siz HW1.out.sim (by omega) (by omega) (ZqI HW1.out h9).at_).mono (λe w' h=>Zwg h));have CV:=J (λw9 (h9:ZL w1 w9)=>ZCZ (ZqI HW1.out h9) HR.out k s (by omega));have C1:=J (λw9 h9=>CI.out w9 h9 s t (by omega) (by omega));have C2:=J (λw9 h9=>CI.out w9 h9 t s (by omega) (by omega));have C3:=J (λw9 h9=>CI.out w9 h9 s s (by omega) (by omega));rw[<-ZBZ (ZyJ L k s t)]at C2;rw[Zyd L k s]at C3;have HIM:Hid (pB (saP L k s t)=true->(vaO L k s).isSome=true):=J (λh=>(ZAf.1 h).1);unfold ZT Zf0 at CV;generalize pB (saP L k s t)=z at C1 C2 CS HIM;generalize (vaO L k s).isSome=ok at C3 CV HIM;generalize (vaO L k s).getD ⟨#[]⟩=T at CV;have H0:=J (Ze w1.heap.size w1);clear CI HS HL HZ HR HE hm hs ht;go_wp2_with fail
 refine ZM (C1.out _ H0.out) ?_;rintro w2 hb2;have HB2:=J hb2;clear hb2 C1;go_wp2_with fail
 refine ZM (CV.out _ HB2.out) ?_;rintro w3 hb3;have HB3:=J (Zp HB2.out hb3);clear hb3 CV;go_wp2_with fail
 refine ZM (CS.out _ HB3.out) ?_;rintro w4 hb4;have HB4:=J (Zp HB3.out hb4);clear hb4 CS;have hzz:(z==z)=true:=by cases z<;>rfl
 go_wp2_with fail
 refine ZM (C2.out _ HB4.out) ?_;rintro w5 hb5;have HB5:=J (Zp HB4.out hb5);clear hb5 C2;go_wp2_with fail
 refine ZM (C3.out _ HB5.out) ?_;rintro w6 hb6;have HB6:=J (Zp HB5.out hb6);clear hb6 C3;have hoo:(ok==ok)=true:=by cases ok<;>rfl
 cases z
 ·go_wp2;go_ret;exact⟨rfl,Zp HB1.out HB6.out⟩
 ·have hok:ok=true:=HIM.out rfl;subst hok;go_wp2;go_ret;exact⟨rfl,Zp HB1.out HB6.out⟩
end
end Go.Proofs.YtcdnilpdohknfaaGreatDoor
