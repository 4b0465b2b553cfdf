import Derived.Test.YtcdnilpdohknfaaGreatDoorJ26
set_option linter.unusedVariables false
set_option linter.unusedSimpArgs false
set_option maxRecDepth 100000
set_option maxHeartbeats 16000000
namespace Go.Proofs.YtcdnilpdohknfaaGreatDoor
open Tryz
section
open Go.RowKit Go.Joins
def ZBU(f:Nat)(L:List Ty)(m:Nat)(a:Option Addr)(c:Nat):Prop:=∀w,ZiL w a L w.heap.size->Calls prog f #[.slice a m c] w (BlA (OkP L) w)
theorem Zlg{o:Option ZB}{v:ZB}{b:Bool}(h1:o.getD ⟨#[]⟩=v)(h2:o.isSome=b):Zf0 o=.tuple #[.string v,.bool b]:=by subst h1;subst h2;rfl
theorem Zhz(L:List Ty)(m:Nat)(a:Option Addr)(c:Nat)(n:Int)(s:ZB)(w:World)(hD:L.length=m)(hZ:Zwr L)(CS:ZBU 29 L m a c)(hs:s.size<=4000)(hr:ZiL w a L w.heap.size):
  Calls prog 10 #[.slice a m c,I n,.string s] w (ZT (vaO L n s) w):=by
 have HR:=J hr;have HD:=J hD;have HZ:=J hZ;have C1:=J (CS w hr);have hmz:m<=20000:=by rw[<-hD];exact hZ.1
 clear hr hD hZ CS;go_enter func10,ntmps10
 go_wp2_with fail
 refine C1.out.mono ?_;rintro e w1 ⟨B,rfl,hB,hb1⟩;have HB1:=J hb1;have HBB:=J hB;clear hb1 hB C1;cases B
 ·have HN:Hid (vaO L n s=none):=J (Zuc (λh=>by have:=HBB.out.2 h.1;cases this));go_wp2;go_ret2;exact Zim HN.out HB1.out
 have HOK:=J (HBB.out.1 rfl);clear HBB;by_cases hn:0<=n/\n<=(m:Int)-1
 ·have CT:=J (λw9=>ZrN s w9 (by omega));obtain⟨z,hz⟩:=ZX (ZD s);have HPL:=J hz;rw[hz]at CT;clear hz;cases z
  ·have HN:Hid (vaO L n s=none):=J (Zuc (λh=>by have:=h.2.2;rw[HPL.out]at this;cases this));go_wp2_with (first|(go_at_call 30;refine Zc (Zby _ _ _ _ hn) ?_)|(go_at_call 31;refine ZM (CT.out _) ?_;rintro w2 hb2;have HB2:=J (Zp HB1.out hb2);clear hb2))
   go_ret2;exact Zim HN.out HB2.out
  ·obtain⟨p,rfl⟩:∃p:Nat,n=p:=⟨n.toNat,by omega⟩;have hV:vaO L (p:Int) s=Zq L p s:=by rw[ZAu HOK.out ⟨by omega,by rw[HD.out];omega⟩ HPL.out,ZDK]
   have CV:=J (λw2 (h2:ZL w w2)=>ZtI L m a c (by rw[HD.out];exact Zb _) hmz HZ.out p (by omega) (ZBe HOK.out (by rw[HD.out];omega)) s w2 hs HPL.out (ZcM (ZcP HR.out h2) h2.size));rw[<-hV]at CV;clear hV;unfold ZT at CV;obtain⟨T,hT⟩:=ZX ((vaO L (p:Int) s).getD ⟨#[]⟩);obtain⟨B,hB⟩:=ZX ((vaO L (p:Int) s).isSome);have HO:=J (Zlg hT hB);rw[HO.out]at CV;clear hT hB;go_wp2_with (first|(go_at_call 30;refine Zc (Zby _ _ _ _ hn) ?_)|(go_at_call 31;refine ZM (CT.out _) ?_;rintro w2 hb2;have HB2:=J (Zp HB1.out hb2);clear hb2)|(go_at_call 32;refine ZM (CV.out _ HB2.out) ?_;rintro w3 hb3;have HB3:=J (Zp HB2.out hb3);clear hb3))
   go_ret2;exact⟨by rw[HO.out];rfl,HB3.out⟩
 ·have HN:Hid (vaO L n s=none):=J (Zuc (λh=>hn (by have:=h.2.1;rw[HD.out]at this;omega)));go_wp2_with (go_at_call 30;refine Zc (ZbY _ _ _ _ hn) ?_)
  go_ret2;exact Zim HN.out HB1.out
theorem ZyN(L:List Ty)(m:Nat)(a:Option Addr)(c:Nat)(n:Int)(s t:ZB)(w:World)(hD:L.length=m)(hZ:Zwr L)(CS:ZBU 29 L m a c)(hs:s.size<=4000)(ht:t.size<=4000)(hr:ZiL w a L w.heap.size):
  Calls prog 19 #[.slice a m c,I n,.string s,.string t] w (BlA (saP L n s t) w):=by
 have C1:=J (Zhz L m a c n s w hD hZ CS hs hr);have C2:=J (λw2 (h2:ZL w w2)=>Zhz L m a c n t w2 hD hZ CS ht (ZcM (ZcP hr h2) h2.size));have HSA:Hid (saP L n s t↔(vaO L n s).isSome=true/\vaO L n s=vaO L n t):=J Iff.rfl;generalize vaO L n s=o1 at C1 HSA;generalize vaO L n t=o2 at C2 HSA;generalize saP L n s t=P at HSA ⊢;clear hr hD hZ CS;go_enter func19,ntmps19
 go_wp2_with fail
 refine ZM C1.out ?_;rintro w1 hb1;have HB1:=J hb1;clear hb1 C1;cases o1 with
 |none=>
  simp only[Zf0,Option.getD_none,Option.isSome_none];go_wp2_with fail
  refine ZM (C2.out _ HB1.out) ?_;rintro w2 hb2;have HB2:=J (Zp HB1.out hb2);clear hb2 C2;obtain⟨T,hT⟩:=ZX (o2.getD ⟨#[]⟩);obtain⟨B,hB⟩:=ZX o2.isSome;rw[Zlg hT hB];have HN:Hid (¬P):=J (λh=>by have:=(HSA.out.1 h).1;cases this);clear hT hB;go_wp2;go_ret;exact ZdQ HN.out HB2.out
 |some v1=>
  simp only[Zf0,Option.getD_some,Option.isSome_some];go_wp2_with fail
  refine ZM (C2.out _ HB1.out) ?_;rintro w2 hb2;have HB2:=J (Zp HB1.out hb2);clear hb2 C2;cases o2 with
  |none=>
   simp only[Zf0,Option.getD_none,Option.isSome_none];have HN:Hid (¬P):=J (λh=>by have:=(HSA.out.1 h).2;cases this);go_wp2;go_ret;exact ZdQ HN.out HB2.out
  |some v2=>
   simp only[Zf0,Option.getD_some,Option.isSome_some];cases he:(v1.toList==v2.toList)
   ·have HN:Hid (¬P):=J (λh=>by have:=(HSA.out.1 h).2;cases this;simp at he);go_wp2;go_ret;exact ZdQ HN.out HB2.out
   ·have HY:Hid P:=J (HSA.out.2 ⟨rfl,by rw[Zpk he]⟩);go_wp2;go_ret;exact Zpl HY.out HB2.out
def Zg1(w:World):Prop:=(∃q,w.cell? ⟨2,0,none⟩=some (I q))/\Zjk 3 w/\Lib.TabIs prog w "internal/strconv.uint64pow10" .u64 Lib.pow10Tab/\Ztz w
theorem ZbB{w w':World}(h:Zg1 w)(hb:ZL w w'):Zg1 w':=by
 obtain⟨⟨q,h1⟩,h2,h3,h4⟩:=h;exact⟨⟨q,(hb.cell (p:=⟨2,0,none⟩) (World.block_lt_of_cell? _ _ h1)).trans h1⟩,Zdt h2 hb,tab_stays (g:=4) (by kernel_rfl) h3 hb (Zb _),Zo3 h4 hb⟩
section
variable (s:ZB) (w:World)
theorem ZCW(hpl:ZD s=true):Calls prog 81 #[.string s] w (ZT (avO 1 s) w):=by
 have H:Hid (avO 1 s=some s):=J (by rw[ZCf (by rw[ZAD];exact hpl),ZuO]);go_enter func81,ntmps81
 go_wp2;go_ret2;exact ZlS H.out (Ze _ _)
theorem ZCR(hpl:ZD s=true):Calls prog 82 #[.string s] w (ZT (avO 2 s) w):=by
 have hz:=Zb5 hpl;have H:Hid (avO 2 s=some (jnB s)):=J (by rw[ZCf (by rw[ZxJ,ZjE hz];exact hpl),Ztc]);have CW:Hid (Calls prog 17 #[.string s,I 2] w λe w'=>e=.returned (.string (jnB s))/\ZL w w'):=J (ZgA s 2 w (by omega));generalize jnB s=T at CW H;go_enter func82,ntmps82
 go_wp2_with (go_at_call 17;refine ZM CW.out ?_;rintro w1 hb1;have HB1:=J hb1;clear hb1)
 go_ret2;exact ZlS H.out HB1.out
theorem ZCP(hs:s.size<=20000):Calls prog 83 #[.string s] w (ZT (avO 3 s) w):=by
 have hj:=Zer s;have H:Hid (avO 3 s=if ZcO (jnB s)=true then some (jnB s) else none):=J (by unfold avO;rw[Zyu,ZtK]);have CW:Hid (Calls prog 17 #[.string s,I 2] w λe w'=>e=.returned (.string (jnB s))/\ZL w w'):=J (ZgA s 2 w (by omega));generalize jnB s=T at CW H hj;have CN:=J (λw9=>Zv8 T w9 (by unfold maxLen;omega));generalize ZcO T=z at CN H;cases z
 ·have HN:Hid (avO 3 s=none):=J (by rw[H.out,Za (by decide)]);go_enter func83,ntmps83
  go_wp2_with (first|(go_at_call 17;refine ZM CW.out ?_;rintro w1 hb1;have HB1:=J hb1;clear hb1)|(go_at_call 107;refine Zc (CN.out _) ?_))
  go_ret2;exact Zim HN.out HB1.out
 ·have HY:Hid (avO 3 s=some T):=J (by rw[H.out,Zd rfl]);go_enter func83,ntmps83
  go_wp2_with (first|(go_at_call 17;refine ZM CW.out ?_;rintro w1 hb1;have HB1:=J hb1;clear hb1)|(go_at_call 107;refine Zc (CN.out _) ?_))
  go_ret2;exact ZlS HY.out HB1.out
theorem ZCS(hs:s.size<=20000):Calls prog 84 #[.string s] w (ZT (avO 4 s) w):=by
 have hj:=Zer s;have H:Hid (avO 4 s=if (Zo0 (jnB s)||Zva (jnB s))=true then some (if Zo0 (jnB s)=true then ZhD else ZeY) else none):=J (by unfold avO;rw[Zzo,Zto]);have CW:Hid (Calls prog 17 #[.string s,I 2] w λe w'=>e=.returned (.string (jnB s))/\ZL w w'):=J (ZgA s 2 w (by omega));generalize jnB s=T at CW H hj;have HTr:Hid (Zo0 T=((T.toList==[116,114,117,101])||(T.toList==[49]))):=J rfl;have HFa:Hid (Zva T=((T.toList==[102,97,108,115,101])||(T.toList==[48]))):=J rfl;obtain⟨z1,hz1⟩:∃z,(T.toList==[116,114,117,101])=z:=⟨_,rfl⟩;obtain⟨z2,hz2⟩:∃z,(T.toList==[49])=z:=⟨_,rfl⟩;obtain⟨z3,hz3⟩:∃z,(T.toList==[102,97,108,115,101])=z:=⟨_,rfl⟩;obtain⟨z4,hz4⟩:∃z,(T.toList==[48])=z:=⟨_,rfl⟩;rw[hz1,hz2]at HTr;rw[hz3,hz4]at HFa;cases z1
 ·cases z2
  ·cases z3
   ·cases z4
    ·have HN:Hid (avO 4 s=none):=J (by rw[H.out,HTr.out,HFa.out];rfl);go_enter func84,ntmps84
     go_wp2_with (go_at_call 17;refine ZM CW.out ?_;rintro w1 hb1;have HB1:=J hb1;clear hb1)
     go_ret2;exact Zim HN.out HB1.out
    ·have HY:Hid (avO 4 s=some ZeY):=J (by rw[H.out,HTr.out,HFa.out];rfl);go_enter func84,ntmps84
     go_wp2_with (go_at_call 17;refine ZM CW.out ?_;rintro w1 hb1;have HB1:=J hb1;clear hb1)
     go_ret2;exact ZlS HY.out HB1.out
   ·have HY:Hid (avO 4 s=some ZeY):=J (by rw[H.out,HTr.out,HFa.out];rfl);go_enter func84,ntmps84
    go_wp2_with (go_at_call 17;refine ZM CW.out ?_;rintro w1 hb1;have HB1:=J hb1;clear hb1)
    go_ret2;exact ZlS HY.out HB1.out
  ·have HY:Hid (avO 4 s=some ZhD):=J (by rw[H.out,HTr.out];rfl);go_enter func84,ntmps84
   go_wp2_with (go_at_call 17;refine ZM CW.out ?_;rintro w1 hb1;have HB1:=J hb1;clear hb1)
   go_ret2;exact ZlS HY.out HB1.out
 ·have HY:Hid (avO 4 s=some ZhD):=J (by rw[H.out,HTr.out];rfl);go_enter func84,ntmps84
  go_wp2_with (go_at_call 17;refine ZM CW.out ?_;rintro w1 hb1;have HB1:=J hb1;clear hb1)
  go_ret2;exact ZlS HY.out HB1.out
theorem ZCl(hs:s.size<=20000)(hE:Zg1 w):Calls prog 85 #[.string s] w (ZT (avO 5 s) w):=by
 have HE:=J hE;have hj:=Zer s;have H:Hid (avO 5 s=if Zka (jnB s)=true then some (Zgj (jnB s)) else none):=J (by unfold avO;rw[Zlr,Zmp]);have CW:Hid (Calls prog 17 #[.string s,I 2] w λe w'=>e=.returned (.string (jnB s))/\ZL w w'):=J (ZgA s 2 w (by omega));generalize jnB s=T at CW H hj;have CR:=J (λw1 (h1:ZL w w1)=>by obtain⟨⟨q,hq⟩,-⟩:=ZbB hE h1;exact Zse T q w1 (by omega) hq);have HDO:Hid (Zka T=(ZC T).2.2.2):=J rfl;have HDT:Hid (Zgj T=ZeV (ZC T).1 (ZC T).2.1 (ZC T).2.2.1):=J rfl;have hsz:=ZdY T;generalize ZC T=R at CR HDO HDT hsz;obtain⟨n9,s9,c9,o9⟩:=R;unfold Zil at CR;simp only at CR HDO HDT hsz;have CT:=J (λw1=>Zyj n9 s9 c9 w1 (by unfold maxLen;omega));rw[<-HDT.out]at CT;rw[HDO.out]at H;generalize Zgj T=V at CT H;clear hE hj hsz HDO HDT;cases o9
 ·have HN:Hid (avO 5 s=none):=J (by rw[H.out,Za (by decide)]);go_enter func85,ntmps85
  go_wp2_with (first|(go_at_call 17;refine ZM CW.out ?_;rintro w1 hb1;have HB1:=J hb1;clear hb1)|(go_at_call 122;refine ZM (CR.out _ HB1.out) ?_;rintro w2 hb2;have HB2:=J (Zp HB1.out hb2);clear hb2))
  go_ret2;exact Zim HN.out (HB2.out.alloc HB2.out.size _)
 ·have HY:Hid (avO 5 s=some V):=J (by rw[H.out,Zd rfl]);go_enter func85,ntmps85
  go_wp2_with (first|(go_at_call 17;refine ZM CW.out ?_;rintro w1 hb1;have HB1:=J hb1;clear hb1)|(go_at_call 122;refine ZM (CR.out _ HB1.out) ?_;rintro w2 hb2;have HB2:=J (Zp HB1.out hb2);clear hb2)|(go_at_call 123;refine ZM (CT.out _) ?_;rintro w3 hb3;have HB3:=J (Zp HB2.out (ZdA hb3));clear hb3))
  go_ret2;exact ZlS HY.out HB3.out
theorem ZCV(hs:s.size<=20000)(hE:Zg1 w):Calls prog 86 #[.string s] w (ZT (avO 6 s) w):=by
 have H:Hid (avO 6 s=if Zif s=true then avO 5 s else none):=J (by
  unfold avO;rw[Zl7,Zlr,Zo4,Zmp,Zu9];cases Zif s<;>cases Zka (jnB s)<;>rfl)
 have CC:Hid (∀w1,Calls prog 124 #[.string s,.string ⟨#[46]⟩] w1 λe w'=>e=.returned (.bool (!Zif s))/\w'=w1):=J (λw1=>by
  have:=ZE0 s 46 w1;rw[Zr3]at this;exact this)
 generalize Zif s=z at CC H;cases z
 ·have HN:Hid (avO 6 s=none):=J (by rw[H.out,Za (by decide)]);simp only[Bool.not_false]at CC;go_enter func86,ntmps86
  go_wp2_with (go_at_call 124;refine Zc (CC.out _) ?_)
  go_ret2;exact Zim HN.out (Ze _ _)
 ·have HY:Hid (avO 6 s=avO 5 s):=J (by rw[H.out,Zd rfl]);have C5:=J (ZCl s w hs hE);unfold ZT at C5;rw[HY.out];clear HY H;generalize avO 5 s=o at C5 ⊢;have CO:Hid (∀v b,o.getD ⟨#[]⟩=v->o.isSome=b->Zf0 o=.tuple #[.string v,.bool b]):=J (λv b h1 h2=>by subst h1;subst h2;rfl);have HO:=J (CO.out _ _ rfl rfl);generalize o.getD ⟨#[]⟩=T at HO;generalize o.isSome=B at HO;rw[HO.out]at C5;simp only[Bool.not_true]at CC;go_enter func86,ntmps86
  go_wp2_with (first|(go_at_call 124;refine Zc (CC.out _) ?_)|(go_at_call 85;refine ZM C5.out ?_;rintro w2 hb2;have HB2:=J hb2;clear hb2))
  go_ret2;exact⟨by rw[HO.out];rfl,HB2.out⟩
theorem ZCM(hs:s.size<=20000)(hE:Zg1 w):Calls prog 87 #[.string s] w (ZT (avO 7 s) w):=by
 have HE:=J hE;have hj:=Zer s;have H:Hid (avO 7 s=if ZH (jnB s)=true then some (Zg6 (jnB s)) else none):=J (by unfold avO;rw[Zfm,ZfE]);have CW:Hid (Calls prog 17 #[.string s,I 2] w λe w'=>e=.returned (.string (jnB s))/\ZL w w'):=J (ZgA s 2 w (by omega));generalize jnB s=T at CW H hj;have CR:=J (λw1 (h1:ZL w w1)=>ZmQ T w1 (by omega) (ZbB hE h1).2.1);clear hE hj;rcases ZkI T with ⟨hr,hv⟩|⟨hr,hv⟩
 ·rw[hv]at CR;have HDT:Hid (Zg6 T=dtB (f0 T) (f1 T) (f2 T) (f3 T) (f4 T) (f5 T) (zI (Zu T)).1 (zI (Zu T)).2.1):=J rfl;generalize f0 T=a0 at CR HDT;generalize f1 T=a1 at CR HDT;generalize f2 T=a2 at CR HDT;generalize f3 T=a3 at CR HDT;generalize f4 T=a4 at CR HDT;generalize f5 T=a5 at CR HDT;generalize (zI (Zu T)).1=a6 at CR HDT;generalize (zI (Zu T)).2.1=a7 at CR HDT;have CT:=J (λw1 (h1:ZL w w1)=>ZxQ a0 a1 a2 a3 a4 a5 a6 a7 w1 (ZbB HE.out h1).2.1 (ZbB HE.out h1).2.2.1);rw[<-HDT.out]at CT;have HY:Hid (avO 7 s=some (Zg6 T)):=J (by rw[H.out,Zd hr]);generalize Zg6 T=V at CT HY;clear hv hr HDT H;go_enter func87,ntmps87
  go_wp2_with (first|(go_at_call 17;refine ZM CW.out ?_;rintro w1 hb1;have HB1:=J hb1;clear hb1)|(go_at_call 125;refine ZM (CR.out _ HB1.out) ?_;rintro w2 hb2;have HB2:=J (Zp HB1.out hb2);have X2:=J (Zcl w2 a0 a1 a2 a3 a4 a5 a6 a7 78);have C2:=J (HB2.out.alloc HB2.out.size (.cells #[I a0,I a1,I a2,I a3,I a4,I a5,.bool a6,I a7] 78));clear hb2;obtain⟨k0,k1,k2,k3,k4,k5,k6,k7,k8⟩:=X2.out;clear k0)|(go_at_call 126;refine ZM (CT.out _ C2.out) ?_;rintro w3 hb3;have HB3:=J (Zp C2.out hb3);clear hb3))
  go_ret2;exact ZlS HY.out HB3.out
 ·rw[hv]at CR;have HN:Hid (avO 7 s=none):=J (by rw[H.out,Za (by rw[hr];decide)]);clear hv hr H;go_enter func87,ntmps87
  go_wp2_with (first|(go_at_call 17;refine ZM CW.out ?_;rintro w1 hb1;have HB1:=J hb1;clear hb1)|(go_at_call 125;refine ZM (CR.out _ HB1.out) ?_;rintro w2 hb2;have HB2:=J (Zp HB1.out hb2);clear hb2))
  go_ret2;exact Zim HN.out (HB2.out.alloc HB2.out.size _)
end
theorem Zyk(k:Int)(a b:ZB)(w:World)(ha:a.size<=1048576)(hb:b.size<=1048576)(h7:k=7->ZH a=true/\ZH b=true)(hE:Zg1 w):
  Calls prog 128 #[I k,.string a,.string b] w λe w'=>e=.returned (I (ZeN k a b))/\ZL w w':=by
 by_cases hk:k=7
 ·subst hk;obtain⟨ra,rb⟩:=h7 rfl;have CA:=J (λw1 (h1:ZL w w1)=>ZmQ a w1 ha (ZbB hE h1).2.1);have CB:=J (λw1 (h1:ZL w w1)=>ZmQ b w1 hb (ZbB hE h1).2.1);have va:rdV a=.tuple #[.agg #[I (f0 a),I (f1 a),I (f2 a),I (f3 a),I (f4 a),I (f5 a),.bool (zI (Zu a)).1,I (zI (Zu a)).2.1],.bool true]:=by unfold rdV;rw[Zd ra]
  have vb:rdV b=.tuple #[.agg #[I (f0 b),I (f1 b),I (f2 b),I (f3 b),I (f4 b),I (f5 b),.bool (zI (Zu b)).1,I (zI (Zu b)).2.1],.bool true]:=by unfold rdV;rw[Zd rb]
  have HO:Hid (ZeN 7 a b=ZdX (f0 a) (f1 a) (f2 a) (f3 a) (f4 a) (f5 a) (zI (Zu a)).1 (zI (Zu a)).2.1 (f0 b) (f1 b) (f2 b) (f3 b) (f4 b) (f5 b) (zI (Zu b)).1 (zI (Zu b)).2.1):=J rfl;rw[va]at CA;rw[vb]at CB;have CC:=J (λw1 (h1:ZL w w1)=>Zp7 (f0 a) (f1 a) (f2 a) (f3 a) (f4 a) (f5 a) (zI (Zu a)).1 (zI (Zu a)).2.1 (f0 b) (f1 b) (f2 b) (f3 b) (f4 b) (f5 b) (zI (Zu b)).1 (zI (Zu b)).2.1 w1 (ZbB hE h1).2.1);rw[<-HO.out]at CC;clear va vb ra rb HO h7 hE;generalize f0 a=a0 at CA CC;generalize f1 a=a1 at CA CC;generalize f2 a=a2 at CA CC;generalize f3 a=a3 at CA CC;generalize f4 a=a4 at CA CC;generalize f5 a=a5 at CA CC;generalize (zI (Zu a)).1=a6 at CA CC;generalize (zI (Zu a)).2.1=a7 at CA CC;generalize f0 b=b0 at CB CC;generalize f1 b=b1 at CB CC;generalize f2 b=b2 at CB CC;generalize f3 b=b3 at CB CC;generalize f4 b=b4 at CB CC;generalize f5 b=b5 at CB CC;generalize (zI (Zu b)).1=b6 at CB CC;generalize (zI (Zu b)).2.1=b7 at CB CC;generalize ZeN 7 a b=O at CC ⊢;go_enter func128,ntmps128
  go_wp2_with fail
  refine ZM (CA.out _ (Ze _ _)) ?_;rintro w1 hb1;have HB1:=J hb1;have hal:=(Ze w1.heap.size w1).alloc (Zb _) (.cells #[I a0,I a1,I a2,I a3,I a4,I a5,.bool a6,I a7] 78);have X1:=J (Zcl w1 a0 a1 a2 a3 a4 a5 a6 a7 78);have C1:=J (Zp HB1.out hal);clear hb1 hal CA;go_wp2_with fail
  refine ZM (CB.out _ C1.out) ?_;rintro w2 hb2;have hal:=(Ze w2.heap.size w2).alloc (Zb _) (.cells #[I b0,I b1,I b2,I b3,I b4,I b5,.bool b6,I b7] 78);have X2:=J (ZbI (ZbI X1.out hb2) hal);have Y2:=J (Zcl w2 b0 b1 b2 b3 b4 b5 b6 b7 78);have C2:=J (Zp (Zp C1.out hb2) hal);clear hb2 hal CB;obtain⟨k0,k1,k2,k3,k4,k5,k6,k7,k8⟩:=X2.out;obtain⟨l0,l1,l2,l3,l4,l5,l6,l7,l8⟩:=Y2.out;clear k0 l0;go_wp2_with fail
  refine ZM (CC.out _ C2.out) ?_;rintro w3 hb3;have C3:=J (Zp C2.out hb3);clear hb3 CC;go_wp2;go_ret;exact⟨rfl,C3.out⟩
 ·have CA:=J (λw1 (h1:ZL w w1)=>by obtain⟨⟨q,hq⟩,-⟩:=ZbB hE h1;exact Zse a q w1 ha hq);have CB:=J (λw1 (h1:ZL w w1)=>by obtain⟨⟨q,hq⟩,-⟩:=ZbB hE h1;exact Zse b q w1 hb hq);have HO:Hid (ZeN k a b=Zho (ZC a).1 (ZC a).2.1 (ZC a).2.2.1 (ZC b).1 (ZC b).2.1 (ZC b).2.2.1):=J (by unfold ZeN;rw[Za hk]);have za:=ZdY a;have zb:=ZdY b;obtain⟨R1,h1⟩:∃R,ZC a=R:=⟨_,rfl⟩;obtain⟨R2,h2⟩:∃R,ZC b=R:=⟨_,rfl⟩;rw[h1]at CA HO za;rw[h2]at CB HO zb;obtain⟨n1,s1,c1,o1⟩:=R1;obtain⟨n2,s2,c2,o2⟩:=R2;unfold Zil at CA CB;simp only at CA CB HO za zb;have CC:=J (λw1=>ZCB n1 n2 s1 s2 c1 c2 w1 (by unfold maxLen;omega) (by unfold maxLen;omega));rw[<-HO.out]at CC;clear HO h1 h2 h7 za zb hE;generalize ZeN k a b=O at CC ⊢;have hk2:(k==7)=false:=by simpa using hk
  go_enter func128,ntmps128
  go_wp2_with fail
  refine ZM (CA.out _ (Ze _ _)) ?_;rintro w1 hb1;have HB1:=J hb1;have hal:=(Ze w1.heap.size w1).alloc (Zb _) (.cells #[.bool n1,.string s1,I c1] 136);have X1:=J (ZfP w1 n1 s1 c1 136);have C1:=J (Zp HB1.out hal);clear hb1 hal CA;go_wp2_with fail
  refine ZM (CB.out _ C1.out) ?_;rintro w2 hb2;have hal:=(Ze w2.heap.size w2).alloc (Zb _) (.cells #[.bool n2,.string s2,I c2] 136);have X2:=J (Zfd (Zfd X1.out hb2) hal);have Y2:=J (ZfP w2 n2 s2 c2 136);have C2:=J (Zp (Zp C1.out hb2) hal);clear hb2 hal CB;obtain⟨⟨e1,e2,e3⟩,g1,g2,g3⟩:=ZdU X2.out;obtain⟨⟨i1,i2,i3⟩,j1,j2,j3⟩:=ZdU Y2.out;go_wp2_with fail
  refine ZM (CC.out _) ?_;rintro w3 hb3;have C3:=J (Zp C2.out hb3);clear hb3 CC;go_wp2;go_ret;exact⟨rfl,C3.out⟩
def kdT(G:Nat):Array Value:=#[.nilFunc,.func (.func 81) #[] #[],.func (.func 82) #[] #[],.func (.func 83) #[] #[],.func (.func 84) #[] #[],.func (.func 85) #[] #[],.func (.func 86) #[] #[],.func (.func 87) #[] #[],.func (.func 88) #[] #[.pointer (some ⟨G,0,none⟩),.pointer (some ⟨G+1,0,none⟩)],.func (.func 90) #[] #[.pointer (some ⟨G,0,none⟩),.pointer (some ⟨G+1,0,none⟩)],.func (.func 91) #[] #[.pointer (some ⟨G,0,none⟩),.pointer (some ⟨G+1,0,none⟩)]]
theorem ZyS:(prog.info? 82).map (λi=>(i.zero,i.size))=some (some (.agg #[.nilFunc,.nilFunc,.nilFunc,.nilFunc,.nilFunc,.nilFunc,.nilFunc,.nilFunc,.nilFunc,.nilFunc,.nilFunc]),11):=by kernel_rfl
theorem Zqr(G:Nat):(prog.info? 82).map (·.size)=some (kdT G).size:=by kernel_rfl
theorem ZA7(G:Nat):(kdT G).all (·.oneCell')=true:=by unfold kdT;simp[Value.oneCell']
def KdA(a:Option Addr)(m c:Nat)(cs:Array Value)(w:World)(e:Ending)(w':World):Prop:=e=.returned (.agg (kdT w.heap.size))/\ZV w' w.heap.size #[.slice a m c]/\ZV w' (w.heap.size+1) cs/\ZL w w'/\w.heap.size+2<w'.heap.size
theorem Zed(a:Option Addr)(m c:Nat)(v0 v1 v2 v3 v4 v5 v6 v7 v8 v9:Value)(w:World):Calls prog 50 #[.slice a m c,.agg #[v0,v1,v2,v3,v4,v5,v6,v7,v8,v9]] w (KdA a m c #[v0,v1,v2,v3,v4,v5,v6,v7,v8,v9] w):=by
 have hz:=(zero_of_info ZyS).1;have hA:=ZbQ w #[.slice a m c] 48;have h1:=(Ze (w.alloc (.cells #[.slice a m c] 48)).heap.size _).alloc (Zb _) (.cells #[v0,v1,v2,v3,v4,v5,v6,v7,v8,v9] 33);have hB:=ZbQ (w.alloc (.cells #[.slice a m c] 48)) #[v0,v1,v2,v3,v4,v5,v6,v7,v8,v9] 33;have hA2:=Zas hA h1 (by simp);have hW:ZL w ((w.alloc (.cells #[.slice a m c] 48)).alloc (.cells #[v0,v1,v2,v3,v4,v5,v6,v7,v8,v9] 33)):=((Ze _ _).alloc (Zb _) _).alloc (by simp) _;have hsz:((w.alloc (.cells #[.slice a m c] 48)).alloc (.cells #[v0,v1,v2,v3,v4,v5,v6,v7,v8,v9] 33)).heap.size=w.heap.size+2:=by simp
 have hB2:ZV ((w.alloc (.cells #[.slice a m c] 48)).alloc (.cells #[v0,v1,v2,v3,v4,v5,v6,v7,v8,v9] 33)) (w.heap.size+1) #[v0,v1,v2,v3,v4,v5,v6,v7,v8,v9]:=by simpa using hB
 have HA:=J hA2;have HB:=J hB2;have HW:=J hW;have HSZ:=J hsz;have HL:Hid (∀o,(((w.alloc (.cells #[.slice a m c] 48)).alloc (.cells #[v0,v1,v2,v3,v4,v5,v6,v7,v8,v9] 33)).alloc o).heap[w.heap.size+1+1]?=some o):=J (λo=>by have:=Zz ((w.alloc (.cells #[.slice a m c] 48)).alloc (.cells #[v0,v1,v2,v3,v4,v5,v6,v7,v8,v9] 33)) o;rw[hsz]at this;exact this);have HSR:Hid (∀xs ys T,(((w.alloc (.cells #[.slice a m c] 48)).alloc (.cells #[v0,v1,v2,v3,v4,v5,v6,v7,v8,v9] 33)).alloc (.cells xs T)).setRow (w.heap.size+1+1) ys=((w.alloc (.cells #[.slice a m c] 48)).alloc (.cells #[v0,v1,v2,v3,v4,v5,v6,v7,v8,v9] 33)).alloc (.cells ys T)):=J (λxs ys T=>by have:=World.setRow_alloc_new ((w.alloc (.cells #[.slice a m c] 48)).alloc (.cells #[v0,v1,v2,v3,v4,v5,v6,v7,v8,v9] 33)) xs ys T;rw[hsz]at this;exact this);clear hA hB h1 hA2 hW hsz hB2;go_enter func50,ntmps50
 go_wp2_with (refine wpList_store_row rfl 82 _ _ rfl (w.heap.size+1+1) (kdT w.heap.size) rfl rfl 82 _ (HL.out _) (Zqr _) rfl (ZA7 _) ?_;rw[HSR.out])
 refine bodyPost_ret (v:=.agg (kdT w.heap.size)) (results_cell_row results50 _ _ (w.heap.size+1+1) 82 (kdT w.heap.size) (0,0) _ rfl (HL.out _) underlying82 rfl (Zqr _)) rfl ?_;have hb:∀(W:World) (o:Obj),ZL W (W.alloc o):=λW o=>(Ze _ _).alloc (Zb _) _
 exact⟨rfl,Zas HA.out (hb _ _) (by rw[HSZ.out];omega),Zas HB.out (hb _ _) (by rw[HSZ.out];omega),HW.out.trans ((hb _ _).mono (by rw[HSZ.out];omega)),by simp⟩
theorem Zvx(G:Nat)(w:World):(Instr.index 82 (.agg (kdT G)) (I 1)).run prog w=.ok (.func (.func 81) #[] #[]) w:=by kernel_rfl
theorem ZvD(G:Nat)(w:World):(Instr.index 82 (.agg (kdT G)) (I 2)).run prog w=.ok (.func (.func 82) #[] #[]) w:=by kernel_rfl
theorem ZvS(G:Nat)(w:World):(Instr.index 82 (.agg (kdT G)) (I 3)).run prog w=.ok (.func (.func 83) #[] #[]) w:=by kernel_rfl
theorem Zww(G:Nat)(w:World):(Instr.index 82 (.agg (kdT G)) (I 4)).run prog w=.ok (.func (.func 84) #[] #[]) w:=by kernel_rfl
theorem Zwl(G:Nat)(w:World):(Instr.index 82 (.agg (kdT G)) (I 5)).run prog w=.ok (.func (.func 85) #[] #[]) w:=by kernel_rfl
theorem ZvP(G:Nat)(w:World):(Instr.index 82 (.agg (kdT G)) (I 6)).run prog w=.ok (.func (.func 86) #[] #[]) w:=by kernel_rfl
theorem ZvE(G:Nat)(w:World):(Instr.index 82 (.agg (kdT G)) (I 7)).run prog w=.ok (.func (.func 87) #[] #[]) w:=by kernel_rfl
theorem ZzH(G:Nat)(w:World):(Instr.index 82 (.agg (kdT G)) (I 8)).run prog w=.ok (.func (.func 88) #[] #[.pointer (some ⟨G,0,none⟩),.pointer (some ⟨G+1,0,none⟩)]) w:=by kernel_rfl
theorem ZBG(G:Nat)(w:World):(Instr.index 82 (.agg (kdT G)) (I 9)).run prog w=.ok (.func (.func 90) #[] #[.pointer (some ⟨G,0,none⟩),.pointer (some ⟨G+1,0,none⟩)]) w:=by kernel_rfl
theorem ZyP(G:Nat)(w:World):(Instr.index 82 (.agg (kdT G)) (I 10)).run prog w=.ok (.func (.func 91) #[] #[.pointer (some ⟨G,0,none⟩),.pointer (some ⟨G+1,0,none⟩)]) w:=by kernel_rfl
theorem Zzy(k:Int)(s:ZB)(w:World)(hk:1<=k/\k<=7)(hs:s.size<=20000)(hE:Zg1 w):Calls prog 143 #[I k,.string s] w (ZT (avO k s) w):=by
 have HE:=J hE;have CP:=J (Zqh s w (by omega) hE.2.2.2);obtain⟨z,hz⟩:=ZX (ZD s);rw[hz]at CP;have HZ:=J hz;clear hz hE;cases z
 ·have HN:Hid (avO k s=none):=J (ZDi (by
   cases h:atO k s
   ·rfl
   ·have:=Zi9 h hs;rw[HZ.out]at this;cases this))
  go_enter func143,ntmps143
  go_wp2_with (go_at_call 49;refine ZM CP.out ?_;rintro w1 hb1;have HB1:=J hb1;clear hb1)
  go_ret2;exact Zim HN.out HB1.out
 have HO:Hid (∀o v b,o.getD ⟨#[]⟩=v->o.isSome=b->Zf0 o=.tuple #[.string v,.bool b]):=J (λo v b h1 h2=>by subst h1;subst h2;rfl);rcases Zjd hk.1 hk.2 with rfl|rfl|rfl|rfl|rfl|rfl|rfl
 ·have HOO:=J (HO.out (avO 1 s) _ _ rfl rfl);generalize (avO 1 s).getD ⟨#[]⟩=T at HOO;generalize (avO 1 s).isSome=B at HOO;have C1:Hid (∀w1,ZL w w1->Calls prog 81 #[.string s] w1 λe w'=>e=.returned (.tuple #[.string T,.bool B])/\ZL w1 w'):=J (λw1 h1=>by
   have:=ZCW s w1 HZ.out;unfold ZT at this;rw[HOO.out]at this;exact this)
  have hix:=Zvx;go_enter func143,ntmps143
  go_wp2_with (first|(go_at_call 49;refine ZM CP.out ?_;rintro w1 hb1;have HB1:=J hb1;clear hb1)|(go_at_call 50;refine ZM (Zed none 0 0 _ _ _ _ _ _ _ _ _ _ _) ?_;rintro w2 ⟨-,-,hb2,-⟩;have HB2:=J (Zp HB1.out hb2);clear hb2)|(go_at_call 81;refine ZM (C1.out _ HB2.out) ?_;rintro w3 hb3;have HB3:=J (Zp HB2.out hb3);clear hb3))
  go_ret2;exact⟨by rw[HOO.out];rfl,HB3.out⟩
 ·have HOO:=J (HO.out (avO 2 s) _ _ rfl rfl);generalize (avO 2 s).getD ⟨#[]⟩=T at HOO;generalize (avO 2 s).isSome=B at HOO;have C1:Hid (∀w1,ZL w w1->Calls prog 82 #[.string s] w1 λe w'=>e=.returned (.tuple #[.string T,.bool B])/\ZL w1 w'):=J (λw1 h1=>by
   have:=ZCR s w1 HZ.out;unfold ZT at this;rw[HOO.out]at this;exact this)
  have hix:=ZvD;go_enter func143,ntmps143
  go_wp2_with (first|(go_at_call 49;refine ZM CP.out ?_;rintro w1 hb1;have HB1:=J hb1;clear hb1)|(go_at_call 50;refine ZM (Zed none 0 0 _ _ _ _ _ _ _ _ _ _ _) ?_;rintro w2 ⟨-,-,hb2,-⟩;have HB2:=J (Zp HB1.out hb2);clear hb2)|(go_at_call 82;refine ZM (C1.out _ HB2.out) ?_;rintro w3 hb3;have HB3:=J (Zp HB2.out hb3);clear hb3))
  go_ret2;exact⟨by rw[HOO.out];rfl,HB3.out⟩
 ·have HOO:=J (HO.out (avO 3 s) _ _ rfl rfl);generalize (avO 3 s).getD ⟨#[]⟩=T at HOO;generalize (avO 3 s).isSome=B at HOO;have C1:Hid (∀w1,ZL w w1->Calls prog 83 #[.string s] w1 λe w'=>e=.returned (.tuple #[.string T,.bool B])/\ZL w1 w'):=J (λw1 h1=>by
   have:=ZCP s w1 hs;unfold ZT at this;rw[HOO.out]at this;exact this)
  have hix:=ZvS;go_enter func143,ntmps143
  go_wp2_with (first|(go_at_call 49;refine ZM CP.out ?_;rintro w1 hb1;have HB1:=J hb1;clear hb1)|(go_at_call 50;refine ZM (Zed none 0 0 _ _ _ _ _ _ _ _ _ _ _) ?_;rintro w2 ⟨-,-,hb2,-⟩;have HB2:=J (Zp HB1.out hb2);clear hb2)|(go_at_call 83;refine ZM (C1.out _ HB2.out) ?_;rintro w3 hb3;have HB3:=J (Zp HB2.out hb3);clear hb3))
  go_ret2;exact⟨by rw[HOO.out];rfl,HB3.out⟩
 ·have HOO:=J (HO.out (avO 4 s) _ _ rfl rfl);generalize (avO 4 s).getD ⟨#[]⟩=T at HOO;generalize (avO 4 s).isSome=B at HOO;have C1:Hid (∀w1,ZL w w1->Calls prog 84 #[.string s] w1 λe w'=>e=.returned (.tuple #[.string T,.bool B])/\ZL w1 w'):=J (λw1 h1=>by
   have:=ZCS s w1 hs;unfold ZT at this;rw[HOO.out]at this;exact this)
  have hix:=Zww;go_enter func143,ntmps143
  go_wp2_with (first|(go_at_call 49;refine ZM CP.out ?_;rintro w1 hb1;have HB1:=J hb1;clear hb1)|(go_at_call 50;refine ZM (Zed none 0 0 _ _ _ _ _ _ _ _ _ _ _) ?_;rintro w2 ⟨-,-,hb2,-⟩;have HB2:=J (Zp HB1.out hb2);clear hb2)|(go_at_call 84;refine ZM (C1.out _ HB2.out) ?_;rintro w3 hb3;have HB3:=J (Zp HB2.out hb3);clear hb3))
  go_ret2;exact⟨by rw[HOO.out];rfl,HB3.out⟩
 ·have HOO:=J (HO.out (avO 5 s) _ _ rfl rfl);generalize (avO 5 s).getD ⟨#[]⟩=T at HOO;generalize (avO 5 s).isSome=B at HOO;have C1:Hid (∀w1,ZL w w1->Calls prog 85 #[.string s] w1 λe w'=>e=.returned (.tuple #[.string T,.bool B])/\ZL w1 w'):=J (λw1 h1=>by
   have:=ZCl s w1 hs (ZbB HE.out h1);unfold ZT at this;rw[HOO.out]at this;exact this)
  have hix:=Zwl;go_enter func143,ntmps143
  go_wp2_with (first|(go_at_call 49;refine ZM CP.out ?_;rintro w1 hb1;have HB1:=J hb1;clear hb1)|(go_at_call 50;refine ZM (Zed none 0 0 _ _ _ _ _ _ _ _ _ _ _) ?_;rintro w2 ⟨-,-,hb2,-⟩;have HB2:=J (Zp HB1.out hb2);clear hb2)|(go_at_call 85;refine ZM (C1.out _ HB2.out) ?_;rintro w3 hb3;have HB3:=J (Zp HB2.out hb3);clear hb3))
  go_ret2;exact⟨by rw[HOO.out];rfl,HB3.out⟩
 ·have HOO:=J (HO.out (avO 6 s) _ _ rfl rfl);generalize (avO 6 s).getD ⟨#[]⟩=T at HOO;generalize (avO 6 s).isSome=B at HOO;have C1:Hid (∀w1,ZL w w1->Calls prog 86 #[.string s] w1 λe w'=>e=.returned (.tuple #[.string T,.bool B])/\ZL w1 w'):=J (λw1 h1=>by
   have:=ZCV s w1 hs (ZbB HE.out h1);unfold ZT at this;rw[HOO.out]at this;exact this)
  have hix:=ZvP;go_enter func143,ntmps143
  go_wp2_with (first|(go_at_call 49;refine ZM CP.out ?_;rintro w1 hb1;have HB1:=J hb1;clear hb1)|(go_at_call 50;refine ZM (Zed none 0 0 _ _ _ _ _ _ _ _ _ _ _) ?_;rintro w2 ⟨-,-,hb2,-⟩;have HB2:=J (Zp HB1.out hb2);clear hb2)|(go_at_call 86;refine ZM (C1.out _ HB2.out) ?_;rintro w3 hb3;have HB3:=J (Zp HB2.out hb3);clear hb3))
  go_ret2;exact⟨by rw[HOO.out];rfl,HB3.out⟩
 ·have HOO:=J (HO.out (avO 7 s) _ _ rfl rfl);generalize (avO 7 s).getD ⟨#[]⟩=T at HOO;generalize (avO 7 s).isSome=B at HOO;have C1:Hid (∀w1,ZL w w1->Calls prog 87 #[.string s] w1 λe w'=>e=.returned (.tuple #[.string T,.bool B])/\ZL w1 w'):=J (λw1 h1=>by
   have:=ZCM s w1 hs (ZbB HE.out h1);unfold ZT at this;rw[HOO.out]at this;exact this)
  have hix:=ZvE;go_enter func143,ntmps143
  go_wp2_with (first|(go_at_call 49;refine ZM CP.out ?_;rintro w1 hb1;have HB1:=J hb1;clear hb1)|(go_at_call 50;refine ZM (Zed none 0 0 _ _ _ _ _ _ _ _ _ _ _) ?_;rintro w2 ⟨-,-,hb2,-⟩;have HB2:=J (Zp HB1.out hb2);clear hb2)|(go_at_call 87;refine ZM (C1.out _ HB2.out) ?_;rintro w3 hb3;have HB3:=J (Zp HB2.out hb3);clear hb3))
  go_ret2;exact⟨by rw[HOO.out];rfl,HB3.out⟩
structure Ru where
 x:Ty
 am:Option Addr
 cm:Nat
 ae:Option Addr
 ce:Nat
 cs:Int
 lw:ZB
 hg:ZB
 p0:Value
 p1:Value
 p2:Value
 p3:Value
 ea:Option Addr
 ec:Nat
 ev:List ZB
def ruV(r:Ru):List Value:=[.string r.x.nm,I r.x.kd,I r.x.bs,.slice r.am r.x.ms.length r.cm,I r.x.mn,I r.x.mx,.string r.x.lo,.string r.x.hi,.string r.x.pt,.slice r.ae r.x.en.length r.ce,I r.cs,.string r.lw,.string r.hg,r.p0,r.p1,r.p2,r.p3,.slice r.ea r.ev.length r.ec]
def RuB(w:World)(R:Nat)(r:Ru):Prop:=w.heap[R]?=some (.cells (ruV r).toArray 64 (0,0))
theorem ZiP{w:World}{R:Nat}{r:Ru}(h:RuB w R r):R<w.heap.size:=(Array.getElem?_eq_some_iff.1 h).1
theorem Zbk{w w':World}{R:Nat}{r:Ru}(h:RuB w R r)(hb:ZL w w'):RuB w' R r:=(hb.block R (ZiP h)).trans h
theorem ZE{w:World}{R:Nat}{r:Ru}(h:RuB w R r)(i:Nat):w.cell? ⟨R,i,none⟩=(ruV r)[i]?:=by
 rw[ZO w R i _ _ (0,0) h];simp
theorem Zcw{w:World}{R:Nat}{r:Ru}(h:RuB w R r)(i:Nat):w.frozen? ⟨R,i,none⟩=false:=ZEm w R i _ _ h
theorem ZoD(w:World)(s:ZB)(p:Nat):ZL w (w.iter s p):=(Ze _ _).alloc (Zb _) _
theorem Zym(r:Ru)(R:Nat)(v:ZB)(w:World)(hv:v.size<=1048576)(hpl:r.cs≠8->ZD v=true)(h:RuB w R r):
  Calls prog 92 #[.pointer (some ⟨R,0,none⟩),.string v] w (BlA (r.x.mn<=(Znp r.cs v:Int)/\(r.x.mx = -1\/(Znp r.cs v:Int)<=r.x.mx)) w):=by
 have HR:=J h;have CC:Hid (Calls prog 127 #[.string v] w λe w'=>e=.returned (I (Lib.runeCount v))/\ZL w w'):=J ((ZFb v w (by omega)).mono (by rintro e w' ⟨rfl,p,rfl⟩;exact⟨rfl,ZoD w v p⟩));obtain⟨N,hN⟩:=ZX (Lib.runeCount v);rw[hN]at CC;have hLG:r.cs≠8->Znp r.cs v=N:=λe=>by
  unfold Znp;rw[Za e,<-hN,Zmo (hpl e)]
 have hLW:r.cs=8->Znp r.cs v=(Lib.goFieldsP blR v).length:=λe=>by
  unfold Znp;rw[Zd e];have:=Zn List.length (Zcy v);rw[ZDD]at this;exact this.symm
 have c4:w.cell? ⟨R,4,none⟩=some (I r.x.mn):=ZE h 4;have HC:Hid (∀w',ZL w w'->w'.cell? ⟨R,4,none⟩=some (I r.x.mn)/\w'.cell? ⟨R,5,none⟩=some (I r.x.mx)/\w'.cell? ⟨R,10,none⟩=some (I r.cs)):=J (λw' hb=>⟨ZE (Zbk h hb) 4,ZE (Zbk h hb) 5,ZE (Zbk h hb) 10⟩);obtain⟨lg,hlg⟩:=ZX (Znp r.cs v);rw[hlg]at hLG hLW ⊢;generalize r.x.mn=mn at HC ⊢;generalize r.x.mx=mx at HC ⊢;generalize r.cs=k at HC hLG hLW hpl;have HLG:=J hLG;have HLW:=J hLW;clear c4 h hN hlg hLG hLW hpl HR;obtain⟨P,hP⟩:=ZX (mn<=(lg:Int)/\(mx = -1\/(lg:Int)<=mx));have HP:Hid (P↔(mn<=(lg:Int)/\(mx = -1\/(lg:Int)<=mx))):=J (by rw[hP]);rw[hP];clear hP;go_enter func92,ntmps92
 go_wp2_with fail
 refine ZM CC.out ?_;rintro w1 hb1;have HB1:=J hb1;clear hb1 CC;obtain⟨c4,c5,c10⟩:=HC.out w1 HB1.out;have fin:∀(w2:World),ZL w w2->True:=λ_ _=>trivial
 clear fin;by_cases k8:k=8
 ·have k8b:(k==8)=true:=by rw[k8];rfl
  have CW:=J (ZlY v w1 hv);have hl:=HLW.out k8;obtain⟨n9,hn9⟩:=ZX ((Lib.goFieldsP blR v).length);unfold ZwJ at CW;rw[hn9]at hl CW;clear k8 hn9;subst hl;by_cases a1:mn<=(lg:Int)
  ·by_cases a2:mx = -1
   ·have a2b:(mx == -1)=true:=(by rw[a2];rfl);have HY:Hid P:=J (HP.out.2 ⟨a1,.inl a2⟩);clear a2;go_wp2_with (go_at_call 40;refine CW.out.mono ?_;rintro e w2 ⟨A,rfl,-,hb2⟩;have HB2:=J (Zp HB1.out hb2);clear c4 c5 c10;obtain⟨c4,c5,c10⟩:=HC.out w2 HB2.out;clear hb2)
    go_ret;exact Zpl HY.out HB2.out
   ·have a2b:(mx == -1)=false:=(by rw[ZDU];exact a2);by_cases a3:(lg:Int)<=mx
    ·have HY:Hid P:=J (HP.out.2 ⟨a1,.inr a3⟩);go_wp2_with (go_at_call 40;refine CW.out.mono ?_;rintro e w2 ⟨A,rfl,-,hb2⟩;have HB2:=J (Zp HB1.out hb2);clear c4 c5 c10;obtain⟨c4,c5,c10⟩:=HC.out w2 HB2.out;clear hb2)
     go_ret;exact Zpl HY.out HB2.out
    ·have HN:Hid (¬P):=J (λh=>(HP.out.1 h).2.elim a2 a3);have a3b:decide ((lg:Int)<=mx)=false:=Zg a3;go_wp2_with (go_at_call 40;refine CW.out.mono ?_;rintro e w2 ⟨A,rfl,-,hb2⟩;have HB2:=J (Zp HB1.out hb2);clear c4 c5 c10;obtain⟨c4,c5,c10⟩:=HC.out w2 HB2.out;clear hb2)
     go_ret;exact ZdQ HN.out HB2.out
  ·have HN:Hid (¬P):=J (λh=>a1 (HP.out.1 h).1);go_wp2_with (go_at_call 40;refine CW.out.mono ?_;rintro e w2 ⟨A,rfl,-,hb2⟩;have HB2:=J (Zp HB1.out hb2);clear c4 c5 c10;obtain⟨c4,c5,c10⟩:=HC.out w2 HB2.out;clear hb2)
   go_ret;exact ZdQ HN.out HB2.out
 ·have k8b:(k==8)=false:=by rw[ZDU];exact k8
  have hl:=HLG.out k8;subst hl;by_cases a1:mn<=(lg:Int)
  ·by_cases a2:mx = -1
   ·have a2b:(mx == -1)=true:=(by rw[a2];rfl);have HY:Hid P:=J (HP.out.2 ⟨a1,.inl a2⟩);clear a2;go_wp2;go_ret;exact Zpl HY.out HB1.out
   ·have a2b:(mx == -1)=false:=(by rw[ZDU];exact a2);by_cases a3:(lg:Int)<=mx
    ·have HY:Hid P:=J (HP.out.2 ⟨a1,.inr a3⟩);go_wp2;go_ret;exact Zpl HY.out HB1.out
    ·have HN:Hid (¬P):=J (λh=>(HP.out.1 h).2.elim a2 a3);have a3b:decide ((lg:Int)<=mx)=false:=Zg a3;go_wp2;go_ret;exact ZdQ HN.out HB1.out
  ·have HN:Hid (¬P):=J (λh=>a1 (HP.out.1 h).1);go_wp2;go_ret;exact ZdQ HN.out HB1.out
theorem ZuN(r:Ru)(R:Nat)(v:ZB)(w:World)(h:RuB w R r)(hn:r.ev.length<=1000)(he:Zm7 w r.ea r.ev w.heap.size):
  Calls prog 95 #[.pointer (some ⟨R,0,none⟩),.string v] w (BlA (r.ev=[]\/v∈r.ev) w):=by
 have c17:w.cell? ⟨R,17,none⟩=some (.slice r.ea r.ev.length r.ec):=ZE h 17;have HE:=J he;generalize r.ev=ev at c17 HE hn ⊢;generalize r.ea=ea at c17 HE;generalize r.ec=ec at c17;obtain⟨q,hq⟩:=ZX ev.length;have HQ:=J hq;rw[hq]at c17 hn;clear hq h he;obtain⟨P,hP⟩:=ZX (ev=[]\/v∈ev);have HP:Hid (P↔(ev=[]\/v∈ev)):=J (by rw[hP]);rw[hP];clear hP;go_enter func95,ntmps95
 go_wp2_with fail
 go_loop [6,12] (λxv iv=>∃j:Nat,iv=I j/\j<=q/\Hid (∀i,i<j->ev[i]?.getD ⟨#[]⟩≠v)) (λ_ iv=>q-(Zi iv).toNat)
 case atStart=>exact⟨0,rfl,Zx _,J (λi h=>by omega)⟩
 case round=>
  obtain⟨j,rfl,hj,HA⟩:=hrel;by_cases hlt:j<q
  ·have hji:(j:Int)<(q:Int):=by omega
   have hjL:j<ev.length:=by rw[HQ.out];exact hlt
   obtain⟨be,oe,rfl,hbe,hce⟩:=Zkl HE.out j hjL;have ce0:=hce j hjL;obtain⟨E,hE⟩:=ZX (ev[j]?.getD ⟨#[]⟩);have hEm:E∈ev:=by rw[<-hE,Zv hjL];exact ZD3 hjL
   have HEM:=J hEm;have HEE:=J hE;rw[hE]at ce0;clear hce hE hEm hjL;cases he:(E.toList==v.toList)
   ·have HA2:Hid (∀i,i<j+1->ev[i]?.getD ⟨#[]⟩≠v):=J (λi hi=>by
     by_cases e:i=j
     ·subst e;rw[HEE.out];exact ZqV he
     ·exact HA.out i (by omega))
    go_wp2
    go_round
    case rel=>exact⟨j+1,by go_num,by omega,HA2⟩
    case measure=>simp[Zi];omega
   ·have HY:Hid P:=J (HP.out.2 (.inr (by rw[<-Zpk he];exact HEM.out)));go_wp2;go_ret;exact Zpl HY.out (Ze _ _)
  ·have hjq:j=q:=by omega
   have hji:¬(j:Int)<(q:Int):=by omega
   have HNM:Hid (¬v∈ev):=J (λhm=>by
    obtain⟨i,hi,hie⟩:=List.getElem_of_mem hm;have:=HA.out i (by rw[hjq,<-HQ.out];exact hi);rw[Zv hi]at this;simp only[Option.getD_some]at this;exact this hie)
   clear hjq;by_cases q0:q=0
   ·have q0b:((q:Int)==0)=true:=(by rw[q0];rfl);have HY:Hid P:=J (HP.out.2 (.inl (List.length_eq_zero_iff.1 (by rw[HQ.out];exact q0))));clear q0;go_wp2;go_ret;exact Zpl HY.out (Ze _ _)
   ·have q0b:((q:Int)==0)=false:=(by rw[ZDU];omega);have HN:Hid (¬P):=J (λh=>by
     rcases HP.out.1 h with h|h
     ·have:=HQ.out;rw[h]at this;simp at this;omega
     ·exact HNM.out h)
    go_wp2;go_ret;exact ZdQ HN.out (Ze _ _)
end
section
open Go.RowKit Go.Joins Go.Maps
def ptX(pt:ZB):Rx:=ZdZ (rgV (ZF (rns pt)) (rns pt).isSome)
def PtM(w:World)(pt:ZB)(p0 p1 p2 p3:Value):Prop:=∃(b0 off cap len B b p sc:Nat) (sa:Option Addr) (M:List Sp) (S:Nat->Bool),
 (p0=.slice (some ⟨b0,off,none⟩) len cap/\p1=.slice sa M.length sc/\p2=.map (some b)/\p3=I 0)/\((ptX pt).len=len/\rxB (ptX pt)=true/\∀j,j<len->(ptX pt).NR j<=maxLen)/\
 (Zch w b0 off (ptX pt) B/\b0<B/\B<=w.heap.size)/\w.ownsRow B 233 4 (.slice sa M.length sc) M.length (spV M)/\
 Ent (ptX pt) [⟨true,0,0,0⟩] (λc=>tkX (ptX pt) c (len-1)) 0 p M/\M.length<=300000/\PS w b S M.length/\Clo M S/\∀x,S x=true↔Rch M p x
theorem ZzB{w w':World}{pt:ZB}{p0 p1 p2 p3:Value}(h:PtM w pt p0 p1 p2 p3)(hb:ZL w w'):PtM w' pt p0 p1 p2 p3:=by
 obtain⟨b0,off,cap,len,B,b,p,sc,sa,M,S,h0,h1,⟨h2,h3,h4⟩,h5,h6,h7,h8,h9⟩:=h;exact⟨b0,off,cap,len,B,b,p,sc,sa,M,S,h0,h1,⟨ZaN h2 h3 (hb.mono h4),h3,ZDA h4 hb.size⟩,ZbX h5 hb,h6,h7,Zfl h8 (Zew hb (λ_=>False)) (λe=>e),h9⟩
theorem ZA4(r:Ru)(R:Nat)(s:ZB)(w:World)(hs:s.size<=1048576)(h:RuB w R r)(hp:r.x.pt.size=0\/PtM w r.x.pt r.p0 r.p1 r.p2 r.p3)(hE:Zg1 w):
  Calls prog 94 #[.pointer (some ⟨R,0,none⟩),.string s] w (BlA (r.x.pt.size=0\/ZnX r.x.pt (if r.cs=1 then s else jnB s)) w):=by
 have HH:=J h;have HPT:=J hp;have HE:=J hE;have HC:Hid (∀w',ZL w w'->w'.cell? ⟨R,8,none⟩=some (.string r.x.pt)/\w'.cell? ⟨R,10,none⟩=some (I r.cs)):=J (λw' hb=>⟨ZE (Zbk h hb) 8,ZE (Zbk h hb) 10⟩);have hul:=ZAn s r.cs hs;obtain⟨c8,c10⟩:=HC.out w (Ze _ _);by_cases hz:r.x.pt.size=0
 ·have hz1:=ZbE hz;obtain⟨P,hP⟩:=ZX (r.x.pt.size=0\/ZnX r.x.pt (if r.cs=1 then s else jnB s));have HY:Hid P:=J (by rw[<-hP];exact .inl hz);rw[hP];clear hP hz h hp hE HPT HC HE HH hul c10;generalize r.x.pt=pt at c8 hz1;go_enter func94,ntmps94
  go_wp2;go_ret;exact Zpl HY.out (Ze _ _)
 have hz1:=Zbx hz;obtain⟨b0,off,cap,len,B,b,p,sc,sa,M,S,⟨e0,e1,e2,e3⟩,⟨g1,g2,g3⟩,⟨h2,h3,h4⟩,h5,h6,h7,h8,h9,h10⟩:=hp.resolve_left hz;have hl:=Zdz h6;have hrx:=(Zk7 g2).1;have CT:Hid (∀(w1:World) (u:ZB),ZL w w1->u.size<=1048576->Calls prog 129 #[.pointer (some ⟨R,13,none⟩),.string u] w1 λe w'=>BlA (ZnX r.x.pt u) w1 e w'):=J (λw1 u hb hu=>by
  have hR:=Zbk h hb;have hMG:MG B w1 R (.slice (some ⟨b0,off,none⟩) len cap) (.map (some b)) (I 0) M:=by
   refine⟨ZDA h4 hb.size,_,_,sa,sc,hR,by decide,⟨?_,?_,?_,?_⟩,ZbX h5 hb⟩
   ·rw[<-e0];rfl
   ·rw[<-e1];rfl
   ·rw[<-e2];rfl
   ·rw[<-e3];rfl
  refine(ZtL (ptX r.x.pt) len g1 (by omega) g3 b0 off cap B R M M.length b u (ZF (rns u)) (ZF (rns u)).length (rns u).isSome hu rfl rfl rfl rfl (by simp at hl;omega) (by omega) (h6.2.2.2 (by simp) (Zwo (ptX r.x.pt))) S h9 w1 (ZbB hE hb).2.2.2 (ZaN h2 h3 (hb.mono h4)) h3 hMG (Zfl h8 (Zew hb (λ_=>False)) (λe=>e))).mono ?_;rintro e w' ⟨z,rfl,hzz,hb2⟩;refine⟨z,rfl,?_,hb2⟩;rw[hzz,ZuH h10,ZrA _ _ h6];unfold ZnX MtP;show _↔rxB (ptX r.x.pt)=true/\_/\_/\tkX (ptX r.x.pt) _ ((ptX r.x.pt).len-1) 0 _;rw[g1];exact⟨λe=>⟨g2,e⟩,λe=>e.2⟩)
 have hRl:=ZiP h;have HZ:=J hz;clear hz h hp hE h2 h3 h4 h5 h6 h7 h8 h9 h10 g1 g2 g3 e0 e1 e2 e3 hl hrx;obtain⟨U,hU⟩:=ZX (if r.cs=1 then s else jnB s);have HU:=J hU;rw[hU]at hul;rw[hU];clear hU;obtain⟨P,hP⟩:=ZX (r.x.pt.size=0\/ZnX r.x.pt U);have HP:Hid (P↔ZnX r.x.pt U):=J (by rw[<-hP];exact⟨λe=>e.resolve_left HZ.out,.inr⟩);rw[hP];clear hP;by_cases k1:r.cs=1
 ·have hus:U=s:=by rw[<-HU.out,Zd k1]
  have k1b:(r.cs != 1)=false:=by rw[k1];rfl
  have CT1:=J (CT.out w s (Ze _ _) hs);rw[hus]at HP;generalize ZnX r.x.pt s=Q at CT1 HP;generalize r.x.pt=pt at c8 hz1;generalize r.cs=k at c10 k1b;clear HU hus HPT HC k1 CT HZ HH;go_enter func94,ntmps94
  go_wp2_with (go_at_call 129;refine CT1.out.mono ?_;rintro e w2 ⟨z,rfl,hz,hb2⟩;have HB2:=J hb2;have HZ:=J hz;clear hz hb2)
  go_ret;exact⟨z,rfl,by rw[HP.out];exact HZ.out,HB2.out⟩
 ·have hus:U=jnB s:=by rw[<-HU.out,Za k1]
  have k1b:(r.cs != 1)=true:=by rw[bne_iff_ne];exact k1
  have CW:Hid (Calls prog 17 #[.string s,I 2] w λe w'=>e=.returned (.string U)/\ZL w w'):=J (by rw[hus];exact ZgA s 2 w hs);have CT1:=J (λw1 h1=>CT.out w1 U h1 hul);generalize ZnX r.x.pt U=Q at CT1 HP;generalize r.x.pt=pt at c8 hz1;generalize r.cs=k at c10 k1b;clear HU hus HPT HC k1 CT HZ HH;go_enter func94,ntmps94
  go_wp2_with (first|(go_at_call 17;refine ZM CW.out ?_;rintro w1 hb1;have HB1:=J hb1;clear hb1)|(go_at_call 129;refine(CT1.out _ HB1.out).mono ?_;rintro e w2 ⟨z,rfl,hz,hb2⟩;have HB2:=J (Zp HB1.out hb2);have HZ:=J hz;clear hz hb2))
  go_ret;exact⟨z,rfl,by rw[HP.out];exact HZ.out,HB2.out⟩
end
section
open Go.RowKit Go.Joins
theorem ZgE(a b c:Int)(w:World):Calls prog 64 #[I a,I b,I c] w λe w'=>e=.returned (.bool (decide (b<=a/\a<=c)))/\w'=w:=by
 by_cases h1:b<=a
 ·by_cases h2:a<=c
  ·go_enter func64,ntmps64
   go_wp2;go_ret;exact⟨Zo (by simp;omega),rfl⟩
  ·go_enter func64,ntmps64
   go_wp2;go_ret;exact⟨Zo (by simp;omega),rfl⟩
 ·go_enter func64,ntmps64
  go_wp2;go_ret;exact⟨Zo (by simp;omega),rfl⟩
section
variable {P:Program} {ops:Array Oper} {Q:Exit->Act->World->Prop} {md:Region.Mode} {S:World->Prop}
theorem Zak(i:Nat){oi:Oper}{fuel:Nat}{listed:Array Bool}{a:Act}{w:World}
  (h:wpAnyH P md ops Q S fuel (listed.setIfInBounds i true) (a.put oi.dst undef) w) (hi:ops[i]?=some oi:=by exact rfl)
  (hs:Region.noSelect ops=true:=by kernel_rfl) (hf:Region.free md ops listed i=true:=by kernel_rfl) (hr:(Region.ready md ops listed).contains i=true:=by kernel_rfl)
  (hQ:∀c a w,Q (.panic c) (a.put oi.dst undef) w->Q (.panic c) a w:=by exact λ_ _ _ h=>h) (hy:Region.wanted oi (yielded ops a.tmps)=false:=by kernel_rfl) (hS:S w:=by assumption):
  wpAnyH P md ops Q S (fuel+1) listed a w:=wpAnyH_take hi hs hf hr hQ (Or.inr ⟨hy,rfl⟩) hS h
theorem Zt(i:Nat)(v:Value){oi:Oper}{fuel:Nat}{listed:Array Bool}{a:Act}{w:World}
  (h:wpAnyH P md ops Q S fuel (listed.setIfInBounds i true) (a.put oi.dst v) w) (hi:ops[i]?=some oi:=by exact rfl)
  (hs:Region.noSelect ops=true:=by kernel_rfl) (hf:Region.free md ops listed i=true:=by kernel_rfl) (hr:(Region.ready md ops listed).contains i=true:=by kernel_rfl)
  (hQ:∀c a w,Q (.panic c) (a.put oi.dst v) w->Q (.panic c) a w:=by exact λ_ _ _ h=>h) (hy:Region.wanted oi (yielded ops a.tmps)=true:=by kernel_rfl)
  (hv:∀w,S w->(execOp a.eval oi).run P w=.ok (.value v) w:=by intro w hSw;obtain⟨_,hq10,hq11,hq12⟩:=hSw;go_simp) (hS:S w:=by assumption):
  wpAnyH P md ops Q S (fuel+1) listed a w:=wpAnyH_take hi hs hf hr hQ (Or.inl ⟨hy,hv⟩) hS h
end
theorem Zrq(k:Int)(lw hg v:ZB)(R:Nat)(w:World)(b2:Bool)(hl:lw.toList.isEmpty=true)(hh:hg.toList.isEmpty=true)
  (HC:Hid (∀w',ZL w w'->w'.cell? ⟨R,10,none⟩=some (I k)/\w'.cell? ⟨R,11,none⟩=some (.string lw)/\w'.cell? ⟨R,12,none⟩=some (.string hg)))
   :
  Calls prog 93 #[.pointer (some ⟨R,0,none⟩),.string v] w λe w'=>e=.returned (.bool true)/\ZL w w':=by
 obtain⟨c10,c11,c12⟩:=HC.out w (Ze _ _);have XX:Hid (ZL w w.drew):=J ⟨rfl,rfl,rfl,Zb _,λ_ _=>rfl⟩;have HKS:Hid (∀W9,ZL w W9->ZL w W9/\W9.cell? ⟨R,10,none⟩=some (I k)/\W9.cell? ⟨R,11,none⟩=some (.string lw)/\W9.cell? ⟨R,12,none⟩=some (.string hg)):=J (λW9 h9=>⟨h9,HC.out W9 h9⟩);go_enter func93,ntmps93
 go_upto_region 1 with fail
 clear c10 c11 c12;obtain⟨c10,c11,c12⟩:=HC.out w (Ze _ _);go_quiet (fail)
 go_wp2;go_ret;exact⟨rfl,by first|exact Ze _ _|exact(Ze _ _).trans ⟨rfl,rfl,rfl,Zb _,λ_ _=>rfl⟩⟩
theorem ZsS(k:Int)(lw hg v:ZB)(R:Nat)(w:World)(b2:Bool)(hl:lw.toList.isEmpty=true)(hh:hg.toList.isEmpty=false)
  (HC:Hid (∀w',ZL w w'->w'.cell? ⟨R,10,none⟩=some (I k)/\w'.cell? ⟨R,11,none⟩=some (.string lw)/\w'.cell? ⟨R,12,none⟩=some (.string hg)))
  (CH:Hid (∀w',ZL w w'->∃O,(decide (-1<=O/\O<=0)=b2)/\Calls prog 128 #[I k,.string v,.string hg] w' λe w2=>e=.returned (I O)/\ZL w' w2)):
  Calls prog 93 #[.pointer (some ⟨R,0,none⟩),.string v] w λe w'=>e=.returned (.bool b2)/\ZL w w':=by
 obtain⟨c10,c11,c12⟩:=HC.out w (Ze _ _);have XX:Hid (ZL w w.drew):=J ⟨rfl,rfl,rfl,Zb _,λ_ _=>rfl⟩;have HKS:Hid (∀W9,ZL w W9->ZL w W9/\W9.cell? ⟨R,10,none⟩=some (I k)/\W9.cell? ⟨R,11,none⟩=some (.string lw)/\W9.cell? ⟨R,12,none⟩=some (.string hg)):=J (λW9 h9=>⟨h9,HC.out W9 h9⟩);go_enter func93,ntmps93
 go_upto_region 1 with fail
 clear c10 c11 c12;try refine wp_region_noPanic ?_
 refine wp_region_held_drew (S:=(λW9=>ZL w W9/\W9.cell? ⟨R,10,none⟩=some (I k)/\W9.cell? ⟨R,11,none⟩=some (.string lw)/\W9.cell? ⟨R,12,none⟩=some (.string hg))) (by kernel_rfl) (HKS.out _ XX.out) (λhHeld=>?_);refine Zt 0 (Value.pointer (some ⟨R,0,none⟩)) ?_;try simp only[Act.put,Zm,Zk,Zl]
 refine Zt 1 (Value.pointer (some ⟨R,0,none⟩)) ?_;try simp only[Act.put,Zm,Zk,Zl]
 refine Zt 2 (Value.pointer (some ⟨R,11,none⟩)) ?_;try simp only[Act.put,Zm,Zk,Zl]
 refine Zt 3 (Value.string lw) ?_;try simp only[Act.put,Zm,Zk,Zl]
 refine Zt 4 (Value.bool true) ?_;try simp only[Act.put,Zm,Zk,Zl]
 refine Zt 5 (Value.bool true) ?_;try simp only[Act.put,Zm,Zk,Zl]
 refine Zak 6 ?_;try simp only[Act.put,Zm,Zk,Zl]
 refine Zak 7 ?_;try simp only[Act.put,Zm,Zk,Zl]
 refine Zak 8 ?_;try simp only[Act.put,Zm,Zk,Zl]
 refine Zak 9 ?_;try simp only[Act.put,Zm,Zk,Zl]
 refine Zak 10 ?_;try simp only[Act.put,Zm,Zk,Zl]
 refine Zak 11 ?_;try simp only[Act.put,Zm,Zk,Zl]
 refine Zak 12 ?_;try simp only[Act.put,Zm,Zk,Zl]
 refine Zak 13 ?_;try simp only[Act.put,Zm,Zk,Zl]
 refine Zak 14 ?_;try simp only[Act.put,Zm,Zk,Zl]
 refine Zak 15 ?_;try simp only[Act.put,Zm,Zk,Zl]
 refine Zak 16 ?_;try simp only[Act.put,Zm,Zk,Zl]
 refine wpAnyH_ready (rs:=[17]) (by kernel_rfl) (by simp) ?_;refine AllReadyH.cons rfl ?_ AllReadyH.nil;intro K hK;go_simp;refine hK.out _ _ (by assumption) (λhHeld9=>?_);clear hK K;try simp only[Act.put,Zm,Zk,Zl]
 refine Zt 18 (Value.bool true) ?_;try simp only[Act.put,Zm,Zk,Zl]
 refine Zt 19 (Value.pointer (some ⟨R,0,none⟩)) ?_;try simp only[Act.put,Zm,Zk,Zl]
 refine Zt 20 (Value.pointer (some ⟨R,0,none⟩)) ?_;try simp only[Act.put,Zm,Zk,Zl]
 refine Zt 21 (Value.pointer (some ⟨R,12,none⟩)) ?_;try simp only[Act.put,Zm,Zk,Zl]
 refine Zt 22 (Value.string hg) ?_;try simp only[Act.put,Zm,Zk,Zl]
 refine Zt 23 (Value.bool false) ?_;try simp only[Act.put,Zm,Zk,Zl]
 refine Zt 24 (Value.bool false) ?_;try simp only[Act.put,Zm,Zk,Zl]
 refine Zt 25 (Value.pointer (some ⟨R,0,none⟩)) ?_;try simp only[Act.put,Zm,Zk,Zl]
 refine Zt 26 (Value.pointer (some ⟨R,0,none⟩)) ?_;try simp only[Act.put,Zm,Zk,Zl]
 refine Zt 27 (Value.pointer (some ⟨R,10,none⟩)) ?_;try simp only[Act.put,Zm,Zk,Zl]
 refine Zt 28 (I k) ?_;try simp only[Act.put,Zm,Zk,Zl]
 refine Zt 29 (Value.string v) ?_;try simp only[Act.put,Zm,Zk,Zl]
 refine Zt 30 (Value.pointer (some ⟨R,0,none⟩)) ?_;try simp only[Act.put,Zm,Zk,Zl]
 refine Zt 31 (Value.pointer (some ⟨R,0,none⟩)) ?_;try simp only[Act.put,Zm,Zk,Zl]
 refine Zt 32 (Value.pointer (some ⟨R,12,none⟩)) ?_;try simp only[Act.put,Zm,Zk,Zl]
 refine Zt 33 (Value.string hg) ?_;try simp only[Act.put,Zm,Zk,Zl]
 refine wpAnyH_ready (rs:=[34]) (by kernel_rfl) (by simp) ?_;refine AllReadyH.cons rfl ?_ AllReadyH.nil;intro K hK;go_simp;obtain⟨O,hO,CO⟩:=CH.out _ XX.out;refine ZM CO ?_;rintro w9 hb9;have X2:=J (XX.out.trans (hb9.mono XX.out.size));replace XX:=X2;clear X2 hb9 CO;refine hK.out _ _ (HKS.out _ XX.out) (λhHeld9=>?_);clear hK K;try simp only[Act.put,Zm,Zk,Zl]
 refine wpAnyH_ready (rs:=[35]) (by kernel_rfl) (by simp) ?_;refine AllReadyH.cons rfl ?_ AllReadyH.nil;intro K hK;go_simp;refine ZM (ZgE _ _ _ _) ?_;rintro w9 h9;rw[h9,hO];clear h9 w9;refine hK.out _ _ (HKS.out _ XX.out) (λhHeld9=>?_);clear hK K hO;try simp only[Act.put,Zm,Zk,Zl]
 refine Zt 36 (Value.bool b2) ?_;try simp only[Act.put,Zm,Zk,Zl]
 refine Zt 37 (Value.bool b2) ?_;try simp only[Act.put,Zm,Zk,Zl]
 refine wpAnyH_ready (rs:=[38]) (by kernel_rfl) (by simp) ?_;refine AllReadyH.cons rfl ?_ AllReadyH.nil;intro K hK;go_simp;refine hK.out _ _ (by assumption) (λhHeld9=>?_);clear hK K;try simp only[Act.put,Zm,Zk,Zl]
 refine wpAnyH_done (by kernel_rfl) ?_ _;try refine NoPanic.normal ?_
 go_wp2;go_ret;exact⟨rfl,XX.out⟩
theorem ZpQ(k:Int)(lw hg v:ZB)(R:Nat)(w:World)(b2:Bool)(hl:lw.toList.isEmpty=false)(hh:hg.toList.isEmpty=true)
  (HC:Hid (∀w',ZL w w'->w'.cell? ⟨R,10,none⟩=some (I k)/\w'.cell? ⟨R,11,none⟩=some (.string lw)/\w'.cell? ⟨R,12,none⟩=some (.string hg)))
  (CL:Hid (∀w',ZL w w'->∃O,(decide (0<=O/\O<=1)=true)/\Calls prog 128 #[I k,.string v,.string lw] w' λe w2=>e=.returned (I O)/\ZL w' w2))  :
  Calls prog 93 #[.pointer (some ⟨R,0,none⟩),.string v] w λe w'=>e=.returned (.bool true)/\ZL w w':=by
 obtain⟨c10,c11,c12⟩:=HC.out w (Ze _ _);have XX:Hid (ZL w w.drew):=J ⟨rfl,rfl,rfl,Zb _,λ_ _=>rfl⟩;have HKS:Hid (∀W9,ZL w W9->ZL w W9/\W9.cell? ⟨R,10,none⟩=some (I k)/\W9.cell? ⟨R,11,none⟩=some (.string lw)/\W9.cell? ⟨R,12,none⟩=some (.string hg)):=J (λW9 h9=>⟨h9,HC.out W9 h9⟩);go_enter func93,ntmps93
 go_upto_region 1 with fail
 clear c10 c11 c12;try refine wp_region_noPanic ?_
 refine wp_region_held_drew (S:=(λW9=>ZL w W9/\W9.cell? ⟨R,10,none⟩=some (I k)/\W9.cell? ⟨R,11,none⟩=some (.string lw)/\W9.cell? ⟨R,12,none⟩=some (.string hg))) (by kernel_rfl) (HKS.out _ XX.out) (λhHeld=>?_);refine Zt 0 (Value.pointer (some ⟨R,0,none⟩)) ?_;try simp only[Act.put,Zm,Zk,Zl]
 refine Zt 1 (Value.pointer (some ⟨R,0,none⟩)) ?_;try simp only[Act.put,Zm,Zk,Zl]
 refine Zt 2 (Value.pointer (some ⟨R,11,none⟩)) ?_;try simp only[Act.put,Zm,Zk,Zl]
 refine Zt 3 (Value.string lw) ?_;try simp only[Act.put,Zm,Zk,Zl]
 refine Zt 4 (Value.bool false) ?_;try simp only[Act.put,Zm,Zk,Zl]
 refine Zt 5 (Value.bool false) ?_;try simp only[Act.put,Zm,Zk,Zl]
 refine Zt 6 (Value.pointer (some ⟨R,0,none⟩)) ?_;try simp only[Act.put,Zm,Zk,Zl]
 refine Zt 7 (Value.pointer (some ⟨R,0,none⟩)) ?_;try simp only[Act.put,Zm,Zk,Zl]
 refine Zt 8 (Value.pointer (some ⟨R,10,none⟩)) ?_;try simp only[Act.put,Zm,Zk,Zl]
 refine Zt 9 (I k) ?_;try simp only[Act.put,Zm,Zk,Zl]
 refine Zt 10 (Value.string v) ?_;try simp only[Act.put,Zm,Zk,Zl]
 refine Zt 11 (Value.pointer (some ⟨R,0,none⟩)) ?_;try simp only[Act.put,Zm,Zk,Zl]
 refine Zt 12 (Value.pointer (some ⟨R,0,none⟩)) ?_;try simp only[Act.put,Zm,Zk,Zl]
 refine Zt 13 (Value.pointer (some ⟨R,11,none⟩)) ?_;try simp only[Act.put,Zm,Zk,Zl]
 refine Zt 14 (Value.string lw) ?_;try simp only[Act.put,Zm,Zk,Zl]
 refine wpAnyH_ready (rs:=[15]) (by kernel_rfl) (by simp) ?_;refine AllReadyH.cons rfl ?_ AllReadyH.nil;intro K hK;go_simp;obtain⟨O,hO,CO⟩:=CL.out _ XX.out;refine ZM CO ?_;rintro w9 hb9;have X2:=J (XX.out.trans (hb9.mono XX.out.size));replace XX:=X2;clear X2 hb9 CO;refine hK.out _ _ (HKS.out _ XX.out) (λhHeld9=>?_);clear hK K;try simp only[Act.put,Zm,Zk,Zl]
 refine wpAnyH_ready (rs:=[16]) (by kernel_rfl) (by simp) ?_;refine AllReadyH.cons rfl ?_ AllReadyH.nil;intro K hK;go_simp;refine ZM (ZgE _ _ _ _) ?_;rintro w9 h9;rw[h9,hO];clear h9 w9;refine hK.out _ _ (HKS.out _ XX.out) (λhHeld9=>?_);clear hK K hO;try simp only[Act.put,Zm,Zk,Zl]
 refine Zt 17 (Value.bool true) ?_;try simp only[Act.put,Zm,Zk,Zl]
 refine Zt 18 (Value.bool true) ?_;try simp only[Act.put,Zm,Zk,Zl]
 refine Zt 19 (Value.pointer (some ⟨R,0,none⟩)) ?_;try simp only[Act.put,Zm,Zk,Zl]
 refine Zt 20 (Value.pointer (some ⟨R,0,none⟩)) ?_;try simp only[Act.put,Zm,Zk,Zl]
 refine Zt 21 (Value.pointer (some ⟨R,12,none⟩)) ?_;try simp only[Act.put,Zm,Zk,Zl]
 refine Zt 22 (Value.string hg) ?_;try simp only[Act.put,Zm,Zk,Zl]
 refine Zt 23 (Value.bool true) ?_;try simp only[Act.put,Zm,Zk,Zl]
 refine Zt 24 (Value.bool true) ?_;try simp only[Act.put,Zm,Zk,Zl]
 refine Zak 25 ?_;try simp only[Act.put,Zm,Zk,Zl]
 refine Zak 26 ?_;try simp only[Act.put,Zm,Zk,Zl]
 refine Zak 27 ?_;try simp only[Act.put,Zm,Zk,Zl]
 refine Zak 28 ?_;try simp only[Act.put,Zm,Zk,Zl]
 refine Zak 29 ?_;try simp only[Act.put,Zm,Zk,Zl]
 refine Zak 30 ?_;try simp only[Act.put,Zm,Zk,Zl]
 refine Zak 31 ?_;try simp only[Act.put,Zm,Zk,Zl]
 refine Zak 32 ?_;try simp only[Act.put,Zm,Zk,Zl]
 refine Zak 33 ?_;try simp only[Act.put,Zm,Zk,Zl]
 refine Zak 34 ?_;try simp only[Act.put,Zm,Zk,Zl]
 refine Zak 35 ?_;try simp only[Act.put,Zm,Zk,Zl]
 refine wpAnyH_ready (rs:=[36]) (by kernel_rfl) (by simp) ?_;refine AllReadyH.cons rfl ?_ AllReadyH.nil;intro K hK;go_simp;refine hK.out _ _ (by assumption) (λhHeld9=>?_);clear hK K;try simp only[Act.put,Zm,Zk,Zl]
 refine Zt 37 (Value.bool true) ?_;try simp only[Act.put,Zm,Zk,Zl]
 refine wpAnyH_ready (rs:=[38]) (by kernel_rfl) (by simp) ?_;refine AllReadyH.cons rfl ?_ AllReadyH.nil;intro K hK;go_simp;refine hK.out _ _ (by assumption) (λhHeld9=>?_);clear hK K;try simp only[Act.put,Zm,Zk,Zl]
 refine wpAnyH_done (by kernel_rfl) ?_ _;try refine NoPanic.normal ?_
 go_wp2;go_ret;exact⟨rfl,XX.out⟩
theorem Zqj(k:Int)(lw hg v:ZB)(R:Nat)(w:World)(b2:Bool)(hl:lw.toList.isEmpty=false)
  (HC:Hid (∀w',ZL w w'->w'.cell? ⟨R,10,none⟩=some (I k)/\w'.cell? ⟨R,11,none⟩=some (.string lw)/\w'.cell? ⟨R,12,none⟩=some (.string hg)))
  (CL:Hid (∀w',ZL w w'->∃O,(decide (0<=O/\O<=1)=false)/\Calls prog 128 #[I k,.string v,.string lw] w' λe w2=>e=.returned (I O)/\ZL w' w2))  :
  Calls prog 93 #[.pointer (some ⟨R,0,none⟩),.string v] w λe w'=>e=.returned (.bool false)/\ZL w w':=by
 obtain⟨c10,c11,c12⟩:=HC.out w (Ze _ _);have XX:Hid (ZL w w.drew):=J ⟨rfl,rfl,rfl,Zb _,λ_ _=>rfl⟩;have HKS:Hid (∀W9,ZL w W9->ZL w W9/\W9.cell? ⟨R,10,none⟩=some (I k)/\W9.cell? ⟨R,11,none⟩=some (.string lw)/\W9.cell? ⟨R,12,none⟩=some (.string hg)):=J (λW9 h9=>⟨h9,HC.out W9 h9⟩);go_enter func93,ntmps93
 go_upto_region 1 with fail
 clear c10 c11 c12;try refine wp_region_noPanic ?_
 refine wp_region_held_drew (S:=(λW9=>ZL w W9/\W9.cell? ⟨R,10,none⟩=some (I k)/\W9.cell? ⟨R,11,none⟩=some (.string lw)/\W9.cell? ⟨R,12,none⟩=some (.string hg))) (by kernel_rfl) (HKS.out _ XX.out) (λhHeld=>?_);refine Zt 0 (Value.pointer (some ⟨R,0,none⟩)) ?_;try simp only[Act.put,Zm,Zk,Zl]
 refine Zt 1 (Value.pointer (some ⟨R,0,none⟩)) ?_;try simp only[Act.put,Zm,Zk,Zl]
 refine Zt 2 (Value.pointer (some ⟨R,11,none⟩)) ?_;try simp only[Act.put,Zm,Zk,Zl]
 refine Zt 3 (Value.string lw) ?_;try simp only[Act.put,Zm,Zk,Zl]
 refine Zt 4 (Value.bool false) ?_;try simp only[Act.put,Zm,Zk,Zl]
 refine Zt 5 (Value.bool false) ?_;try simp only[Act.put,Zm,Zk,Zl]
 refine Zt 6 (Value.pointer (some ⟨R,0,none⟩)) ?_;try simp only[Act.put,Zm,Zk,Zl]
 refine Zt 7 (Value.pointer (some ⟨R,0,none⟩)) ?_;try simp only[Act.put,Zm,Zk,Zl]
 refine Zt 8 (Value.pointer (some ⟨R,10,none⟩)) ?_;try simp only[Act.put,Zm,Zk,Zl]
 refine Zt 9 (I k) ?_;try simp only[Act.put,Zm,Zk,Zl]
 refine Zt 10 (Value.string v) ?_;try simp only[Act.put,Zm,Zk,Zl]
 refine Zt 11 (Value.pointer (some ⟨R,0,none⟩)) ?_;try simp only[Act.put,Zm,Zk,Zl]
 refine Zt 12 (Value.pointer (some ⟨R,0,none⟩)) ?_;try simp only[Act.put,Zm,Zk,Zl]
 refine Zt 13 (Value.pointer (some ⟨R,11,none⟩)) ?_;try simp only[Act.put,Zm,Zk,Zl]
 refine Zt 14 (Value.string lw) ?_;try simp only[Act.put,Zm,Zk,Zl]
 refine wpAnyH_ready (rs:=[15]) (by kernel_rfl) (by simp) ?_;refine AllReadyH.cons rfl ?_ AllReadyH.nil;intro K hK;go_simp;obtain⟨O,hO,CO⟩:=CL.out _ XX.out;refine ZM CO ?_;rintro w9 hb9;have X2:=J (XX.out.trans (hb9.mono XX.out.size));replace XX:=X2;clear X2 hb9 CO;refine hK.out _ _ (HKS.out _ XX.out) (λhHeld9=>?_);clear hK K;try simp only[Act.put,Zm,Zk,Zl]
 refine wpAnyH_ready (rs:=[16]) (by kernel_rfl) (by simp) ?_;refine AllReadyH.cons rfl ?_ AllReadyH.nil;intro K hK;go_simp;refine ZM (ZgE _ _ _ _) ?_;rintro w9 h9;rw[h9,hO];clear h9 w9;refine hK.out _ _ (HKS.out _ XX.out) (λhHeld9=>?_);clear hK K hO;try simp only[Act.put,Zm,Zk,Zl]
 refine Zt 17 (Value.bool false) ?_;try simp only[Act.put,Zm,Zk,Zl]
 refine Zt 18 (Value.bool false) ?_;try simp only[Act.put,Zm,Zk,Zl]
 refine Zak 19 ?_;try simp only[Act.put,Zm,Zk,Zl]
 refine Zak 20 ?_;try simp only[Act.put,Zm,Zk,Zl]
 refine Zak 21 ?_;try simp only[Act.put,Zm,Zk,Zl]
 refine Zak 22 ?_;try simp only[Act.put,Zm,Zk,Zl]
 refine Zak 23 ?_;try simp only[Act.put,Zm,Zk,Zl]
 refine Zak 24 ?_;try simp only[Act.put,Zm,Zk,Zl]
 refine Zak 25 ?_;try simp only[Act.put,Zm,Zk,Zl]
 refine Zak 26 ?_;try simp only[Act.put,Zm,Zk,Zl]
 refine Zak 27 ?_;try simp only[Act.put,Zm,Zk,Zl]
 refine Zak 28 ?_;try simp only[Act.put,Zm,Zk,Zl]
 refine Zak 29 ?_;try simp only[Act.put,Zm,Zk,Zl]
 refine Zak 30 ?_;try simp only[Act.put,Zm,Zk,Zl]
 refine Zak 31 ?_;try simp only[Act.put,Zm,Zk,Zl]
 refine Zak 32 ?_;try simp only[Act.put,Zm,Zk,Zl]
 refine Zak 33 ?_;try simp only[Act.put,Zm,Zk,Zl]
 refine Zak 34 ?_;try simp only[Act.put,Zm,Zk,Zl]
 refine Zak 35 ?_;try simp only[Act.put,Zm,Zk,Zl]
 refine Zak 36 ?_;try simp only[Act.put,Zm,Zk,Zl]
 refine wpAnyH_ready (rs:=[37]) (by kernel_rfl) (by simp) ?_;refine AllReadyH.cons rfl ?_ AllReadyH.nil;intro K hK;go_simp;refine hK.out _ _ (by assumption) (λhHeld9=>?_);clear hK K;try simp only[Act.put,Zm,Zk,Zl]
 refine wpAnyH_ready (rs:=[38]) (by kernel_rfl) (by simp) ?_;refine AllReadyH.cons rfl ?_ AllReadyH.nil;intro K hK;go_simp;refine hK.out _ _ (by assumption) (λhHeld9=>?_);clear hK K;try simp only[Act.put,Zm,Zk,Zl]
 refine wpAnyH_done (by kernel_rfl) ?_ _;try refine NoPanic.normal ?_
 go_wp2;go_ret;exact⟨rfl,XX.out⟩
theorem ZrS(k:Int)(lw hg v:ZB)(R:Nat)(w:World)(b2:Bool)(hl:lw.toList.isEmpty=false)(hh:hg.toList.isEmpty=false)
  (HC:Hid (∀w',ZL w w'->w'.cell? ⟨R,10,none⟩=some (I k)/\w'.cell? ⟨R,11,none⟩=some (.string lw)/\w'.cell? ⟨R,12,none⟩=some (.string hg)))
  (CL:Hid (∀w',ZL w w'->∃O,(decide (0<=O/\O<=1)=true)/\Calls prog 128 #[I k,.string v,.string lw] w' λe w2=>e=.returned (I O)/\ZL w' w2)) (CH:Hid (∀w',ZL w w'->∃O,(decide (-1<=O/\O<=0)=b2)/\Calls prog 128 #[I k,.string v,.string hg] w' λe w2=>e=.returned (I O)/\ZL w' w2)):
  Calls prog 93 #[.pointer (some ⟨R,0,none⟩),.string v] w λe w'=>e=.returned (.bool b2)/\ZL w w':=by
 obtain⟨c10,c11,c12⟩:=HC.out w (Ze _ _);have XX:Hid (ZL w w.drew):=J ⟨rfl,rfl,rfl,Zb _,λ_ _=>rfl⟩;have HKS:Hid (∀W9,ZL w W9->ZL w W9/\W9.cell? ⟨R,10,none⟩=some (I k)/\W9.cell? ⟨R,11,none⟩=some (.string lw)/\W9.cell? ⟨R,12,none⟩=some (.string hg)):=J (λW9 h9=>⟨h9,HC.out W9 h9⟩);go_enter func93,ntmps93
 go_upto_region 1 with fail
 clear c10 c11 c12;try refine wp_region_noPanic ?_
 refine wp_region_held_drew (S:=(λW9=>ZL w W9/\W9.cell? ⟨R,10,none⟩=some (I k)/\W9.cell? ⟨R,11,none⟩=some (.string lw)/\W9.cell? ⟨R,12,none⟩=some (.string hg))) (by kernel_rfl) (HKS.out _ XX.out) (λhHeld=>?_);refine Zt 0 (Value.pointer (some ⟨R,0,none⟩)) ?_;try simp only[Act.put,Zm,Zk,Zl]
 refine Zt 1 (Value.pointer (some ⟨R,0,none⟩)) ?_;try simp only[Act.put,Zm,Zk,Zl]
 refine Zt 2 (Value.pointer (some ⟨R,11,none⟩)) ?_;try simp only[Act.put,Zm,Zk,Zl]
 refine Zt 3 (Value.string lw) ?_;try simp only[Act.put,Zm,Zk,Zl]
 refine Zt 4 (Value.bool false) ?_;try simp only[Act.put,Zm,Zk,Zl]
 refine Zt 5 (Value.bool false) ?_;try simp only[Act.put,Zm,Zk,Zl]
 refine Zt 6 (Value.pointer (some ⟨R,0,none⟩)) ?_;try simp only[Act.put,Zm,Zk,Zl]
 refine Zt 7 (Value.pointer (some ⟨R,0,none⟩)) ?_;try simp only[Act.put,Zm,Zk,Zl]
 refine Zt 8 (Value.pointer (some ⟨R,10,none⟩)) ?_;try simp only[Act.put,Zm,Zk,Zl]
 refine Zt 9 (I k) ?_;try simp only[Act.put,Zm,Zk,Zl]
 refine Zt 10 (Value.string v) ?_;try simp only[Act.put,Zm,Zk,Zl]
 refine Zt 11 (Value.pointer (some ⟨R,0,none⟩)) ?_;try simp only[Act.put,Zm,Zk,Zl]
 refine Zt 12 (Value.pointer (some ⟨R,0,none⟩)) ?_;try simp only[Act.put,Zm,Zk,Zl]
 refine Zt 13 (Value.pointer (some ⟨R,11,none⟩)) ?_;try simp only[Act.put,Zm,Zk,Zl]
 refine Zt 14 (Value.string lw) ?_;try simp only[Act.put,Zm,Zk,Zl]
 refine wpAnyH_ready (rs:=[15]) (by kernel_rfl) (by simp) ?_;refine AllReadyH.cons rfl ?_ AllReadyH.nil;intro K hK;go_simp;obtain⟨O,hO,CO⟩:=CL.out _ XX.out;refine ZM CO ?_;rintro w9 hb9;have X2:=J (XX.out.trans (hb9.mono XX.out.size));replace XX:=X2;clear X2 hb9 CO;refine hK.out _ _ (HKS.out _ XX.out) (λhHeld9=>?_);clear hK K;try simp only[Act.put,Zm,Zk,Zl]
 refine wpAnyH_ready (rs:=[16]) (by kernel_rfl) (by simp) ?_;refine AllReadyH.cons rfl ?_ AllReadyH.nil;intro K hK;go_simp;refine ZM (ZgE _ _ _ _) ?_;rintro w9 h9;rw[h9,hO];clear h9 w9;refine hK.out _ _ (HKS.out _ XX.out) (λhHeld9=>?_);clear hK K hO;try simp only[Act.put,Zm,Zk,Zl]
 refine Zt 17 (Value.bool true) ?_;try simp only[Act.put,Zm,Zk,Zl]
 refine Zt 18 (Value.bool true) ?_;try simp only[Act.put,Zm,Zk,Zl]
 refine Zt 19 (Value.pointer (some ⟨R,0,none⟩)) ?_;try simp only[Act.put,Zm,Zk,Zl]
 refine Zt 20 (Value.pointer (some ⟨R,0,none⟩)) ?_;try simp only[Act.put,Zm,Zk,Zl]
 refine Zt 21 (Value.pointer (some ⟨R,12,none⟩)) ?_;try simp only[Act.put,Zm,Zk,Zl]
 refine Zt 22 (Value.string hg) ?_;try simp only[Act.put,Zm,Zk,Zl]
 refine Zt 23 (Value.bool false) ?_;try simp only[Act.put,Zm,Zk,Zl]
 refine Zt 24 (Value.bool false) ?_;try simp only[Act.put,Zm,Zk,Zl]
 refine Zt 25 (Value.pointer (some ⟨R,0,none⟩)) ?_;try simp only[Act.put,Zm,Zk,Zl]
 refine Zt 26 (Value.pointer (some ⟨R,0,none⟩)) ?_;try simp only[Act.put,Zm,Zk,Zl]
 refine Zt 27 (Value.pointer (some ⟨R,10,none⟩)) ?_;try simp only[Act.put,Zm,Zk,Zl]
 refine Zt 28 (I k) ?_;try simp only[Act.put,Zm,Zk,Zl]
 refine Zt 29 (Value.string v) ?_;try simp only[Act.put,Zm,Zk,Zl]
 refine Zt 30 (Value.pointer (some ⟨R,0,none⟩)) ?_;try simp only[Act.put,Zm,Zk,Zl]
 refine Zt 31 (Value.pointer (some ⟨R,0,none⟩)) ?_;try simp only[Act.put,Zm,Zk,Zl]
 refine Zt 32 (Value.pointer (some ⟨R,12,none⟩)) ?_;try simp only[Act.put,Zm,Zk,Zl]
 refine Zt 33 (Value.string hg) ?_;try simp only[Act.put,Zm,Zk,Zl]
 refine wpAnyH_ready (rs:=[34]) (by kernel_rfl) (by simp) ?_;refine AllReadyH.cons rfl ?_ AllReadyH.nil;intro K hK;go_simp;obtain⟨O,hO,CO⟩:=CH.out _ XX.out;refine ZM CO ?_;rintro w9 hb9;have X2:=J (XX.out.trans (hb9.mono XX.out.size));replace XX:=X2;clear X2 hb9 CO;refine hK.out _ _ (HKS.out _ XX.out) (λhHeld9=>?_);clear hK K;try simp only[Act.put,Zm,Zk,Zl]
 refine wpAnyH_ready (rs:=[35]) (by kernel_rfl) (by simp) ?_;refine AllReadyH.cons rfl ?_ AllReadyH.nil;intro K hK;go_simp;refine ZM (ZgE _ _ _ _) ?_;rintro w9 h9;rw[h9,hO];clear h9 w9;refine hK.out _ _ (HKS.out _ XX.out) (λhHeld9=>?_);clear hK K hO;try simp only[Act.put,Zm,Zk,Zl]
 refine Zt 36 (Value.bool b2) ?_;try simp only[Act.put,Zm,Zk,Zl]
 refine Zt 37 (Value.bool b2) ?_;try simp only[Act.put,Zm,Zk,Zl]
 refine wpAnyH_ready (rs:=[38]) (by kernel_rfl) (by simp) ?_;refine AllReadyH.cons rfl ?_ AllReadyH.nil;intro K hK;go_simp;refine hK.out _ _ (by assumption) (λhHeld9=>?_);clear hK K;try simp only[Act.put,Zm,Zk,Zl]
 refine wpAnyH_done (by kernel_rfl) ?_ _;try refine NoPanic.normal ?_
 go_wp2;go_ret;exact⟨rfl,XX.out⟩
def ZfI(k:Int)(t:ZB):ZB:=if t.size=0 then ⟨#[]⟩ else atV k t
def RuP(w:World)(r:Ru):Prop:=TyZ r.x/\fkP r.x r.cs/\r.lw=ZfI r.cs r.x.lo/\r.hg=ZfI r.cs r.x.hi/\r.ev=r.x.en.map (atV r.cs)/\Zm7 w r.ea r.ev w.heap.size/\ZcZ .i64 w r.am r.x.ms w.heap.size/\(r.x.pt.size=0\/PtM w r.x.pt r.p0 r.p1 r.p2 r.p3)
theorem Zlk{w w':World}{r:Ru}(h:RuP w r)(hb:ZL w w'):RuP w' r:=by
 obtain⟨h1,h2,h3,h4,h5,h6,h7,h8⟩:=h;exact⟨h1,h2,h3,h4,h5,Zuz (Zq2 h6 hb) hb.size,Zrf (ZqD h7 hb) hb.size,h8.imp id (λh=>ZzB h hb)⟩
theorem Zli{k:Int}{t:ZB}(hk:odK k\/t.size=0)(ho:t.size=0\/atO k t=true)(hz:t.size<=20000):
  (t.size=0/\(ZfI k t).toList.isEmpty=true)\/(¬t.size=0/\ZfI k t=atV k t/\(ZfI k t).toList.isEmpty=false/\(atV k t).size<=20000/\(k=7->ZH (atV k t)=true)):=by
 unfold ZfI;by_cases h:t.size=0
 ·rw[Zd h];exact .inl ⟨h,by rw[ZEr];rfl⟩
 ·rw[Za h];have hao:=ho.resolve_left h;have hkk:=hk.resolve_right h;have:=Zx7 hkk hao;exact .inr ⟨h,rfl,Zbx (by omega),Zb5 (ZcU hao (Zi9 hao hz)),λe=>by subst e;rw[ZfE];rw[Zfm]at hao;exact(Zb2 hao).1⟩
theorem ZlO(r:Ru)(R:Nat)(v:ZB)(w:World)(hv:v.size<=1048576)(h7:r.cs=7->ZH v=true)(h:RuB w R r)(zl:r.x.lo.size<=20000)(zh:r.x.hi.size<=20000)(f5:odK r.cs\/(r.x.lo.size=0/\r.x.hi.size=0))(f8:r.x.lo.size=0\/atO r.cs r.x.lo=true)(f9:r.x.hi.size=0\/atO r.cs r.x.hi=true)
  (hlw:r.lw=ZfI r.cs r.x.lo) (hhg:r.hg=ZfI r.cs r.x.hi) (hE:Zg1 w):
  Calls prog 93 #[.pointer (some ⟨R,0,none⟩),.string v] w (BlA ((r.x.lo.size=0\/ZeB r.cs (atV r.cs r.x.lo) v)/\(r.x.hi.size=0\/ZeB r.cs v (atV r.cs r.x.hi))) w):=by
 have HC:Hid (∀w',ZL w w'->w'.cell? ⟨R,10,none⟩=some (I r.cs)/\w'.cell? ⟨R,11,none⟩=some (.string r.lw)/\w'.cell? ⟨R,12,none⟩=some (.string r.hg)):=J (λw' hb=>⟨ZE (Zbk h hb) 10,ZE (Zbk h hb) 11,ZE (Zbk h hb) 12⟩);have dl:=Zli (f5.imp id And.left) f8 zl;have dh:=Zli (f5.imp id And.right) f9 zh;rw[<-hlw]at dl;rw[<-hhg]at dh;have fin:∀(b:Bool) (P:Prop),(b=true↔P)->Calls prog 93 #[.pointer (some ⟨R,0,none⟩),.string v] w (λe w'=>e=.returned (.bool b)/\ZL w w')->Calls prog 93 #[.pointer (some ⟨R,0,none⟩),.string v] w (BlA P w):=λb P hb hc=>hc.mono (by rintro e w' ⟨rfl,hb2⟩;exact⟨b,rfl,hb,hb2⟩)
 have CO:∀(t:ZB),t.size<=20000->(r.cs=7->ZH t=true)->∀w',ZL w w'->Calls prog 128 #[I r.cs,.string v,.string t] w' λe w2=>e=.returned (I (ZeN r.cs v t))/\ZL w' w2:=λt ht h77 w' hb=>Zyk r.cs v t w' hv (by omega) (λe=>⟨h7 e,h77 e⟩) (ZbB hE hb)
 have LP:∀t,decide (0<=ZeN r.cs v t/\ZeN r.cs v t<=1)=true↔ZeB r.cs t v:=λt=>by
  rw[Z6,<-Ztt];omega
 have HPq:∀t,decide (-1<=ZeN r.cs v t/\ZeN r.cs v t<=0)=true↔ZeB r.cs v t:=λt=>by
  rw[Z6];unfold ZeB;omega
 rcases dl with ⟨l0,l1⟩|⟨l0,l1,l2,l3,l4⟩
 ·rcases dh with ⟨g0,g1⟩|⟨g0,g1,g2,g3,g4⟩
  ·exact fin true _ ⟨λ_=>⟨.inl l0,.inl g0⟩,λ_=>rfl⟩ (Zrq r.cs r.lw r.hg v R w true l1 g1 HC)
  ·refine fin _ _ ?_ (ZsS r.cs r.lw r.hg v R w (decide (-1<=ZeN r.cs v r.hg/\ZeN r.cs v r.hg<=0)) l1 g2 HC (J (λw' hb=>⟨_,rfl,CO r.hg (by rw[g1];exact g3) (by rw[g1];exact g4) w' hb⟩)));rw[HPq,g1];exact⟨λe=>⟨.inl l0,.inr e⟩,λe=>e.2.resolve_left g0⟩
 ·have CL:=CO r.lw (by rw[l1];exact l3) (by rw[l1];exact l4);have LP1:=LP r.lw;rw[l1]at LP1;cases hb1:decide (0<=ZeN r.cs v r.lw/\ZeN r.cs v r.lw<=1)
  ·refine fin false _ ?_ (Zqj r.cs r.lw r.hg v R w true l2 HC (J (λw' hb=>⟨_,hb1,CL w' hb⟩)));rw[l1]at hb1;refine⟨λe=>(by cases e),λe=>?_⟩;have:=LP1.2 (e.1.resolve_left l0);rw[this]at hb1;cases hb1
  ·have hlo:ZeB r.cs (atV r.cs r.x.lo) v:=LP1.1 (by rw[l1]at hb1;exact hb1);rcases dh with ⟨g0,g1⟩|⟨g0,g1,g2,g3,g4⟩
   ·exact fin true _ ⟨λ_=>⟨.inr hlo,.inl g0⟩,λ_=>rfl⟩ (ZpQ r.cs r.lw r.hg v R w true l2 g1 HC (J (λw' hb=>⟨_,hb1,CL w' hb⟩)))
   ·refine fin _ _ ?_ (ZrS r.cs r.lw r.hg v R w (decide (-1<=ZeN r.cs v r.hg/\ZeN r.cs v r.hg<=0)) l2 g2 HC (J (λw' hb=>⟨_,hb1,CL w' hb⟩)) (J (λw' hb=>⟨_,rfl,CO r.hg (by rw[g1];exact g3) (by rw[g1];exact g4) w' hb⟩)));rw[HPq,g1];exact⟨λe=>⟨.inr hlo,.inr e⟩,λe=>e.2.resolve_left g0⟩
theorem Zq9(r:Ru)(R:Nat)(v:ZB)(w:World)(hv:v.size<=1048576)(h7:r.cs=7->ZH v=true)(h:RuB w R r)(hp:RuP w r)(hE:Zg1 w):
  Calls prog 93 #[.pointer (some ⟨R,0,none⟩),.string v] w (BlA ((r.x.lo.size=0\/ZeB r.cs (atV r.cs r.x.lo) v)/\(r.x.hi.size=0\/ZeB r.cs v (atV r.cs r.x.hi))) w):=
 ZlO r R v w hv h7 h hp.1.2.1 hp.1.2.2.1 hp.2.1.2.2.2.2.1 hp.2.1.2.2.2.2.2.2.2.1 hp.2.1.2.2.2.2.2.2.2.2.1 hp.2.2.1 hp.2.2.2.1 hE
theorem Zu2{x:Ty}{k:Int}{s v:ZB}(hf:fkP x k):fcP x k s v↔(x.mn<=(Znp k v:Int)/\(x.mx = -1\/(Znp k v:Int)<=x.mx))/\((x.lo.size=0\/ZeB k (atV k x.lo) v)/\(x.hi.size=0\/ZeB k v (atV k x.hi)))/\(x.pt.size=0\/ZnX x.pt (if k=1 then s else jnB s))/\(x.en.map (atV k)=[]\/v∈x.en.map (atV k)):=by
 unfold fcP;have h1:=hf.1;have h2:=hf.2.1;have e1:(x.en.map (atV k)=[]\/v∈x.en.map (atV k))↔(x.en=[]\/∃e∈x.en,atV k e=v):=by
  rw[List.map_eq_nil_iff,List.mem_map]
 rw[e1];constructor
 ·rintro ⟨a,b,c,d,e,f⟩;exact⟨⟨by omega,by omega⟩,⟨c,d⟩,e,f⟩
 ·rintro ⟨⟨a,b⟩,⟨c,d⟩,e,f⟩;exact⟨by omega,by omega,c,d,e,f⟩
theorem Ztj(r:Ru)(R:Nat)(s v:ZB)(w:World)(hs:s.size<=1048576)(hv:v.size<=1048576)(hpl:r.cs≠8->ZD v=true)(h7:r.cs=7->ZH v=true)(h:RuB w R r)(hp:RuP w r)(hE:Zg1 w):
  Calls prog 51 #[.pointer (some ⟨R,0,none⟩),.string v,.string s] w (BlA (fcP r.x r.cs s v) w):=by
 have C1:=J (Zym r R v w hv hpl h);have C2:=J (λw1 h1=>Zq9 r R v w1 hv h7 (Zbk h h1) (Zlk hp h1) (ZbB hE h1));have C3:=J (λw1 h1=>ZA4 r R s w1 hs (Zbk h h1) (Zlk hp h1).2.2.2.2.2.2.2 (ZbB hE h1));have hn:r.ev.length<=1000:=by rw[hp.2.2.2.2.1,ZDD];have:=hp.2.1.2.2.2.2.2.1;omega
 have C4:=J (λw1 h1=>ZuN r R v w1 (Zbk h h1) hn (Zlk hp h1).2.2.2.2.2.1);have HF:=J (Zu2 (s:=s) (v:=v) hp.2.1);rw[hp.2.2.2.2.1]at C4;generalize fcP r.x r.cs s v=P at HF ⊢;generalize (r.x.mn<=(Znp r.cs v:Int)/\(r.x.mx = -1\/(Znp r.cs v:Int)<=r.x.mx))=P1 at C1 HF;generalize ((r.x.lo.size=0\/ZeB r.cs (atV r.cs r.x.lo) v)/\(r.x.hi.size=0\/ZeB r.cs v (atV r.cs r.x.hi)))=P2 at C2 HF;generalize (r.x.pt.size=0\/ZnX r.x.pt (if r.cs=1 then s else jnB s))=P3 at C3 HF;generalize (r.x.en.map (atV r.cs)=[]\/v∈r.x.en.map (atV r.cs))=P4 at C4 HF;clear h hp hE hpl h7 hn;go_enter func51,ntmps51
 go_wp2_with fail
 refine C1.out.mono ?_;rintro e w1 ⟨B1,rfl,hB1,hb1⟩;have HB1:=J hb1;have HP1:=J hB1;clear hb1 hB1 C1;cases B1
 ·have HN:Hid (¬P):=J (λh=>by have:=HP1.out.2 (HF.out.1 h).1;cases this);go_wp2;go_ret;exact ZdQ HN.out HB1.out
 go_wp2_with fail
 refine(C2.out _ HB1.out).mono ?_;rintro e w2 ⟨B2,rfl,hB2,hb2⟩;have HB2:=J (Zp HB1.out hb2);have HP2:=J hB2;clear hb2 hB2 C2;cases B2
 ·have HN:Hid (¬P):=J (λh=>by have:=HP2.out.2 (HF.out.1 h).2.1;cases this);go_wp2;go_ret;exact ZdQ HN.out HB2.out
 go_wp2_with fail
 refine(C3.out _ HB2.out).mono ?_;rintro e w3 ⟨B3,rfl,hB3,hb3⟩;have HB3:=J (Zp HB2.out hb3);have HP3:=J hB3;clear hb3 hB3 C3;cases B3
 ·have HN:Hid (¬P):=J (λh=>by have:=HP3.out.2 (HF.out.1 h).2.2.1;cases this);go_wp2;go_ret;exact ZdQ HN.out HB3.out
 go_wp2_with fail
 refine(C4.out _ HB3.out).mono ?_;rintro e w4 ⟨B4,rfl,hB4,hb4⟩;have HB4:=J (Zp HB3.out hb4);have HP4:=J hB4;clear hb4 hB4 C4;have HY:Hid (B4=true↔P):=J (by
  rw[HF.out,HP4.out];exact⟨λe=>⟨HP1.out.1 (by first|rfl|trivial),HP2.out.1 (by first|rfl|trivial),HP3.out.1 (by first|rfl|trivial),e⟩,λe=>e.2.2.2⟩)
 go_wp2;go_ret;exact⟨B4,rfl,HY.out,HB4.out⟩
noncomputable def kvP (L:List Ty)(n:Nat)(s:ZB):Option ZB:=
 if (tyA L n).kd=9 then ZkE ((tyA L n).ms.map λm=>Zq L m.toNat s)
 else if (tyA L n).kd=8 then (match Zfn ((wdB [] s.data.toList).map λu=>Zq L (tyA L n).bs.toNat ⟨u.toArray⟩) with
  |none=>none
  |some vs=>some (Zd3 vs))
 else if (tyA L n).kd=10 then Zq L (tyA L n).bs.toNat s
 else if atO (tyA L n).kd s=true then some (atV (tyA L n).kd s) else none
theorem Zqo{L:List Ty}{n:Nat}{s:ZB}(h:(tyA L n).kd=9):kvP L n s=ZkE ((tyA L n).ms.map λm=>Zq L m.toNat s):=by
 unfold kvP;rw[Zd h]
theorem Zsj{L:List Ty}{n:Nat}{s:ZB}(h:(tyA L n).kd=8):kvP L n s=(match Zfn ((wdB [] s.data.toList).map λu=>Zq L (tyA L n).bs.toNat ⟨u.toArray⟩) with
  |none=>none
  |some vs=>some (Zd3 vs)):=by
 unfold kvP;rw[Za (by omega),Zd h]
theorem ZsV{L:List Ty}{n:Nat}{s:ZB}(h:(tyA L n).kd=10):kvP L n s=Zq L (tyA L n).bs.toNat s:=by
 unfold kvP;rw[Za (by omega),Za (by omega),Zd h]
theorem Zs0{L:List Ty}{n:Nat}{s:ZB}(h:(tyA L n).kd<=7):kvP L n s=if atO (tyA L n).kd s=true then some (atV (tyA L n).kd s) else none:=by
 unfold kvP;rw[Za (by omega),Za (by omega),Za (by omega)]
theorem ZyL{x:Ty}{s v:ZB}(h:fkP x 9):fcP x 9 s v:=by
 obtain⟨-,-,h3,-,h5,-,h7,-⟩:=h;have hl:¬lgK 9:=by unfold lgK;omega
 have ho:¬odK 9:=by unfold odK;omega
 have h3:=h3.resolve_left hl;have h5:=h5.resolve_left ho;have h7:=h7 (by omega);exact⟨λe=>by omega,λe=>by omega,.inl h5.1,.inl h5.2,.inl h7.1,.inl h7.2⟩
theorem ZAA{L:List Ty}{n:Nat}{s:ZB}(h:Zea L n):Zq L n s=match kvP L n s with
  |none=>none
  |some v=>fcO (tyA L n) (prP L n) s v:=by
 have hk:=h.2.2.1;by_cases e:(tyA L n).kd=10
 ·rw[ZhF e (h.2.2.2.1 (.inr e)),ZsV e];generalize Zq L (tyA L n).bs.toNat s=o;cases o<;>rfl
 ·by_cases e9:(tyA L n).kd=9
  ·obtain⟨-,hm⟩:=h.2.2.2.2.2.2.1 e9;rw[Zkf e9 (λm hmm=>(hm m hmm).1),Zqo e9];have hf:=h.2.2.2.2.2.2.2.2;rw[Zdb e,e9]at hf ⊢;generalize ZkE ((tyA L n).ms.map λm=>Zq L m.toNat s)=o;rcases o with _|v
   ·rfl
   ·exact(Zmx (ZyL hf)).symm
  ·by_cases e8:(tyA L n).kd=8
   ·rw[Zmr e8 (h.2.2.2.1 (.inl e8)),Zsj e8,Zdb e,e8];generalize Zfn ((wdB [] s.data.toList).map λu=>Zq L (tyA L n).bs.toNat ⟨u.toArray⟩)=o;cases o<;>rfl
   ·rw[Zma (by omega),Zs0 (by omega),Zdb e];by_cases ha:atO (tyA L n).kd s=true
    ·rw[Zd ha,Zd ha]
    ·rw[Za ha,Za ha]
theorem Zlt{L:List Ty}:∀(n:Nat) (s v:ZB),(∀j,j<=n->Zea L j)->prP L n≠8->ZD s=true->Zq L n s=some v->ZD v=true:=by
 intro n;induction n using Nat.strongRecOn with
 |_ n ih=>
  intro s v h hp hpl hv;have h0:=h n (Zb _);have hr:=Znq n h;by_cases h7:prP L n<=7
  ·obtain⟨ho,rfl⟩:=Ze8 n s v h h7 hv;exact ZcU ho hpl
  ·by_cases e:(tyA L n).kd=10
   ·have hb:=h0.2.2.2.1 (.inr e);rw[ZhF e hb]at hv;rcases hx:Zq L (tyA L n).bs.toNat s with _|u
    ·rw[hx]at hv;cases hv
    ·rw[hx]at hv;obtain⟨rfl,-⟩:=ZhS hv;exact ih _ (by omega) s _ (λj hj=>h j (by omega)) (by rw[<-Zee e hb];exact hp) hpl hx
   ·have e9:(tyA L n).kd=9:=(by rw[Zdb e]at hp hr h7;omega);obtain⟨-,hm⟩:=h0.2.2.2.2.2.2.1 e9;rw[Zkf e9 (λm hmm=>(hm m hmm).1)]at hv;obtain⟨m,hmm,hmv⟩:=List.mem_map.1 (Zhm _ _ hv);have hm2:=hm m hmm;have:=hm2.1;exact ih _ (by omega) s _ (λj hj=>h j (by omega)) (by omega) hpl hmv
theorem Zu7{L:List Ty}{n:Nat}{s v:ZB}(h:∀j,j<=n->Zea L j)(hs:s.size<=4000)(hpl:ZD s=true)(hv:kvP L n s=some v):
  v.size<=800000/\(prP L n≠8->ZD v=true)/\(prP L n=7->ZH v=true):=by
 have h0:=h n (Zb _);have hk:=h0.2.2.1;by_cases e:(tyA L n).kd=10
 ·have hb:=h0.2.2.2.1 (.inr e);rw[ZsV e]at hv;have hj:∀j,j<=(tyA L n).bs.toNat->Zea L j:=λj hj=>h j (by omega)
  rw[Zee e hb];exact⟨(Zhs _ s v hj hs hpl hv).1,λhp=>Zlt _ s v hj hp hpl hv,λhp=>Znf hj hp hv⟩
 ·rw[Zdb e];by_cases e9:(tyA L n).kd=9
  ·obtain⟨-,hm⟩:=h0.2.2.2.2.2.2.1 e9;rw[Zqo e9]at hv;obtain⟨m,hmm,hmv⟩:=List.mem_map.1 (Zhm _ _ hv);have hm2:=hm m hmm;have hm3:=hm2.1;have hj:∀j,j<=m.toNat->Zea L j:=λj hj=>h j (by omega)
   exact⟨(Zhs _ s v hj hs hpl hmv).1,λ_=>Zlt _ s v hj (by omega) hpl hmv,λhp=>by omega⟩
  ·by_cases e8:(tyA L n).kd=8
   ·have hb:=h0.2.2.2.1 (.inl e8);rw[Zsj e8]at hv;rcases hx:Zfn ((wdB [] s.data.toList).map λu=>Zq L (tyA L n).bs.toNat ⟨u.toArray⟩) with _|vs
    ·rw[hx]at hv;cases hv
    ·rw[hx]at hv;cases hv;have hok:=λj (hj:j<=(tyA L n).bs.toNat)=>h j (by omega)
     exact⟨(Ze6 hok (h0.2.2.2.2.2.1 e8) hx hs).1,λhp=>absurd e8 hp,λhp=>by omega⟩
   ·rw[Zs0 (by omega)]at hv;by_cases ha:atO (tyA L n).kd s=true
    ·rw[Zd ha]at hv;cases hv;have:=Zkp ha;have hp:=ZcU ha hpl;refine⟨by omega,λ_=>hp,λh7=>?_⟩;rw[h7]at ha ⊢;rw[Zfm]at ha;rw[ZfE];exact(Zb2 ha).1
    ·rw[Za ha]at hv;cases hv
def Zz2(w:World)(a:Option Addr)(rs:List Ru)(B:Nat):Prop:=rs≠[]->∃b off,a=some ⟨b,off,none⟩/\b<B/\∀(j:Nat) (r:Ru),rs[j]?=some r->∀(i:Nat) (v:Value),(ruV r)[i]?=some v->w.cell? ⟨b,off+j*18+i,none⟩=some v
theorem Zxp{w w':World}{a:Option Addr}{rs:List Ru}{B:Nat}(h:Zz2 w a rs B)(hb:Below B w w'):Zz2 w' a rs B:=λh0=>by
 obtain⟨b,off,e,hl,hc⟩:=h h0;exact⟨b,off,e,hl,λj r hj i v hv=>(hb.cell (p:=⟨b,off+j*18+i,none⟩) hl).trans (hc j r hj i v hv)⟩
theorem Zxw{w:World}{a:Option Addr}{rs:List Ru}{B B':Nat}(h:Zz2 w a rs B)(k:B<=B'):Zz2 w a rs B':=λh0=>by
 obtain⟨b,off,e,hl,hc⟩:=h h0;exact⟨b,off,e,ZDy hl k,hc⟩
def RuW(w:World)(a:Option Addr)(L:List Ty)(rs:List Ru):Prop:=Zz2 w a rs w.heap.size/\Zg1 w/\∀(j:Nat) (r:Ru),rs[j]?=some r->r.x=tyA L j/\r.cs=prP L j/\RuP w r
theorem ZgV{w w':World}{a:Option Addr}{L:List Ty}{rs:List Ru}(h:RuW w a L rs)(hb:ZL w w'):RuW w' a L rs:=
 ⟨Zxw (Zxp h.1 hb) hb.size,ZbB h.2.1 hb,λj r hj=>⟨(h.2.2 j r hj).1,(h.2.2 j r hj).2.1,Zlk (h.2.2 j r hj).2.2 hb⟩⟩
def IVH(L:List Ty)(rs:List Ru)(m:Nat)(a:Option Addr)(c n:Nat):Prop:=∀n',n'<n->∀(s:ZB) (w:World),s.size<=4000->ZD s=true->RuW w a L rs->Calls prog 28 #[.slice a m c,I n',.string s] w (ZT (Zq L n' s) w)
def FmA(L:List Ty)(s:ZB)(ms:List Int)(w:World)(e:Ending)(w':World):Prop:=
 e=.returned (.tuple #[I (ZpI L s ms),.string ((ZkE (ms.map λy=>Zq L y.toNat s)).getD ⟨#[]⟩),.bool (ZkE (ms.map λy=>Zq L y.toNat s)).isSome])/\ZL w w'
theorem ZC2{L:List Ty}{s v:ZB}{ms:List Int}{u:Int}{w w':World}(h1:ZpI L s ms=u)(h2:ZkE (ms.map λy=>Zq L y.toNat s)=some v)(hb:ZL w w'):
  FmA L s ms w (.returned (.tuple #[I u,.string v,.bool true])) w':=by unfold FmA;rw[h1,h2];exact⟨rfl,hb⟩
theorem ZCY{L:List Ty}{s:ZB}{ms:List Int}{w w':World}(h1:ZpI L s ms = -1)(h2:ZkE (ms.map λy=>Zq L y.toNat s)=none)(hb:ZL w w'):
  FmA L s ms w (.returned (.tuple #[I (-1),.string ⟨#[]⟩,.bool false])) w':=by unfold FmA;rw[h1,h2];exact⟨rfl,hb⟩
theorem ZgT{o:Option ZB}(h:o.isSome=false):o=none:=by cases o with
 |none=>rfl
 |some v=>cases h
theorem Zpj(L:List Ty)(rs:List Ru)(m n:Nat)(a:Option Addr)(c:Nat)(ms:List Int)(am:Option Addr)(cm:Nat)(s:ZB)(w:World)(hs:s.size<=4000)(hpl:ZD s=true)(hR:RuW w a L rs)(IH:IVH L rs m a c n)
  (hms:∀y∈ms,0<=y/\y<(n:Int)) (hmq20:ms.length<=20000) (hma:ZcZ .i64 w am ms w.heap.size) (hn:n<=20000):
  Calls prog 35 #[.slice a m c,.slice am ms.length cm,.string s] w (FmA L s ms w):=by
 have HR:=J hR;have HMS:=J hma;have HMR:=J hms;have HIH:=J IH;obtain⟨mq,hmq⟩:∃q,ms.length=q:=⟨_,rfl⟩;have HMQ:=J hmq;rw[hmq]at hmq20 ⊢;clear hmq hR hma hms IH;have HB0:Hid (ZL w w.drew):=J ⟨rfl,rfl,rfl,Zb _,λ_ _=>rfl⟩;go_enter func35,ntmps35
 go_wp2_with fail
 go_loopw [15] (λiv wr=>∃j:Nat,iv=I j/\j<=mq/\Hid (ZL w wr)/\Hid (∀i x,i<j->ms[i]?=some x->(Zq L x.toNat s).isSome=false)) (λiv _=>mq-(Zi iv).toNat)
 case atStart=>exact⟨0,rfl,Zx _,by first|exact HB0|exact J (Ze _ _),J (λi x h=>by omega)⟩
 case round=>
  obtain⟨j,rfl,hj,HB,HA⟩:=hrel;by_cases hlt:j<mq
  ·have hjL:j<ms.length:=by rw[HMQ.out];exact hlt
   have hji:(j:Int)<(mq:Int):=by omega
   obtain⟨be,oe,rfl,hbe,hce⟩:=HMS.out (λe=>by rw[e]at hjL;simp at hjL);have ce0:=(HB.out.cell (p:=⟨be,oe+j,none⟩) hbe).trans (hce j hjL);obtain⟨E,hE⟩:=ZX (ms[j]?.getD 0);have hEj:ms[j]?=some E:=by rw[<-hE,Zv hjL];rfl
   try simp only at ce0
   rw[hE]at ce0;have hEr:=HMR.out E (List.mem_of_getElem? hEj);obtain⟨u,rfl⟩:∃u:Nat,E=u:=⟨E.toNat,by omega⟩;have HEJ:=J hEj;have CV:=J (λw2 (h2:ZL w w2)=>HIH.out u (by omega) s w2 hs hpl (ZgV HR.out h2));obtain⟨o2,ho2⟩:=ZX (Zq L u s);have HO2:=J ho2;rw[ho2]at CV;clear hce hE hEj hEr hjL ho2;go_wp2_with fail
   refine ZM (CV.out _ HB.out) ?_;rintro w5 hb5;have HB5:=J (Zp HB.out hb5);clear hb5 CV ce0;cases o2 with
   |none=>
    have HA2:Hid (∀i x,i<j+1->ms[i]?=some x->(Zq L x.toNat s).isSome=false):=J (λi x hi hx=>by
     by_cases e:i=j
     ·subst e;rw[HEJ.out]at hx;cases hx;rw[ZDK,HO2.out];rfl
     ·exact HA.out i x (by omega) hx)
    simp only[Zf0,Option.getD_none,Option.isSome_none];go_wp2
    go_roundw
    case rel=>exact⟨j+1,by go_num,by omega,HB5,HA2⟩
    case measure=>simp[Zi];omega
   |some v=>
    have HY:Hid (ZpI L s ms=u):=J (Zwk L s ms j u (λi x hi hx=>HA.out i x hi hx) HEJ.out (by rw[ZDK,HO2.out];rfl));have HY2:Hid (ZkE (ms.map λy=>Zq L y.toNat s)=some v):=J (ZrK _ j v (λi hi=>by
     have hiL:i<ms.length:=by
      have:=List.getElem?_eq_some_iff.1 HEJ.out;obtain⟨q,-⟩:=this;omega
     have h1:=HA.out i _ hi (Zv hiL);rw[List.getElem?_map,Zv hiL,Option.map_some,ZgT h1]) (by rw[List.getElem?_map,HEJ.out,Option.map_some,ZDK,HO2.out]))
    simp only[Zf0,Option.getD_some,Option.isSome_some];go_wp2
    go_ret3
    exact ZC2 HY.out HY2.out HB5.out
  ·have hjq:j=mq:=by omega
   have hji:¬(j:Int)<(mq:Int):=by omega
   have HY:Hid (ZpI L s ms = -1):=J (by
    refine Zob L s ms (λx hx=>?_);obtain⟨i,hi,hie⟩:=List.getElem_of_mem hx;exact HA.out i x (by rw[hjq,<-HMQ.out];exact hi) (by rw[Zv hi,hie]))
   have HY2:Hid (ZkE (ms.map λy=>Zq L y.toNat s)=none):=J (ZjB _ (λi hi=>by
    rw[ZDD]at hi;have h1:=HA.out i _ (by rw[hjq,<-HMQ.out];exact hi) (Zv hi);rw[List.getElem?_map,Zv hi,Option.map_some,ZgT h1]))
   clear hjq;go_wp2
   go_ret3
   exact ZCY HY.out HY2.out HB.out
end
end Go.Proofs.YtcdnilpdohknfaaGreatDoor
