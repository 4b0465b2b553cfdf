import Derived.Test.YtcdnilpdohknfaaGreatDoorJ25
import Derived.Test.YtcdnilpdohknfaaGreatDoorJ24
set_option linter.unusedVariables false
set_option linter.unusedSimpArgs false
set_option maxRecDepth 100000
set_option maxHeartbeats 16000000
namespace Go.Proofs.YtcdnilpdohknfaaGreatDoor
open Tryz
section
open Go.RowKit Go.Joins
theorem ZnW{w w3:World}(h:Below w.drew.heap.size w.drew w3):ZL w w3:=⟨h.os,h.tape,h.output,h.size,h.block⟩
theorem ZzD{w:World}{ta:Option Addr}{tc:Nat}{C:List Int}{n:Nat}(hn:C.length=n)(h4:n<=400)(ht:Tx w.heap.size w ta tc C):SD (λj=>w.heap.size<=j) w.heap.size w.heap.size (w.alloc (.cells #[.slice ta n tc,I 0,.bool false,.slice none 0 0] 155)) C 0 false []:=by
 subst hn;refine⟨⟨Zb _,Zx _,h4⟩,ta,tc,none,0,Zz w _,ZbG ht ((Ze w.heap.size w).alloc (Zb _) _),Zrj _ _ _,λk hk=>(by cases hk)⟩
theorem Zib(s:ZB)(C:List Int)(b:Bool)(w:World)(hs:s.size<=1048576)(hC:ZF (rns s)=C)(hb:(rns s).isSome=b):
  Calls prog 99 #[.string s] w (ZqN (rgV C b) (rgO C b) w):=by
 have CR:=J (Zdg s C b w hs hC hb);have hcl:C.length<=20000:=by rw[<-hC];exact Zb0 s
 have HCH:Hid (∀c∈C,chB c=true):=J (by rw[<-hC];exact Zrb s);clear hC hb;go_enter func99,ntmps99
 go_wp2_with fail
 refine CR.out.mono ?_;rintro e w1 ⟨ta,tc,rfl,ho1,hb1⟩;have HO1:=J ho1;have HB1:=J hb1;clear ho1 hb1 CR;cases b
 ·have E:Hid (rgW C false=none):=J (by unfold rgW;rw[Za (by simp)]);go_wp2;go_ret2;exact Zjw E.out HB1.out
 ·by_cases h4:400<C.length
  ·have h4':(400:Int)<(C.length:Int):=by omega
   have E:Hid (rgW C true=none):=J (by unfold rgW;rw[Za (by omega)]);go_wp2;go_ret2;exact Zjw E.out HB1.out
  ·have h4':¬(400:Int)<(C.length:Int):=by omega
   have htc:C.length<=tc/\tc<=maxLen:=by
    rcases HO1.out.2 with ⟨hv',hz⟩|⟨g',cap',cur',hv',-,-,hcc,hmx,-⟩
    ·simp only[ZDG]at hv';unfold maxLen;omega
    ·simp only[ZDG]at hv';omega
   have HE0:Hid (rgW C true=match rdW C with
    |none=>none
    |some X=>if rxB (ZdZ X)=true then some X else none):=J (by unfold rgW;rw[Zd ⟨rfl,by omega⟩]<;>rfl)
   have HS1:=J (ZzD (w:=w1) rfl (by omega) (ZiE HO1.out hcl HCH.out htc));have HQ:=J (ZCm C.length w1.heap.size w1.heap.size C 0 [] _ (4*C.length+4) (by omega) (by omega) (by simp) HS1.out);have hC0:C.drop 0=C:=rfl;rw[hC0]at HQ;have bA:=J ((Ze w1.heap.size w1).alloc (Zb _) (.cells #[.slice ta C.length tc,I 0,.bool false,.slice none 0 0] 155));clear hC0;go_wp2_with fail
   refine HQ.out.mono ?_;rintro e w2 (⟨k2,X2,ho,hX2,rfl,h2,hb2⟩|⟨⟨v,k2,X2,rfl,h2⟩,hno,hb2⟩)
   ·have HB2:=J (HB1.out.trans ((bA.out.trans hb2).mono HB1.out.size));obtain⟨R,hR⟩:=ZX w1.heap.size;rw[hR]at h2;have hRw:w.heap.size<=R:=(by have:=HB1.out.size;omega);obtain⟨tz,tcz,adz,cpz,⟨c0,c1,c2,c3⟩,ff,-⟩:=Zal h2;have hk2:=h2.1.2.1;have HX2:Hid (∃ad c,w2.cell? ⟨R,3,none⟩=some (.slice ad X2.length c)/\XOZ 500 w.heap.size (λj=>w.heap.size<=j) w2 ad c X2):=J (by
     obtain⟨h0,t1,tc1,ad,c,hx1,htx1,hxo,hxk⟩:=h2;exact⟨ad,c,(ZfR hx1).2.2.2,ZhE (Zkb hxo hRw) (λk _ hs=>ZDA hRw hs)⟩)
    obtain⟨ad,cp,c3',hxo⟩:=HX2.out;have HX:=J hxo;clear c3 ff HX2 hxo HQ HS1 bA;by_cases hend:k2<C.length
    ·have hd:decide ((k2:Int)<(C.length:Int))=true:=Zh (by omega);have hi:(k2:Int)<(C.length:Int):=(by omega);have hd2:decide (k2<C.length)=true:=Zh hend;have E:Hid (rgW C true=none):=J (by
      rw[HE0.out];have e9:C.drop k2=C[k2]::C.drop (k2+1):=List.drop_eq_getElem_cons hend;rw[e9]at ho;rw[ZnN ho])
     clear ho HE0 h2;go_wp2;go_quiet (fail)
     revert nq;intro n1
     have HB3:Hid (ZL w (w2.drewN n1)):=J (HB2.out.trans ((ZcE w2 n1).mono HB2.out.size));go_wp2;go_ret2;exact Zjw E.out HB3.out
    ·have hd:decide ((k2:Int)<(C.length:Int))=false:=Zg (by omega);have hi:¬(k2:Int)<(C.length:Int):=(by omega);have hd2:decide (k2<C.length)=false:=Zg hend;have hdr:C.drop k2=[]:=List.drop_eq_nil_of_le (by omega);rw[hdr]at ho;have HE1:Hid (rgW C true=if rxB (ZdZ X2)=true then some X2 else none):=J (by rw[HE0.out,Zns ho]);have CG:=J (λ(W:World) (hW:XOZ 500 w.heap.size (λj=>w.heap.size<=j) W ad cp X2)=>Zqa (ZdZ X2) X2.length ad cp W rfl (by unfold maxLen;omega) (λj hj=>by
      have h9:=ZnD hW hj;show(ZlT X2 j).L.length<=maxLen;unfold maxLen;omega) (Zuf hW))
     clear ho HE0 h2 hdr;have hRlt:R<w2.heap.size:=by
      rcases Nat.lt_or_ge R w2.heap.size with h9|h9
      ·exact h9
      ·simp[World.cell?,Array.getElem?_eq_none h9]at c0
     have HKS:Hid (∀W9,ZL w2 W9->ZL w2 W9/\W9.cell? ⟨R,0,none⟩=some (.slice tz C.length tcz)/\W9.cell? ⟨R,1,none⟩=some (I (k2:Int))/\W9.cell? ⟨R,2,none⟩=some (.bool false)/\W9.cell? ⟨R,3,none⟩=some (.slice ad X2.length cp)):=J (λW9 h9=>⟨h9,(h9.cell (p:=⟨R,0,none⟩) hRlt).trans c0,(h9.cell (p:=⟨R,1,none⟩) hRlt).trans c1,(h9.cell (p:=⟨R,2,none⟩) hRlt).trans c2,(h9.cell (p:=⟨R,3,none⟩) hRlt).trans c3'⟩);have XX:Hid (ZL w2 w2):=J (Ze _ _);clear c0 c1 c2 c3';cases hq:rxB (ZdZ X2)
     ·have E:Hid (rgW C true=none):=J (by rw[HE1.out,Za (by rw[hq];decide)]);rw[hq]at CG;clear hq HE1;go_wp2_with fail
      go_region_held3 (λW9=>ZL w2 W9/\W9.cell? ⟨R,0,none⟩=some (.slice tz C.length tcz)/\W9.cell? ⟨R,1,none⟩=some (I (k2:Int))/\W9.cell? ⟨R,2,none⟩=some (.bool false)/\W9.cell? ⟨R,3,none⟩=some (.slice ad X2.length cp)) (first|assumption|exact HKS.out _ (XX.out.drew)|exact HKS.out _ XX.out) (first|(go_at_call 134;refine ZM (CG.out _ (Zen HX.out (XX.out.drew))) ?_;rintro w9 hb9;have X2:Hid (ZL w2 w9):=J (ZnW ⟨hb9.os,hb9.tape,hb9.output,hb9.size,hb9.block⟩);replace XX:=X2;clear X2 hb9))
      all_goals
       have HB3:=J (HB2.out.trans (XX.out.mono HB2.out.size));go_wp2;go_ret2;exact Zjw E.out HB3.out
     ·have E:Hid (rgW C true=some X2):=J (by rw[HE1.out,Zd hq]);have HQ:=J hq;rw[hq]at CG;clear hq HE1;go_wp2_with fail
      go_region_held3 (λW9=>ZL w2 W9/\W9.cell? ⟨R,0,none⟩=some (.slice tz C.length tcz)/\W9.cell? ⟨R,1,none⟩=some (I (k2:Int))/\W9.cell? ⟨R,2,none⟩=some (.bool false)/\W9.cell? ⟨R,3,none⟩=some (.slice ad X2.length cp)) (first|assumption|exact HKS.out _ (XX.out.drew)|exact HKS.out _ XX.out) (first|(go_at_call 134;refine ZM (CG.out _ (Zen HX.out (XX.out.drew))) ?_;rintro w9 hb9;have X2:Hid (ZL w2 w9):=J (ZnW ⟨hb9.os,hb9.tape,hb9.output,hb9.size,hb9.block⟩);replace XX:=X2;clear X2 hb9))
      all_goals
       have HB3:=J (HB2.out.trans (XX.out.mono HB2.out.size));have HX3:=J (Zen HX.out XX.out);obtain⟨-,-,-,-,c33⟩:=HKS.out _ XX.out;go_wp2;go_ret2;exact Zvs E.out HX3.out HQ.out HB3.out
   ·have HB2:=J (HB1.out.trans ((bA.out.trans hb2).mono HB1.out.size));obtain⟨R,hR⟩:=ZX w1.heap.size;rw[hR]at h2;obtain⟨tz,tcz,adz,cpz,⟨c0,c1,c2,c3⟩,ff,-⟩:=Zal h2;have E:Hid (rgW C true=none):=J (by
     rw[HE0.out];cases hq:rdW C with
     |none=>rfl
     |some Y=>
      have h9:∃u,rdC (4*C.length+4) C []=some (u,Y):=by
       unfold rdW at hq;split at hq
       ·rename_i Z e9;cases hq;exact⟨_,e9⟩
       ·cases hq
      obtain⟨u,h9⟩:=h9;have h10:=ZCK (hno u Y h9);show(if rxB (ZdZ Y)=true then some Y else none)=none;rw[h10];rfl)
    clear hno HE0 h2 HQ HS1 bA ff;go_wp2;go_quiet (fail)
    revert nq;intro n1
    have HB3:Hid (ZL w (w2.drewN n1)):=J (HB2.out.trans ((ZcE w2 n1).mono HB2.out.size));go_wp2;go_ret2;exact Zjw E.out HB3.out
def BlA(P:Prop)(w:World)(e:Ending)(w':World):Prop:=∃B,e=.returned (.bool B)/\(B=true↔P)/\ZL w w'
theorem Zpl{P:Prop}{w w':World}(h:P)(hb:ZL w w'):BlA P w (.returned (.bool true)) w':=⟨true,rfl,⟨λ_=>h,λ_=>rfl⟩,hb⟩
theorem ZdQ{P:Prop}{w w':World}(h:¬P)(hb:ZL w w'):BlA P w (.returned (.bool false)) w':=⟨false,rfl,⟨λe=>(by cases e),λe=>absurd e h⟩,hb⟩
theorem ZeD{w:World}{G:Nat}{v0 v1 v2 v3 v4 v5 v6 v7 v8 v9:Value}(h:ZV w G #[v0,v1,v2,v3,v4,v5,v6,v7,v8,v9]):
  w.cell? ⟨G,0,none⟩=some v0/\w.cell? ⟨G,1,none⟩=some v1/\w.cell? ⟨G,2,none⟩=some v2/\w.cell? ⟨G,3,none⟩=some v3/\w.cell? ⟨G,4,none⟩=some v4/\w.cell? ⟨G,5,none⟩=some v5/\w.cell? ⟨G,6,none⟩=some v6/\w.cell? ⟨G,7,none⟩=some v7/\w.cell? ⟨G,8,none⟩=some v8/\w.cell? ⟨G,9,none⟩=some v9:=
 ⟨ZaI h 0,ZaI h 1,ZaI h 2,ZaI h 3,ZaI h 4,ZaI h 5,ZaI h 6,ZaI h 7,ZaI h 8,ZaI h 9⟩
theorem ZmJ(k:Int)(a b:ZB)(w:World)(ha:a.size<=1048576)(hb:b.size<=1048576)(h7:k=7->ZH a=true/\ZH b=true):
  Calls prog 98 #[I k,.string a,.string b] w λe w'=>e=.returned (I (ZeN k a b))/\ZL w w':=by
 by_cases hk:k=7
 ·subst hk;obtain⟨ra,rb⟩:=h7 rfl;have CA:=J (λw1=>Zm3 a w1 ha);have CB:=J (λw1=>Zm3 b w1 hb);have va:rdV a=.tuple #[.agg #[I (f0 a),I (f1 a),I (f2 a),I (f3 a),I (f4 a),I (f5 a),.bool (zI (Zu a)).1,I (zI (Zu a)).2.1],.bool true]:=by unfold rdV;rw[Zd ra]
  have vb:rdV b=.tuple #[.agg #[I (f0 b),I (f1 b),I (f2 b),I (f3 b),I (f4 b),I (f5 b),.bool (zI (Zu b)).1,I (zI (Zu b)).2.1],.bool true]:=by unfold rdV;rw[Zd rb]
  have HO:Hid (ZeN 7 a b=ZdX (f0 a) (f1 a) (f2 a) (f3 a) (f4 a) (f5 a) (zI (Zu a)).1 (zI (Zu a)).2.1 (f0 b) (f1 b) (f2 b) (f3 b) (f4 b) (f5 b) (zI (Zu b)).1 (zI (Zu b)).2.1):=J rfl;rw[va]at CA;rw[vb]at CB;have CC:=J (λw1=>Zp1 (f0 a) (f1 a) (f2 a) (f3 a) (f4 a) (f5 a) (zI (Zu a)).1 (zI (Zu a)).2.1 (f0 b) (f1 b) (f2 b) (f3 b) (f4 b) (f5 b) (zI (Zu b)).1 (zI (Zu b)).2.1 w1);rw[<-HO.out]at CC;clear va vb ra rb HO h7;generalize f0 a=a0 at CA CC;generalize f1 a=a1 at CA CC;generalize f2 a=a2 at CA CC;generalize f3 a=a3 at CA CC;generalize f4 a=a4 at CA CC;generalize f5 a=a5 at CA CC;generalize (zI (Zu a)).1=a6 at CA CC;generalize (zI (Zu a)).2.1=a7 at CA CC;generalize f0 b=b0 at CB CC;generalize f1 b=b1 at CB CC;generalize f2 b=b2 at CB CC;generalize f3 b=b3 at CB CC;generalize f4 b=b4 at CB CC;generalize f5 b=b5 at CB CC;generalize (zI (Zu b)).1=b6 at CB CC;generalize (zI (Zu b)).2.1=b7 at CB CC;generalize ZeN 7 a b=O at CC ⊢;go_enter func98,ntmps98
  go_wp2_with fail
  refine ZM (CA.out _) ?_;rintro w1 hb1;have HB1:=J hb1;have hal:=(Ze w1.heap.size w1).alloc (Zb _) (.cells #[I a0,I a1,I a2,I a3,I a4,I a5,.bool a6,I a7] 78);have X1:=J (Zcl w1 a0 a1 a2 a3 a4 a5 a6 a7 78);have C1:=J (Zp HB1.out hal);clear hb1 hal CA;go_wp2_with fail
  refine ZM (CB.out _) ?_;rintro w2 hb2;have hal:=(Ze w2.heap.size w2).alloc (Zb _) (.cells #[I b0,I b1,I b2,I b3,I b4,I b5,.bool b6,I b7] 78);have X2:=J (ZbI (ZbI X1.out hb2) hal);have Y2:=J (Zcl w2 b0 b1 b2 b3 b4 b5 b6 b7 78);have C2:=J (Zp (Zp C1.out hb2) hal);clear hb2 hal CB;obtain⟨k0,k1,k2,k3,k4,k5,k6,k7,k8⟩:=X2.out;obtain⟨l0,l1,l2,l3,l4,l5,l6,l7,l8⟩:=Y2.out;clear k0 l0;go_wp2_with fail
  refine ZM (CC.out _) ?_;rintro w3 hb3;have C3:=J (Zp C2.out hb3);clear hb3 CC;go_wp2;go_ret;exact⟨rfl,C3.out⟩
 ·have CA:=J (λw1=>Zq0 a w1 ha);have CB:=J (λw1=>Zq0 b w1 hb);have HO:Hid (ZeN k a b=Zho (ZC a).1 (ZC a).2.1 (ZC a).2.2.1 (ZC b).1 (ZC b).2.1 (ZC b).2.2.1):=J (by unfold ZeN;rw[Za hk]);have za:=ZdY a;have zb:=ZdY b;obtain⟨R1,h1⟩:∃R,ZC a=R:=⟨_,rfl⟩;obtain⟨R2,h2⟩:∃R,ZC b=R:=⟨_,rfl⟩;rw[h1]at CA HO za;rw[h2]at CB HO zb;obtain⟨n1,s1,c1,o1⟩:=R1;obtain⟨n2,s2,c2,o2⟩:=R2;unfold Zil at CA CB;simp only at CA CB HO za zb;have CC:=J (λw1=>ZB8 n1 n2 s1 s2 c1 c2 w1 (by unfold maxLen;omega) (by unfold maxLen;omega));rw[<-HO.out]at CC;clear HO h1 h2 h7 za zb;generalize ZeN k a b=O at CC ⊢;have hk2:(k==7)=false:=by simpa using hk
  go_enter func98,ntmps98
  go_wp2_with fail
  refine ZM (CA.out _) ?_;rintro w1 hb1;have HB1:=J hb1;have hal:=(Ze w1.heap.size w1).alloc (Zb _) (.cells #[.bool n1,.string s1,I c1] 136);have X1:=J (ZfP w1 n1 s1 c1 136);have C1:=J (Zp HB1.out hal);clear hb1 hal CA;go_wp2_with fail
  refine ZM (CB.out _) ?_;rintro w2 hb2;have hal:=(Ze w2.heap.size w2).alloc (Zb _) (.cells #[.bool n2,.string s2,I c2] 136);have X2:=J (Zfd (Zfd X1.out hb2) hal);have Y2:=J (ZfP w2 n2 s2 c2 136);have C2:=J (Zp (Zp C1.out hb2) hal);clear hb2 hal CB;obtain⟨⟨e1,e2,e3⟩,g1,g2,g3⟩:=ZdU X2.out;obtain⟨⟨i1,i2,i3⟩,j1,j2,j3⟩:=ZdU Y2.out;go_wp2_with fail
  refine ZM (CC.out _) ?_;rintro w3 hb3;have C3:=J (Zp C2.out hb3);clear hb3 CC;go_wp2;go_ret;exact⟨rfl,C3.out⟩
theorem Zpk{a b:ZB}(h:(a.toList==b.toList)=true):a=b:=by
 rw[ZEd,ZEr,ZEr]at h;exact Zdf h
theorem ZqV{a b:ZB}(h:(a.toList==b.toList)=false):a≠b:=λe=>by
 subst e;simp at h
theorem ZAn(s:ZB)(k:Int)(h:s.size<=1048576):(if k=1 then s else jnB s).size<=1048576:=by
 have:=Zer s;split<;>omega
theorem ZBa{p:ZB}(h:Zs3 p=true):rgO (ZF (rns p)) (rns p).isSome=true/\rxB (ZdZ (rgV (ZF (rns p)) (rns p).isSome))=true:=by
 refine⟨h,?_⟩;unfold Zs3 rgO at h;unfold rgV;unfold rgW at h ⊢;split at h
 ·rename_i e;rw[Zd e];split at h
  ·cases h
  ·rename_i X e2;split at h
   ·rename_i e3;simp only[Zd e3];exact e3
   ·cases h
 ·cases h
theorem ZbE{t:ZB}(h:t.size=0):t.toList.isEmpty=true:=Znl h
theorem Zbx{t:ZB}(h:¬t.size=0):t.toList.isEmpty=false:=by
 cases e:t.toList.isEmpty
 ·rfl
 ·exfalso;rw[ZEr]at e;have h1:t.data.toList=[]:=by simpa using e
  have h2:t.data.toList.length=t.size:=by simp
  rw[h1]at h2;exact h h2.symm
theorem ZjF(L:List Ty)(m n:Nat)(a:Option Addr)(c:Nat)(s v:ZB)(w:World)(hm:m<=L.length)(hn:n<m)(hz:m<=20000)(hb:bsW L n)(hr:ZiL w a L w.heap.size)(hx:TyZ (tyA L n))(hs:s.size<=1048576)(hv:v.size<=1048576)(hf:fkP (tyA L n) (prP L n))(h7:prP L n=7->ZH v=true):
  Calls prog 59 #[.slice a m c,I n,.string s,.string v] w (BlA (fcP (tyA L n) (prP L n) s v) w):=by
 have CP:=J (λw1 (h1:ZL w w1)=>Zra L m n a c w1 hm hn hz hb (ZcM (ZcP hr h1) h1.size));obtain⟨b,off,rfl,hbs,hrow⟩:=ZeZ hr (j:=n) (by omega);obtain⟨am,cm,ae,ce,hc,hms,hen⟩:=hrow n (by omega);obtain⟨k,hk⟩:=ZX (prP L n);rw[hk]at CP hf h7 ⊢;obtain⟨x,hx2⟩:=ZX (tyA L n);rw[hx2]at hc hx hf hms hen ⊢;obtain⟨z0,z1,z2,z3,z4,z5,z6⟩:=hx;have HEN:=J hen;have HZ6:=J z6;obtain⟨c0,c1,c2,c3,c4,c5,c6,c7,c8,c9⟩:=hc;obtain⟨nm,kd,bs,ms,mn,mx,lo,hi,pt,en⟩:=x;simp only at c0 c1 c2 c3 c4 c5 c6 c7 c8 c9 z0 z1 z2 z3 z4 z5;obtain⟨f1,f2,f3,f4,f5,f6,f7,f8,f9,f10,f11,f12⟩:=hf;simp only at f1 f2 f3 f4 f5 f6 f7 f8 f9 f10 f11 f12;have HF7:=J f7;have HF8:=J f8;have HF9:=J f9;have HF11:=J f11;have HF12:=J f12;have H7:=J h7;obtain⟨q,hq⟩:=ZX en.length;obtain⟨mq,hmq⟩:∃q,ms.length=q:=⟨_,rfl⟩;have HQ:=J hq;rw[hmq]at c3;rw[hq]at c9 z5 f6;have HB0:Hid (ZL w (w.alloc (.cells #[.string nm,I kd,I bs,.slice am mq cm,I mn,I mx,.string lo,.string hi,.string pt,.slice ae q ce] 33))):=J ((Ze _ _).alloc (Zb _) _);have HX0:Hid (ZV (w.alloc (.cells #[.string nm,I kd,I bs,.slice am mq cm,I mn,I mx,.string lo,.string hi,.string pt,.slice ae q ce] 33)) w.heap.size #[.string nm,I kd,I bs,.slice am mq cm,I mn,I mx,.string lo,.string hi,.string pt,.slice ae q ce]):=J (ZbQ w _ 33);obtain⟨lg,hlg⟩:=ZX (Znp k v);have HFC:Hid (∀P,P=fcP ⟨nm,kd,bs,ms,mn,mx,lo,hi,pt,en⟩ k s v->(P↔¬(0<=mn/\(lg:Int)<mn)/\¬(0<=mx/\mx<(lg:Int))/\(lo.size=0\/ZeB k (atV k lo) v)/\(hi.size=0\/ZeB k v (atV k hi))/\(pt.size=0\/ZnX pt (if k=1 then s else jnB s))/\(en=[]\/∃e∈en,atV k e=v))):=J (λP hP=>by rw[hP,<-hlg];exact Iff.rfl);obtain⟨P,hP⟩:=ZX (fcP ⟨nm,kd,bs,ms,mn,mx,lo,hi,pt,en⟩ k s v);have HFP:=J (HFC.out P hP.symm);have HLG:Hid (lg=if k=8 then (wdB [] v.data.toList).length else (ZF (rns v)).length):=J (by rw[<-hlg];rfl);rw[hP];clear HFC hP hq hmq hrow hr hb hx2 hk hms hen z6 f1 f2 f3 f4 f5 f7 f8 f9 f10 f11 f12 h7 hlg;go_enter func59,ntmps59
 go_wp2_with fail
 obtain⟨W0,hW0⟩:=ZX (w.alloc (.cells #[.string nm,I kd,I bs,.slice am mq cm,I mn,I mx,.string lo,.string hi,.string pt,.slice ae q ce] 33));rw[hW0]at HB0 HX0;rw[hW0];clear hW0 c0 c1 c2 c3 c4 c5 c6 c7 c8 c9;refine ZM (CP.out W0 HB0.out) ?_;rintro w1 hb1;have HB1:=J (Zp HB0.out hb1);have HX1:=J (Zas HX0.out hb1 (Zax HX0.out));clear hb1 HB0 HX0 CP;go_wp2_with fail
 refine(Zmk v w1 hv).mono ?_;rintro e w2 ⟨ad,cc,rfl,ho,hb2⟩;have HB2:=J (Zp HB1.out hb2);have HX2:=J (Zas HX1.out hb2 (Zax HX1.out));clear ho hb2 HB1 HX1;obtain⟨lw,hlw⟩:=ZX ((wdB [] v.data.toList).length);rw[hlw]at HLG;rw[hlw];clear hlw
 go_upto_if 37 with fail
 go_cut [11] (λv11 wx=>v11=I lg/\Hid (ZL w wx)/\Hid (ZV wx w.heap.size #[.string nm,I kd,I bs,.slice am mq cm,I mn,I mx,.string lo,.string hi,.string pt,.slice ae q ce]))
 case first=>
  by_cases hk8:k=8
  ·have hk8b:(k != 8)=false:=by simpa using hk8
   have hl:lg=lw:=by rw[HLG.out,Zd hk8]
   go_wp2;go_meet
   exact⟨by rw[hl],HB2,HX2⟩
  ·have hk8b:(k != 8)=true:=by simpa using hk8
   have CR:=J (ZgB v (ZF (rns v)) (rns v).isSome w2 hv rfl rfl);have hl:lg=(ZF (rns v)).length:=by rw[HLG.out,Za hk8]
   have HL:=J hl;obtain⟨bb,hbb⟩:=ZX ((rns v).isSome);rw[hbb,<-hl]at CR;clear hbb hl;go_wp2_with (go_at_call 55;refine CR.out.mono ?_;rintro e w3 ⟨ad3,c3,rfl,ho3,hb3⟩;have HB3:=J (Zp HB2.out hb3);have HX3:=J (Zas HX2.out hb3 (Zax HX2.out));clear ho3 hb3)
   go_meet
   exact⟨rfl,HB3,HX3⟩
 obtain⟨rfl,HB3,HX3⟩:=hcut;clear HB2 HX2 HLG;obtain⟨bb,hbb⟩:∃bb:Bool,bb=decide ((0<=mn/\(lg:Int)<mn)\/(0<=mx/\mx<(lg:Int))):=⟨_,rfl⟩;have HBB:=J hbb;clear hbb;obtain⟨c0,c1,c2,c3,c4,c5,c6,c7,c8,c9⟩:=ZeD HX3.out;go_upto_region 7 with fail
 go_cut [64] (λv64 wx=>v64=.bool bb/\Hid (ZL w wx)/\Hid (ZV wx w.heap.size #[.string nm,I kd,I bs,.slice am mq cm,I mn,I mx,.string lo,.string hi,.string pt,.slice ae q ce]))
 case first=>
  by_cases a1:0<=mn
  ·by_cases a2:(lg:Int)<mn
   ·have hb9:bb=true:=(by rw[HBB.out];simp[a1,a2]);go_wp2;go_meet
    exact⟨by rw[hb9],HB3,HX3⟩
   ·by_cases a3:0<=mx
    ·by_cases a4:mx<(lg:Int)
     ·have hb9:bb=true:=(by rw[HBB.out];simp[a3,a4]);go_wp2;go_meet
      exact⟨by rw[hb9],HB3,HX3⟩
     ·have hb9:bb=false:=(by rw[HBB.out];simp[a2,a4]);go_wp2;go_meet
      exact⟨by rw[hb9],HB3,HX3⟩
    ·have hb9:bb=false:=(by rw[HBB.out];simp[a2,a3]);go_wp2;go_meet
     exact⟨by rw[hb9],HB3,HX3⟩
  ·by_cases a3:0<=mx
   ·by_cases a4:mx<(lg:Int)
    ·have hb9:bb=true:=(by rw[HBB.out];simp[a3,a4]);go_wp2;go_meet
     exact⟨by rw[hb9],HB3,HX3⟩
    ·have hb9:bb=false:=(by rw[HBB.out];simp[a1,a4]);go_wp2;go_meet
     exact⟨by rw[hb9],HB3,HX3⟩
   ·have hb9:bb=false:=(by rw[HBB.out];simp[a1,a3]);go_wp2;go_meet
    exact⟨by rw[hb9],HB3,HX3⟩
 obtain⟨rfl,HB4,HX4⟩:=hcut;clear HB3 HX3 c0 c1 c2 c3 c4 c5 c6 c7 c8 c9;by_cases hbc:bb=true
 ·have HN:Hid (¬P):=J (λh=>by
   have h9:=HFP.out.1 h;have:=HBB.out;rw[hbc]at this;have:=ZDY this.symm;rcases this with h1|h1
   ·exact h9.1 h1
   ·exact h9.2.1 h1)
  subst hbc;go_wp2;go_ret;exact ZdQ HN.out HB4.out
 have hbf:bb=false:=by simpa using hbc
 have HN:Hid (¬(0<=mn/\(lg:Int)<mn)/\¬(0<=mx/\mx<(lg:Int))):=J (by
  have:=HBB.out;rw[hbf]at this;have:=ZDZ this.symm;exact⟨λh=>this (.inl h),λh=>this (.inr h)⟩)
 clear hbc HBB;subst hbf;obtain⟨c0,c1,c2,c3,c4,c5,c6,c7,c8,c9⟩:=ZeD HX4.out;go_upto_region 9 with fail
 obtain⟨eb67,heb⟩:∃eb:Bool,eb=decide (¬lo.size=0):=⟨_,rfl⟩;have HEB67:=J heb;clear heb
 go_cut [67] (λvv wx=>vv=.bool eb67/\Hid (ZL w wx)/\Hid (ZV wx w.heap.size #[.string nm,I kd,I bs,.slice am mq cm,I mn,I mx,.string lo,.string hi,.string pt,.slice ae q ce]))
 case first=>
  by_cases hl:lo.size=0
  ·have hl1:=ZbE hl;have he9:eb67=false:=by rw[HEB67.out];simp[hl]
   go_wp2;go_meet
   exact⟨by rw[he9],HB4,HX4⟩
  ·have hl1:=Zbx hl;have he9:eb67=true:=by rw[HEB67.out];simp[hl]
   go_wp2;go_meet
   exact⟨by rw[he9],HB4,HX4⟩
 obtain⟨rfl,HB5,HX5⟩:=hcut;clear HB4 HX4 c0 c1 c2 c3 c4 c5 c6 c7 c8 c9
 go_upto_if 67 with fail
 go_cut [] (λwx=>Hid (ZL w wx)/\Hid (ZV wx w.heap.size #[.string nm,I kd,I bs,.slice am mq cm,I mn,I mx,.string lo,.string hi,.string pt,.slice ae q ce])/\Hid (lo.size=0\/ZeB k (atV k lo) v))
 case first=>
  obtain⟨c0,c1,c2,c3,c4,c5,c6,c7,c8,c9⟩:=ZeD HX5.out;by_cases hl:lo.size=0
  ·have he9:eb67=false:=by rw[HEB67.out];simp[hl]
   subst he9;go_wp2;go_meet
   exact⟨HB5,HX5,J (.inl hl)⟩
  ·have he9:eb67=true:=by rw[HEB67.out];simp[hl]
   subst he9;have hao:atO k lo=true:=by rcases HF8.out with h|h;exact absurd h hl;exact h
   have hap:=Zb5 (ZcU hao (Zi9 hao (by omega)));have CA:=J (λw1=>ZhZ k lo w1 (by omega));have CO:=J (λw1=>ZmJ k (atV k lo) v w1 (by omega) hv (λe=>⟨by subst e;rw[ZfE];rw[Zfm]at hao;exact(Zb2 hao).1,H7.out e⟩));have HA:=J hao;obtain⟨V,hV⟩:=ZX (atV k lo);have HV:=J hV;obtain⟨O,hO⟩:=ZX (ZeN k V v);have HO:=J hO;rw[hV,hO]at CO;have HL:=J hl;clear hao hap hV hO hl;go_wp2_with fail
   refine(CA.out _).mono ?_;rintro e w5 ⟨va,ba,rfl,hba,hva,hb5⟩;have HBa:=J (Zp HB5.out hb5);have HXa:=J (Zas HX5.out hb5 (Zax HX5.out));have hvV:va=V:=by rw[hva (by rw[hba];exact HA.out),HV.out]
   clear hba hva hb5 c0 c1 c2 c3 c4 c5 c6 c7 c8 c9 CA;subst hvV;go_wp2_with fail
   refine ZM (CO.out _) ?_;rintro w6 hb6;have HBb:=J (Zp HBa.out hb6);have HXb:=J (Zas HXa.out hb6 (Zax HXa.out));clear hb6 CO HXa HBa;by_cases o1:O = -1
   ·have o1b:(O != -1)=false:=(by simpa using o1);have HR:Hid (lo.size=0\/ZeB k (atV k lo) v):=J (.inr (by rw[HV.out];exact .inl (by rw[HO.out];exact o1)));clear o1;go_wp2;go_meet
    exact⟨HBb,HXb,HR⟩
   ·have o1b:(O != -1)=true:=(by simpa using o1);by_cases o2:O=0
    ·have o2b:(O != 0)=false:=(by simpa using o2);have HR:Hid (lo.size=0\/ZeB k (atV k lo) v):=J (.inr (by rw[HV.out];exact .inr (by rw[HO.out];exact o2)));clear o1 o2;go_wp2;go_meet
     exact⟨HBb,HXb,HR⟩
    ·have o2b:(O != 0)=true:=(by simpa using o2);have HNP:Hid (¬P):=J (λh=>by
      rcases(HFP.out.1 h).2.2.1 with h1|h1
      ·exact HL.out h1
      ·rw[HV.out]at h1;unfold ZeB at h1;rw[HO.out]at h1;rcases h1 with h1|h1
       ·exact o1 h1
       ·exact o2 h1)
     clear o1 o2;go_wp2;go_ret;exact ZdQ HNP.out HBb.out
 obtain⟨HB6,HX6,HLO⟩:=hcut;clear HB5 HX5 HF8 HEB67;obtain⟨c0,c1,c2,c3,c4,c5,c6,c7,c8,c9⟩:=ZeD HX6.out;go_upto_region 14 with fail
 obtain⟨eb87,heb⟩:∃eb:Bool,eb=decide (¬hi.size=0):=⟨_,rfl⟩;have HEB87:=J heb;clear heb
 go_cut [87] (λvv wx=>vv=.bool eb87/\Hid (ZL w wx)/\Hid (ZV wx w.heap.size #[.string nm,I kd,I bs,.slice am mq cm,I mn,I mx,.string lo,.string hi,.string pt,.slice ae q ce]))
 case first=>
  by_cases hl:hi.size=0
  ·have hl1:=ZbE hl;have he9:eb87=false:=by rw[HEB87.out];simp[hl]
   go_wp2;go_meet
   exact⟨by rw[he9],HB6,HX6⟩
  ·have hl1:=Zbx hl;have he9:eb87=true:=by rw[HEB87.out];simp[hl]
   go_wp2;go_meet
   exact⟨by rw[he9],HB6,HX6⟩
 obtain⟨rfl,HB7,HX7⟩:=hcut;clear HB6 HX6 c0 c1 c2 c3 c4 c5 c6 c7 c8 c9
 go_upto_if 87 with fail
 go_cut [] (λwx=>Hid (ZL w wx)/\Hid (ZV wx w.heap.size #[.string nm,I kd,I bs,.slice am mq cm,I mn,I mx,.string lo,.string hi,.string pt,.slice ae q ce])/\Hid (hi.size=0\/ZeB k v (atV k hi)))
 case first=>
  obtain⟨c0,c1,c2,c3,c4,c5,c6,c7,c8,c9⟩:=ZeD HX7.out;by_cases hl:hi.size=0
  ·have he9:eb87=false:=by rw[HEB87.out];simp[hl]
   subst he9;go_wp2;go_meet
   exact⟨HB7,HX7,J (.inl hl)⟩
  ·have he9:eb87=true:=by rw[HEB87.out];simp[hl]
   subst he9;have hao:atO k hi=true:=by rcases HF9.out with h|h;exact absurd h hl;exact h
   have hap:=Zb5 (ZcU hao (Zi9 hao (by omega)));have CA:=J (λw1=>ZhZ k hi w1 (by omega));have CO:=J (λw1=>ZmJ k v (atV k hi) w1 hv (by omega) (λe=>⟨H7.out e,by subst e;rw[ZfE];rw[Zfm]at hao;exact(Zb2 hao).1⟩));have HA:=J hao;obtain⟨V,hV⟩:=ZX (atV k hi);have HV:=J hV;obtain⟨O,hO⟩:=ZX (ZeN k v V);have HO:=J hO;rw[hV,hO]at CO;have HL:=J hl;clear hao hap hV hO hl;go_wp2_with fail
   refine(CA.out _).mono ?_;rintro e w5 ⟨va,ba,rfl,hba,hva,hb5⟩;have HBa:=J (Zp HB7.out hb5);have HXa:=J (Zas HX7.out hb5 (Zax HX7.out));have hvV:va=V:=by rw[hva (by rw[hba];exact HA.out),HV.out]
   clear hba hva hb5 c0 c1 c2 c3 c4 c5 c6 c7 c8 c9 CA;subst hvV;go_wp2_with fail
   refine ZM (CO.out _) ?_;rintro w6 hb6;have HBb:=J (Zp HBa.out hb6);have HXb:=J (Zas HXa.out hb6 (Zax HXa.out));clear hb6 CO HXa HBa;by_cases o1:O = -1
   ·have o1b:(O != -1)=false:=(by simpa using o1);have HR:Hid (hi.size=0\/ZeB k v (atV k hi)):=J (.inr (by rw[HV.out];exact .inl (by rw[HO.out];exact o1)));clear o1;go_wp2;go_meet
    exact⟨HBb,HXb,HR⟩
   ·have o1b:(O != -1)=true:=(by simpa using o1);by_cases o2:O=0
    ·have o2b:(O != 0)=false:=(by simpa using o2);have HR:Hid (hi.size=0\/ZeB k v (atV k hi)):=J (.inr (by rw[HV.out];exact .inr (by rw[HO.out];exact o2)));clear o1 o2;go_wp2;go_meet
     exact⟨HBb,HXb,HR⟩
    ·have o2b:(O != 0)=true:=(by simpa using o2);have HNP:Hid (¬P):=J (λh=>by
      rcases(HFP.out.1 h).2.2.2.1 with h1|h1
      ·exact HL.out h1
      ·rw[HV.out]at h1;unfold ZeB at h1;rw[HO.out]at h1;rcases h1 with h1|h1
       ·exact o1 h1
       ·exact o2 h1)
     clear o1 o2;go_wp2;go_ret;exact ZdQ HNP.out HBb.out
 obtain⟨HB8,HX8,HHI⟩:=hcut;clear HB7 HX7 HF9 HEB87 H7;obtain⟨c0,c1,c2,c3,c4,c5,c6,c7,c8,c9⟩:=ZeD HX8.out;go_upto_region 19 with fail
 obtain⟨eb107,heb⟩:∃eb:Bool,eb=decide (¬pt.size=0):=⟨_,rfl⟩;have HEB107:=J heb;clear heb
 go_cut [107] (λvv wx=>vv=.bool eb107/\Hid (ZL w wx)/\Hid (ZV wx w.heap.size #[.string nm,I kd,I bs,.slice am mq cm,I mn,I mx,.string lo,.string hi,.string pt,.slice ae q ce]))
 case first=>
  by_cases hl:pt.size=0
  ·have hl1:=ZbE hl;have he9:eb107=false:=by rw[HEB107.out];simp[hl]
   go_wp2;go_meet
   exact⟨by rw[he9],HB8,HX8⟩
  ·have hl1:=Zbx hl;have he9:eb107=true:=by rw[HEB107.out];simp[hl]
   go_wp2;go_meet
   exact⟨by rw[he9],HB8,HX8⟩
 obtain⟨rfl,HB9,HX9⟩:=hcut;clear HB8 HX8 c0 c1 c2 c3 c4 c5 c6 c7 c8 c9
 go_upto_if 107 with fail
 go_cut [] (λwx=>Hid (ZL w wx)/\Hid (ZV wx w.heap.size #[.string nm,I kd,I bs,.slice am mq cm,I mn,I mx,.string lo,.string hi,.string pt,.slice ae q ce])/\Hid (pt.size=0\/ZnX pt (if k=1 then s else jnB s)))
 case first=>
  obtain⟨c0,c1,c2,c3,c4,c5,c6,c7,c8,c9⟩:=ZeD HX9.out;by_cases hl:pt.size=0
  ·have he9:eb107=false:=by rw[HEB107.out];simp[hl]
   subst he9;go_wp2;go_meet
   exact⟨HB9,HX9,J (.inl hl)⟩
  ·have he9:eb107=true:=by rw[HEB107.out];simp[hl]
   subst he9;have HL:=J hl;clear hl;obtain⟨hro,hrx⟩:=ZBa HF11.out;obtain⟨X,hX⟩:=ZX (rgV (ZF (rns pt)) (rns pt).isSome);have CR:=J (λw1=>Zib pt (ZF (rns pt)) (rns pt).isSome w1 (by omega) rfl rfl);rw[hro,hX]at CR;rw[hX]at hrx;have HXL:Hid (X.length<=120):=J (Zk7 hrx).1.2;obtain⟨U,hU⟩:=ZX (if k=1 then s else jnB s);have hUs:=ZAn s k hs;rw[hU]at hUs;have HPT:Hid (ZnX pt (if k=1 then s else jnB s)↔MtP (ZdZ X) (ZF (rns U)) (rns U).isSome):=J (by rw[hU,<-hX];exact Iff.rfl);have HU:=J hU;clear hro hX hrx;by_cases hk1:k=1
   ·have hk1b:(k != 1)=false:=(by simpa using hk1);have hus:U=s:=(by rw[<-HU.out,Zd hk1]);subst hus;clear hk1 HU;go_wp2_with fail
    refine(CR.out _).mono ?_;rintro e w5 ⟨ad5,cc5,rfl,hx5,hb5⟩;have HBa:=J (Zp HB9.out hb5);have HXa:=J (Zas HX9.out hb5 (Zax HX9.out));have CM:=J (Zln (ZdZ X) X.length ad5 cc5 U (ZF (rns U)) (ZF (rns U)).length (rns U).isSome w5 rfl (by have:=HXL.out;unfold maxLen;omega) (λj hj=>by have h9:=ZnD hx5 hj;show(ZlT X j).L.length<=maxLen;unfold maxLen;omega) (Zuf hx5) hUs rfl rfl rfl);clear hx5 hb5 CR c0 c1 c2 c3 c4 c5 c6 c7 c8 c9;go_wp2_with fail
    refine CM.out.mono ?_;rintro e w6 ⟨z,rfl,hz,hb6⟩;have HBb:=J (Zp HBa.out hb6);have HXb:=J (Zas HXa.out hb6 (Zax HXa.out));have HZ:=J hz;clear hb6 CM HBa HXa hz;cases z
    ·have HNP:Hid (¬P):=J (λh=>by
      rcases(HFP.out.1 h).2.2.2.2.1 with h1|h1
      ·exact HL.out h1
      ·have:=HZ.out.2 (HPT.out.1 h1);cases this)
     go_wp2;go_ret;exact ZdQ HNP.out HBb.out
    ·have HR:=J (HPT.out.2 (HZ.out.1 rfl));go_wp2;go_meet
     exact⟨HBb,HXb,J (.inr HR.out)⟩
   ·have hk1b:(k != 1)=true:=(by simpa using hk1);have hus:U=jnB s:=(by rw[<-HU.out,Za hk1]);have CW:Hid (∀w1,Calls prog 102 #[.string s,I 2] w1 λe w'=>e=.returned (.string U)/\ZL w1 w'):=J (λw1=>by rw[hus];exact ZpY s 2 w1 hs);clear hk1 HU hus;go_wp2_with fail
    refine ZM (CW.out _) ?_;rintro w4 hb4;have HB4:=J (Zp HB9.out hb4);have HX4:=J (Zas HX9.out hb4 (Zax HX9.out));clear hb4 CW c0 c1 c2 c3 c4 c5 c6 c7 c8 c9;obtain⟨c0,c1,c2,c3,c4,c5,c6,c7,c8,c9⟩:=ZeD HX4.out;go_wp2_with fail
    refine(CR.out _).mono ?_;rintro e w5 ⟨ad5,cc5,rfl,hx5,hb5⟩;have HBa:=J (Zp HB4.out hb5);have HXa:=J (Zas HX4.out hb5 (Zax HX4.out));have CM:=J (Zln (ZdZ X) X.length ad5 cc5 U (ZF (rns U)) (ZF (rns U)).length (rns U).isSome w5 rfl (by have:=HXL.out;unfold maxLen;omega) (λj hj=>by have h9:=ZnD hx5 hj;show(ZlT X j).L.length<=maxLen;unfold maxLen;omega) (Zuf hx5) hUs rfl rfl rfl);clear hx5 hb5 CR c0 c1 c2 c3 c4 c5 c6 c7 c8 c9;go_wp2_with fail
    refine CM.out.mono ?_;rintro e w6 ⟨z,rfl,hz,hb6⟩;have HBb:=J (Zp HBa.out hb6);have HXb:=J (Zas HXa.out hb6 (Zax HXa.out));have HZ:=J hz;clear hb6 CM HBa HXa hz;cases z
    ·have HNP:Hid (¬P):=J (λh=>by
      rcases(HFP.out.1 h).2.2.2.2.1 with h1|h1
      ·exact HL.out h1
      ·have:=HZ.out.2 (HPT.out.1 h1);cases this)
     go_wp2;go_ret;exact ZdQ HNP.out HBb.out
    ·have HR:=J (HPT.out.2 (HZ.out.1 rfl));go_wp2;go_meet
     exact⟨HBb,HXb,J (.inr HR.out)⟩
 obtain⟨HBp,HXp,HPT⟩:=hcut;clear HB9 HX9 HF11 HEB107;obtain⟨c0,c1,c2,c3,c4,c5,c6,c7,c8,c9⟩:=ZeD HXp.out;by_cases hq0:q=0
 ·have hq0b:((q:Int)==0)=true:=by rw[hq0];rfl
  have HY:Hid P:=J (HFP.out.2 ⟨HN.out.1,HN.out.2,HLO.out,HHI.out,HPT.out,.inl (List.length_eq_zero_iff.1 (by rw[HQ.out];exact hq0))⟩);go_wp2;go_ret;exact Zpl HY.out HBp.out
 ·have hq0b:((q:Int)==0)=false:=by rw[ZDU];omega
  go_wp2_with fail
  clear c0 c1 c2 c3 c4 c5 c6 c7 c8 c9
  go_loopw [23] (λiv wr=>∃j:Nat,iv=I j/\j<=q/\Hid (ZL w wr)/\Hid (ZV wr w.heap.size #[.string nm,I kd,I bs,.slice am mq cm,I mn,I mx,.string lo,.string hi,.string pt,.slice ae q ce])/\Hid (∀i,i<j->atV k (en[i]?.getD ⟨#[]⟩)≠v)) (λiv _=>q-(Zi iv).toNat)
  case atStart=>exact⟨0,rfl,Zx _,HBp,HXp,J (λi h=>by omega)⟩
  case round=>
   clear HBp HXp;obtain⟨j,rfl,hj,HB,HX,HA⟩:=hrel;obtain⟨c0,c1,c2,c3,c4,c5,c6,c7,c8,c9⟩:=ZeD HX.out;by_cases hlt:j<q
   ·have hjL:j<en.length:=(by rw[HQ.out];exact hlt);have hji:(j:Int)<(q:Int):=(by omega);obtain⟨be,oe,rfl,hbe,hce⟩:=Zkl HEN.out j hjL;have ce0:=(HB.out.cell (p:=⟨be,oe+j,none⟩) hbe).trans (hce j hjL);obtain⟨E,hE⟩:=ZX (en[j]?.getD ⟨#[]⟩);have hEm:E∈en:=(by rw[<-hE,Zv hjL];exact ZD3 hjL);have HE:=J hE;rw[hE]at ce0;have hzE:=HZ6.out E hEm;have HAO:=J (HF12.out E hEm);have HEM:=J hEm;have CA:=J (λw1=>ZhZ k E w1 (by omega));clear hce hE hEm hjL;go_wp2_with fail
    refine(CA.out _).mono ?_;rintro e w5 ⟨va,ba,rfl,hba,hva,hb5⟩;have HB5:=J (Zp HB.out hb5);have HX5:=J (Zas HX.out hb5 (Zax HX.out));have HVA:=J (hva (by rw[hba];exact HAO.out));clear hba hva hb5 c0 c1 c2 c3 c4 c5 c6 c7 c8 c9 CA ce0;cases he:(va.toList==v.toList)
    ·have HA2:Hid (∀i,i<j+1->atV k (en[i]?.getD ⟨#[]⟩)≠v):=J (λi hi=>by
      by_cases e:i=j
      ·subst e;rw[HE.out,<-HVA.out];exact ZqV he
      ·exact HA.out i (by omega))
     go_wp2
     go_roundw
     case rel=>exact⟨j+1,by go_num,by omega,HB5,HX5,HA2⟩
     case measure=>simp[Zi];omega
    ·have HY:Hid P:=J (HFP.out.2 ⟨HN.out.1,HN.out.2,HLO.out,HHI.out,HPT.out,.inr ⟨E,HEM.out,by rw[<-HVA.out];exact Zpk he⟩⟩);go_wp2;go_ret;exact Zpl HY.out HB5.out
   ·have hjq:j=q:=(by omega);have HNP:Hid (¬P):=J (λh=>by
     rcases(HFP.out.1 h).2.2.2.2.2 with h1|⟨e,he,h1⟩
     ·have:=HQ.out;rw[h1]at this;simp at this;omega
     ·obtain⟨i,hi,hie⟩:=List.getElem_of_mem he;have hiq:i<j:=(by rw[hjq,<-HQ.out];exact hi);have:=HA.out i hiq;rw[Zv hi]at this;simp only[Option.getD_some]at this;rw[hie]at this;exact this h1)
    subst hjq;go_wp2;go_ret;exact ZdQ HNP.out HB.out
end
theorem Zkp{k:Int}{s:ZB}(h:atO k s=true):(atV k s).size<=max s.size 181:=by
 have hj:=Zer s;obtain⟨h1,h7⟩:=Zl1 h;rcases Zjd h1 h7 with rfl|rfl|rfl|rfl|rfl|rfl|rfl
 ·rw[ZuO];omega
 ·rw[Ztc];omega
 ·rw[ZtK];omega
 ·rw[Zto];split
  ·have:ZhD.size=4:=rfl;omega
  ·have:ZeY.size=5:=rfl;omega
 ·rw[Zlr]at h;rw[Zmp];have:=(Zcz h).2.1;omega
 ·rw[Zl7,ZW]at h;rw[Zo4];have:=(Zcz h.1).2.1;omega
 ·rw[Zfm]at h;rw[ZfE];have:=(Ze5 h).2.1;omega
theorem Ze8{L:List Ty}:∀(n:Nat) (s v:ZB),(∀j,j<=n->Zea L j)->prP L n<=7->Zq L n s=some v->atO (prP L n) s=true/\v=atV (prP L n) s:=by
 intro n;induction n using Nat.strongRecOn with
 |_ n ih=>
  intro s v h hp hv;have h0:=h n (Zb _);by_cases e:(tyA L n).kd=10
  ·have hb:=h0.2.2.2.1 (.inr e);rw[Zee e hb]at hp ⊢;rw[ZhF e hb]at hv;rcases hx:Zq L (tyA L n).bs.toNat s with _|u
   ·rw[hx]at hv;cases hv
   ·rw[hx]at hv;obtain⟨rfl,-⟩:=ZhS hv;exact ih _ (by omega) s _ (λj hj=>h j (by omega)) hp hx
  ·rw[Zdb e]at hp ⊢;rw[Zma hp]at hv;by_cases ho:atO (tyA L n).kd s=true
   ·rw[Zd ho]at hv;exact⟨ho,(ZhS hv).1⟩
   ·rw[Za ho]at hv;cases hv
theorem Zp6:∀(xs:List (Option ZB)) (vs:List ZB),Zfn xs=some vs->xs=vs.map some
 |[],vs,h=>by simp[Zfn]at h;subst h;rfl
 |none::r,vs,h=>by simp[Zfn]at h
 |some v::r,vs,h=>by
  unfold Zfn at h;rcases hr:Zfn r with _|us
  ·rw[hr]at h;cases h
  ·rw[hr]at h;cases h;rw[List.map_cons,Zp6 r us hr]
theorem Zj1:∀(xs:List (Option ZB)),none∈xs->Zfn xs=none
 |[],h=>by cases h
 |none::r,h=>rfl
 |some v::r,h=>by
  rw[Zfn,Zj1 r (by simpa using h)]
theorem Zhm:∀(xs:List (Option ZB)) (v:ZB),ZkE xs=some v->some v∈xs
 |[],v,h=>by cases h
 |none::r,v,h=>ZDN _ (Zhm r v h)
 |some u::r,v,h=>by
  have:some u=some v:=h;rw[this];exact ZDH ..
theorem Zjc{L:List Ty}{b:Nat}{s:ZB}{vs:List ZB}(hok:∀j,j<=b->Zea L j)(hp:prP L b<=7)(h:Zfn ((wdB [] s.data.toList).map λu=>Zq L b ⟨u.toArray⟩)=some vs):
  vs.length=(wdB [] s.data.toList).length/\∀(i:Nat) (u:List UInt8),(wdB [] s.data.toList)[i]?=some u->∃v,vs[i]?=some v/\Zq L b ⟨u.toArray⟩=some v/\atO (prP L b) ⟨u.toArray⟩=true/\v=atV (prP L b) ⟨u.toArray⟩:=by
 have e:=Zp6 _ _ h;have hl:=Zn List.length e;rw[ZDD,ZDD]at hl;refine⟨hl.symm,λi u hu=>?_⟩;have hi:=(List.getElem?_eq_some_iff.1 hu).1;have e2:=Zn (·[i]?) e;simp only[List.getElem?_map,hu,Option.map_some]at e2;rw[Zv (by omega)]at e2;simp only[Option.map_some,ZDJ]at e2;exact⟨_,Zv (by omega),e2,Ze8 b _ _ hok hp e2⟩
theorem Zkj(s:ZB){u:List UInt8}(hu:u∈wdB [] s.data.toList):(⟨u.toArray⟩:ZB).size=u.length:=by
 show u.toArray.size=_;rw[List.size_toArray]
theorem Ziz:∀(W vs:List (List UInt8)),vs.length=W.length->(∀(i:Nat) (u v:List UInt8),W[i]?=some u->vs[i]?=some v->v.length<=max u.length 181)->vs.flatten.length<=W.flatten.length+181*W.length
 |[],[],_,_=>by simp
 |[],_::_,h,_=>by simp at h
 |_::_,[],h,_=>by simp at h
 |u::W,v::vs,h,hb=>by
  have h0:=hb 0 u v rfl rfl;have ih:=Ziz W vs (by simpa using h) (λi a b ha hb'=>hb (i+1) a b (by simpa using ha) (by simpa using hb'));simp only[List.flatten_cons,ZDz,ZDB];omega
theorem ZsX(vs:List ZB):(Zd3 vs).size<=(vs.map (·.data.toList)).flatten.length+vs.length:=by
 have h1:(Zd3 vs).size=(Lib.join (vs.map (·.data.toList)) [32]).length:=by
  show(Lib.join (vs.map (·.data.toList)) [32]).toArray.size=_;rw[List.size_toArray]
 have h2:=Zop (vs.map (·.data.toList));rw[ZDD]at h2;omega
theorem Ze6{L:List Ty}{b:Nat}{s:ZB}{vs:List ZB}(hok:∀j,j<=b->Zea L j)(hp:prP L b<=7)(h:Zfn ((wdB [] s.data.toList).map λu=>Zq L b ⟨u.toArray⟩)=some vs)(hs:s.size<=4000):
  (Zd3 vs).size<=800000/\vs.length<=4001/\(vs.map (·.data.toList)).flatten.length+vs.length<=800000:=by
 obtain⟨hl,hv⟩:=Zjc hok hp h;have h2:=Ziz (wdB [] s.data.toList) (vs.map (·.data.toList)) (by rw[ZDD];exact hl) (λi u v hu hv'=>by
  obtain⟨w,hw,-,ho,rfl⟩:=hv i u hu;rw[List.getElem?_map,hw]at hv';simp only[Option.map_some,ZDJ]at hv';have:=Zkp ho;rw[Zkj s (List.mem_of_getElem? hu)]at this;rw[<-hv'];have e:∀t:ZB,t.data.toList.length=t.size:=λt=>by simp
  rw[e];exact this)
 have h3:=Zii s.data.toList [];have h4:s.data.toList.length=s.size:=by simp
 have h5:=ZsX vs;simp only[List.length_nil]at h3;refine⟨by omega,by omega,by omega⟩
theorem Zpq(vs:List ZB):(Zd3 vs).data.toList=Lib.join (vs.map (·.data.toList)) [32]:=rfl
theorem Zig{t:ZB}(h:ZD t=true):plL t.data.toList=true:=by rw[Zc7,ZW]at h;exact h.2
theorem ZmW{s:ZB}{u:List UInt8}(hu:u∈wdB [] s.data.toList):u≠[]/\∀c∈u,blB c=false:=ZxD s.data.toList [] (λc hc=>by cases hc) u hu
theorem Zpt{L:List Ty}{b:Nat}{s:ZB}{vs:List ZB}(hok:∀j,j<=b->Zea L j)(hp:prP L b<=7)(hpl:ZD s=true)(h:Zfn ((wdB [] s.data.toList).map λu=>Zq L b ⟨u.toArray⟩)=some vs):
  wdB [] (Zd3 vs).data.toList=vs.map (·.data.toList)/\plL (Zd3 vs).data.toList=true:=by
 obtain⟨hl,hv⟩:=Zjc hok hp h;have hall:∀v∈vs,Zs9 v/\0<v.size/\ZD v=true:=λv hvm=>by
  obtain⟨i,hi,e⟩:=List.getElem_of_mem hvm;have hiw:i<(wdB [] s.data.toList).length:=by omega
  obtain⟨v',hv',-,ho,e2⟩:=hv i _ (Zv hiw);rw[Zv hi,e]at hv';cases hv';have hm:=ZD3 hiw;obtain⟨w0,w1⟩:=ZmW hm;have hz:0<(⟨((wdB [] s.data.toList)[i]).toArray⟩:ZB).size:=by
   rw[Zkj s hm];exact List.length_pos_iff.2 w0
  obtain⟨q1,q2⟩:=ZwM ho (λc hc=>w1 c hc) hz;rw[e2];exact⟨q1,q2,ZcU ho (ZjL hpl hm)⟩
 rw[Zpq];constructor
 ·refine ZqB _ (λx hx=>?_);obtain⟨v,hvm,rfl⟩:=List.mem_map.1 hx;obtain⟨q1,q2,-⟩:=hall v hvm;refine⟨λe=>?_,q1⟩;have:v.data.toList.length=v.size:=by simp
  rw[e]at this;simp at this;omega
 ·rw[ZmX,ZDP];intro x hx;obtain⟨v,hvm,rfl⟩:=List.mem_map.1 hx;exact Zig (hall v hvm).2.2
theorem Zhs{L:List Ty}:∀(n:Nat) (s v:ZB),(∀j,j<=n->Zea L j)->s.size<=4000->ZD s=true->Zq L n s=some v->v.size<=800000/\plL v.data.toList=true:=by
 intro n;induction n using Nat.strongRecOn with
 |_ n ih=>
  intro s v h hs hpl hv;have h0:=h n (Zb _);by_cases e:(tyA L n).kd=10
  ·have hb:=h0.2.2.2.1 (.inr e);rw[ZhF e hb]at hv;rcases hx:Zq L (tyA L n).bs.toNat s with _|u
   ·rw[hx]at hv;cases hv
   ·rw[hx]at hv;obtain⟨rfl,-⟩:=ZhS hv;exact ih _ (by omega) s _ (λj hj=>h j (by omega)) hs hpl hx
  ·by_cases e9:(tyA L n).kd=9
   ·obtain⟨-,hm⟩:=h0.2.2.2.2.2.2.1 e9;rw[Zkf e9 (λm hmm=>(hm m hmm).1)]at hv;have hmem:=Zhm _ _ hv;obtain⟨m,hmm,hmv⟩:=List.mem_map.1 hmem;have:=(hm m hmm).1;exact ih _ (by omega) s _ (λj hj=>h j (by omega)) hs hpl hmv
   ·by_cases e8:(tyA L n).kd=8
    ·have hb:=h0.2.2.2.1 (.inl e8);rw[Zmr e8 hb]at hv;rcases hx:Zfn ((wdB [] s.data.toList).map λu=>Zq L (tyA L n).bs.toNat ⟨u.toArray⟩) with _|vs
     ·rw[hx]at hv;cases hv
     ·rw[hx]at hv;obtain⟨rfl,-⟩:=ZhS hv;have hok:=λj (hj:j<=(tyA L n).bs.toNat)=>h j (by omega)
      exact⟨(Ze6 hok (h0.2.2.2.2.2.1 e8) hx hs).1,(Zpt hok (h0.2.2.2.2.2.1 e8) hpl hx).2⟩
    ·have hk:=h0.2.2.1;obtain⟨ho,hv2⟩:=Ze8 n s v h (by rw[Zdb e];omega) hv;have:=Zkp ho;have hp:=ZcU ho hpl;rw[hv2];exact⟨by omega,Zig hp⟩
theorem Znf{L:List Ty}{n:Nat}{s v:ZB}(h:∀j,j<=n->Zea L j)(hp:prP L n=7)(hv:Zq L n s=some v):ZH v=true:=by
 obtain⟨ho,rfl⟩:=Ze8 n s v h (by omega) hv;rw[hp]at ho ⊢;rw[Zfm]at ho;rw[ZfE];exact(Zb2 ho).1
section
open Go.RowKit Go.Joins
def Zf0(o:Option ZB):Value:=.tuple #[.string (o.getD ⟨#[]⟩),.bool o.isSome]
def ZT(o:Option ZB)(w:World)(e:Ending)(w':World):Prop:=e=.returned (Zf0 o)/\ZL w w'
theorem ZlS{o:Option ZB}{v:ZB}{w w':World}(h:o=some v)(hb:ZL w w'):ZT o w (.returned (.tuple #[.string v,.bool true])) w':=by subst h;exact⟨rfl,hb⟩
theorem Zim{o:Option ZB}{w w':World}(h:o=none)(hb:ZL w w'):ZT o w (.returned (.tuple #[.string ⟨#[]⟩,.bool false])) w':=by subst h;exact⟨rfl,hb⟩
theorem ZrK:∀(xs:List (Option ZB)) (j:Nat) (v:ZB),(∀i,i<j->xs[i]?=some none)->xs[j]?=some (some v)->ZkE xs=some v
 |[],j,v,_,h=>by simp at h
 |x::xs,0,v,_,h=>by simp at h;subst h;rfl
 |x::xs,j+1,v,h0,h=>by
  have:=h0 0 (by omega);simp at this;subst this;exact ZrK xs j v (λi hi=>by have:=h0 (i+1) (by omega);simpa using this) (by simpa using h)
theorem ZjB:∀(xs:List (Option ZB)),(∀i,i<xs.length->xs[i]?=some none)->ZkE xs=none
 |[],_=>rfl
 |x::xs,h0=>by
  have:=h0 0 (by simp);simp at this;subst this;exact ZjB xs (λi hi=>by have:=h0 (i+1) (by simpa using hi);simpa using this)
def VIH(L:List Ty)(m:Nat)(a:Option Addr)(c n:Nat):Prop:=∀n',n'<n->∀(s:ZB) (w:World),s.size<=4000->ZD s=true->ZiL w a L w.heap.size->Calls prog 32 #[.slice a m c,I n',.string s] w (ZT (Zq L n' s) w)
section
variable (L:List Ty) (m n:Nat) (a:Option Addr) (c:Nat) (s:ZB) (w:World) (hm:m<=L.length) (hn:n<m) (hz:m<=20000) (hok:∀j,j<=n->Zea L j) (hr:ZiL w a L w.heap.size) (hx:TyZ (tyA L n)) (hs:s.size<=4000) (hpl:ZD s=true) (IH:VIH L m a c n)
include hm hn hz hok hr hx hs hpl IH
theorem ZDa(hk:(tyA L n).kd=9):Calls prog 32 #[.slice a m c,I n,.string s] w (ZT (Zq L n s) w):=by
 have hz1:=hz;have HIH:=J IH;have HR:=J hr;obtain⟨b,off,rfl,hbs,hrow⟩:=ZeZ hr (j:=n) (by omega);obtain⟨am,cm,ae,ce,hc,hms,hen⟩:=hrow n (by omega);have hT:=(hok n (Zb _)).2.2.2.2.2.2.1 hk;have HV:=J (Zkf (L:=L) (s:=s) hk (λq hq=>(hT.2 q hq).1));obtain⟨o,ho⟩:=ZX (Zq L n s);rw[ho]at HV;rw[ho];obtain⟨x,hx2⟩:=ZX (tyA L n);rw[hx2]at hc hx hms hen HV hT hk;have HMR:=J (λq hq=>(hT.2 q hq).1);have HMS:=J hms;obtain⟨c0,c1,c2,c3,c4,c5,c6,c7,c8,c9⟩:=hc;obtain⟨nm,kd,bs,ms,mn,mx,lo,hi,pt,en⟩:=x;simp only at c0 c1 c2 c3 c4 c5 c6 c7 c8 c9 hk;subst hk;obtain⟨q,hq⟩:=ZX en.length;obtain⟨mq,hmq⟩:∃q,ms.length=q:=⟨_,rfl⟩;have HQ:=J hmq;have hmq4:mq<=4:=by rw[<-hmq];exact hT.1.2
 rw[hmq]at c3;rw[hq]at c9;have HB0:Hid (ZL w (w.alloc (.cells #[.string nm,I 9,I bs,.slice am mq cm,I mn,I mx,.string lo,.string hi,.string pt,.slice ae q ce] 33))):=J ((Ze _ _).alloc (Zb _) _);have HX0:Hid (ZV (w.alloc (.cells #[.string nm,I 9,I bs,.slice am mq cm,I mn,I mx,.string lo,.string hi,.string pt,.slice ae q ce] 33)) w.heap.size #[.string nm,I 9,I bs,.slice am mq cm,I mn,I mx,.string lo,.string hi,.string pt,.slice ae q ce]):=J (ZbQ w _ 33);clear IH hr hrow hT hx2 hx hms hen hq hmq ho hok;go_enter func32,ntmps32
 go_wp2_with fail
 obtain⟨W0,hW0⟩:=ZX (w.alloc (.cells #[.string nm,I 9,I bs,.slice am mq cm,I mn,I mx,.string lo,.string hi,.string pt,.slice ae q ce] 33));rw[hW0]at HB0 HX0;rw[hW0];clear hW0 c0 c1 c2 c3 c4 c5 c6 c7 c8 c9
 go_loopw [9] (λiv wr=>∃j:Nat,iv=I j/\j<=mq/\Hid (ZL w wr)/\Hid (ZV wr w.heap.size #[.string nm,I 9,I bs,.slice am mq cm,I mn,I mx,.string lo,.string hi,.string pt,.slice ae q ce])/\Hid (∀i,i<j->(ms.map λx=>Zq L x.toNat s)[i]?=some none)) (λiv _=>mq-(Zi iv).toNat)
 case atStart=>exact⟨0,rfl,Zx _,HB0,HX0,J (λi h=>by omega)⟩
 case round=>
  clear HB0 HX0;obtain⟨j,rfl,hj,HB,HX,HA⟩:=hrel;obtain⟨c0,c1,c2,c3,c4,c5,c6,c7,c8,c9⟩:=ZeD HX.out;by_cases hlt:j<mq
  ·have hjL:j<ms.length:=by rw[HQ.out];exact hlt
   have hji:(j:Int)<(mq:Int):=by omega
   obtain⟨be,oe,rfl,hbe,hce⟩:=HMS.out (λe=>by rw[e]at hjL;simp at hjL);have ce0:=(HB.out.cell (p:=⟨be,oe+j,none⟩) hbe).trans (hce j hjL);obtain⟨E,hE⟩:=ZX (ms[j]?.getD 0);have hEj:ms[j]?=some E:=by rw[<-hE,Zv hjL];rfl
   rw[hE]at ce0;have hEr:=HMR.out E (List.mem_of_getElem? hEj);obtain⟨p,rfl⟩:∃p:Nat,E=p:=⟨E.toNat,by omega⟩;have HEJ:Hid ((ms.map λx=>Zq L x.toNat s)[j]?=some (Zq L p s)):=J (by rw[List.getElem?_map,hEj];rfl);have CV:=J (HIH.out p (by omega) s wr hs hpl (ZcM (ZcP HR.out HB.out) HB.out.size));obtain⟨o2,ho2⟩:=ZX (Zq L p s);rw[ho2]at CV HEJ;clear hce hE hEj hEr hjL ho2;go_wp2_with fail
   refine ZM CV.out ?_;rintro w5 hb5;have HB5:=J (Zp HB.out hb5);have HX5:=J (Zas HX.out hb5 (Zax HX.out));clear hb5 c0 c1 c2 c3 c4 c5 c6 c7 c8 c9 CV ce0;cases o2 with
   |none=>
    have HA2:Hid (∀i,i<j+1->(ms.map λx=>Zq L x.toNat s)[i]?=some none):=J (λi hi=>by
     by_cases e:i=j
     ·subst e;exact HEJ.out
     ·exact HA.out i (by omega))
    simp only[Zf0,Option.getD_none,Option.isSome_none];go_wp2
    go_roundw
    case rel=>exact⟨j+1,by go_num,by omega,HB5,HX5,HA2⟩
    case measure=>simp[Zi];omega
   |some v=>
    have HY:Hid (o=some v):=J (by rw[HV.out];exact ZrK _ j v HA.out HEJ.out);simp only[Zf0,Option.getD_some,Option.isSome_some];go_wp2;go_ret2;exact ZlS HY.out HB5.out
  ·have hjq:j=mq:=by omega
   have HY:Hid (o=none):=J (by
    rw[HV.out];exact ZjB _ (λi hi=>HA.out i (by rw[ZDD,HQ.out]at hi;omega)))
   subst hjq;go_wp2;go_ret2;exact Zim HY.out HB.out
end
section
variable (L:List Ty) (m n:Nat) (a:Option Addr) (c:Nat) (s:ZB) (w:World) (hm:m<=L.length) (hn:n<m) (hz:m<=20000) (hok:∀j,j<=n->Zea L j) (hr:ZiL w a L w.heap.size) (hx:TyZ (tyA L n)) (hs:s.size<=4000) (hpl:ZD s=true) (IH:VIH L m a c n)
include hm hn hz hok hr hx hs hpl IH
theorem ZCI(hk:(tyA L n).kd=10):Calls prog 32 #[.slice a m c,I n,.string s] w (ZT (Zq L n s) w):=by
 have hz1:=hz;have HIH:=J IH;have HR:=J hr;have hf:=(hok n (Zb _)).2.2.2.2.2.2.2.2;have CF:=J (λ(v:ZB) (w1:World) (h1:ZL w w1) (hv:v.size<=1048576) (h7:prP L n=7->ZH v=true)=>ZjF L m n a c s v w1 hm hn hz (Zry hok) (ZcM (ZcP hr h1) h1.size) hx (by omega) hv hf h7);obtain⟨o,ho⟩:=ZX (Zq L n s);obtain⟨b,off,rfl,hbs,hrow⟩:=ZeZ hr (j:=n) (by omega);obtain⟨am,cm,ae,ce,hc,-,-⟩:=hrow n (by omega);have hT:=(hok n (Zb _)).2.2.2.1 (.inr hk);have HV:=J (ZhF (s:=s) hk hT);have HPB:=J (Zee hk hT);have HOK:=J hok;rw[ho]at HV;rw[ho];obtain⟨x,hx2⟩:=ZX (tyA L n);rw[hx2]at hc hT hk HPB HV CF;obtain⟨c0,c1,c2,c3,c4,c5,c6,c7,c8,c9⟩:=hc;obtain⟨nm,kd,bs,ms,mn,mx,lo,hi,pt,en⟩:=x;simp only at c0 c1 c2 c3 c4 c5 c6 c7 c8 c9 hk hT HPB HV;subst hk;obtain⟨p,rfl⟩:∃p:Nat,bs=p:=⟨bs.toNat,by omega⟩;simp only[ZDK]at HPB HV;obtain⟨q,hq⟩:=ZX en.length;obtain⟨mq,hmq⟩:∃q,ms.length=q:=⟨_,rfl⟩;rw[hmq]at c3;rw[hq]at c9;have HB0:Hid (ZL w (w.alloc (.cells #[.string nm,I 10,I p,.slice am mq cm,I mn,I mx,.string lo,.string hi,.string pt,.slice ae q ce] 33))):=J ((Ze _ _).alloc (Zb _) _);have HX0:Hid (ZV (w.alloc (.cells #[.string nm,I 10,I p,.slice am mq cm,I mn,I mx,.string lo,.string hi,.string pt,.slice ae q ce] 33)) w.heap.size #[.string nm,I 10,I p,.slice am mq cm,I mn,I mx,.string lo,.string hi,.string pt,.slice ae q ce]):=J (ZbQ w _ 33);clear  hf IH hr hrow hx2 hx hq hmq ho hok;go_enter func32,ntmps32
 go_wp2_with fail
 obtain⟨W0,hW0⟩:=ZX (w.alloc (.cells #[.string nm,I 10,I p,.slice am mq cm,I mn,I mx,.string lo,.string hi,.string pt,.slice ae q ce] 33));rw[hW0]at HB0 HX0;rw[hW0];clear hW0 c0 c3 c4 c5 c6 c7 c8 c9 c1 c2;obtain⟨c0,c1,c2,c3,c4,c5,c6,c7,c8,c9⟩:=ZeD HX0.out;have CV:=J (HIH.out p (by omega) s W0 hs hpl (ZcM (ZcP HR.out HB0.out) HB0.out.size));obtain⟨o2,ho2⟩:=ZX (Zq L p s);have HO2:=J ho2;rw[ho2]at CV HV;clear ho2;go_wp2_with fail
 refine ZM CV.out ?_;rintro w5 hb5;have HB5:=J (Zp HB0.out hb5);clear hb5 c0 c1 c2 c3 c4 c5 c6 c7 c8 c9 CV HX0;cases o2 with
 |none=>
  have HY:Hid (o=none):=J HV.out;simp only[Zf0,Option.getD_none,Option.isSome_none];go_wp2;go_ret2;exact Zim HY.out HB5.out
 |some v=>
  have hvb:=Zhs p s v (λj hj=>HOK.out j (by omega)) hs hpl HO2.out;simp only[Zf0,Option.getD_some,Option.isSome_some];go_wp2_with fail
  refine(CF.out v w5 HB5.out (by omega) (λe=>Znf (λj hj=>HOK.out j (by omega)) (by rw[<-HPB.out];exact e) HO2.out)).mono ?_;rintro e w7 ⟨B,rfl,hB,hb7⟩;have HB7:=J (Zp HB5.out hb7);have HBB:=J hB;clear hb7 hB CF;cases B
  ·have HY:Hid (o=none):=J (by rw[HV.out];exact ZoX (λe=>by have:=HBB.out.2 e;cases this));go_wp2;go_ret2;exact Zim HY.out HB7.out
  ·have HY:Hid (o=some v):=J (by rw[HV.out];exact Zmx (HBB.out.1 rfl));go_wp2;go_ret2;exact ZlS HY.out HB7.out
theorem ZDg(hk:(tyA L n).kd<=7):Calls prog 32 #[.slice a m c,I n,.string s] w (ZT (Zq L n s) w):=by
 have hz1:=hz;have HIH:=J IH;have HR:=J hr;have hf:=(hok n (Zb _)).2.2.2.2.2.2.2.2;have CF:=J (λ(v:ZB) (w1:World) (h1:ZL w w1) (hv:v.size<=1048576) (h7:prP L n=7->ZH v=true)=>ZjF L m n a c s v w1 hm hn hz (Zry hok) (ZcM (ZcP hr h1) h1.size) hx (by omega) hv hf h7);obtain⟨o,ho⟩:=ZX (Zq L n s);obtain⟨b,off,rfl,hbs,hrow⟩:=ZeZ hr (j:=n) (by omega);obtain⟨am,cm,ae,ce,hc,-,-⟩:=hrow n (by omega);have hT:=(hok n (Zb _)).2.2.1;have HV:=J (Zma (s:=s) hk);have HPB:=J (Zdb (L:=L) (n:=n) (by omega));rw[ho]at HV;rw[HPB.out]at CF;rw[ho];obtain⟨x,hx2⟩:=ZX (tyA L n);rw[hx2]at hc hT hk HPB HV CF;obtain⟨c0,c1,c2,c3,c4,c5,c6,c7,c8,c9⟩:=hc;obtain⟨nm,kd,bs,ms,mn,mx,lo,hi,pt,en⟩:=x;simp only at c0 c1 c2 c3 c4 c5 c6 c7 c8 c9 hk hT HPB HV;have k9:(kd==9)=false:=by rw[ZDU];omega
 have k8:(kd==8)=false:=by rw[ZDU];omega
 have k10:(kd==10)=false:=by rw[ZDU];omega
 obtain⟨q,hq⟩:=ZX en.length;obtain⟨mq,hmq⟩:∃q,ms.length=q:=⟨_,rfl⟩;rw[hmq]at c3;rw[hq]at c9;have HB0:Hid (ZL w (w.alloc (.cells #[.string nm,I kd,I bs,.slice am mq cm,I mn,I mx,.string lo,.string hi,.string pt,.slice ae q ce] 33))):=J ((Ze _ _).alloc (Zb _) _);have HX0:Hid (ZV (w.alloc (.cells #[.string nm,I kd,I bs,.slice am mq cm,I mn,I mx,.string lo,.string hi,.string pt,.slice ae q ce] 33)) w.heap.size #[.string nm,I kd,I bs,.slice am mq cm,I mn,I mx,.string lo,.string hi,.string pt,.slice ae q ce]):=J (ZbQ w _ 33);clear HIH HR hf IH hr hrow hx2 hx hq hmq ho hok;go_enter func32,ntmps32
 go_wp2_with fail
 obtain⟨W0,hW0⟩:=ZX (w.alloc (.cells #[.string nm,I kd,I bs,.slice am mq cm,I mn,I mx,.string lo,.string hi,.string pt,.slice ae q ce] 33));rw[hW0]at HB0 HX0;rw[hW0];clear hW0 c0 c1 c2 c3 c4 c5 c6 c7 c8 c9;obtain⟨c0,c1,c2,c3,c4,c5,c6,c7,c8,c9⟩:=ZeD HX0.out;go_wp2_with fail
 refine(ZhZ kd s W0 (by omega)).mono ?_;rintro e w5 ⟨v,ba,rfl,hba,hva,hb5⟩;have HB5:=J (Zp HB0.out hb5);clear hb5 c0 c1 c2 c3 c4 c5 c6 c7 c8 c9 HX0;cases ba
 ·have HY:Hid (o=none):=J (by rw[HV.out,Za (by rw[<-hba];decide)]);clear hba hva;go_wp2;go_ret2;exact Zim HY.out HB5.out
 ·have hav:=hva rfl;have hao:atO kd s=true:=hba.symm;have hsz:=Zb5 (ZcU hao hpl);have HD:Hid (kd=7->ZH v=true):=J (λe=>by
   subst e;rw[hav,ZfE];rw[Zfm]at hao;exact(Zb2 hao).1)
  rw[Zd hao,<-hav]at HV;rw[<-hav]at hsz;clear hba hva hav hao;go_wp2_with fail
  refine(CF.out v w5 HB5.out (by omega) (λe=>HD.out (by first|exact e|(rw[<-e])|(rw[HPB.out]at e;exact e)))).mono ?_;rintro e w7 ⟨B,rfl,hB,hb7⟩;have HB7:=J (Zp HB5.out hb7);have HBB:=J hB;clear hb7 hB CF;cases B
  ·have HY:Hid (o=none):=J (by rw[HV.out];exact ZoX (λe=>by have:=HBB.out.2 e;cases this));go_wp2;go_ret2;exact Zim HY.out HB7.out
  ·have HY:Hid (o=some v):=J (by rw[HV.out];exact Zmx (HBB.out.1 rfl));go_wp2;go_ret2;exact ZlS HY.out HB7.out
end
theorem ZjM:∀(xs:List (Option ZB)) (vs:List ZB) (v:ZB),Zfn xs=some vs->Zfn (xs++[some v])=some (vs++[v])
 |[],vs,v,h=>by simp[Zfn]at h;subst h;rfl
 |none::r,vs,v,h=>by simp[Zfn]at h
 |some u::r,vs,v,h=>by
  unfold Zfn at h;rcases hr:Zfn r with _|us
  ·rw[hr]at h;cases h
  ·rw[hr]at h;cases h;rw[List.cons_append,Zfn,ZjM r us v hr];rfl
theorem Zrh:∀W:List (List UInt8),Zip W=W.flatten.length+W.length
 |[]=>rfl
 |x::r=>by
  rw[Zip,Zrh r];simp only[List.flatten_cons,ZDz,ZDB];omega
theorem Zzu(vs:List ZB):wsV (vs.map (·.data.toList))=vs.map Value.string:=by
 unfold wsV;rw[List.map_map];apply List.map_congr_left;intro v _;rfl
theorem Zrm(w:World):(w.alloc (.cells #[] 9)).ownsRow w.heap.size 9 1 (.slice (some ⟨w.heap.size,0,none⟩) 0 0) 0 []:=⟨rfl,.inr ⟨w.heap.size,0,#[],rfl,Zb _,Zz w _,Zb _,by unfold maxLen;omega,rfl,rfl⟩⟩
section
variable (L:List Ty) (m n:Nat) (a:Option Addr) (c:Nat) (s:ZB) (w:World) (hm:m<=L.length) (hn:n<m) (hz:m<=20000) (hok:∀j,j<=n->Zea L j) (hr:ZiL w a L w.heap.size) (hx:TyZ (tyA L n)) (hs:s.size<=4000) (hpl:ZD s=true) (IH:VIH L m a c n)
include hm hn hz hok hr hx hs hpl IH
theorem ZDf(hk:(tyA L n).kd=8):Calls prog 32 #[.slice a m c,I n,.string s] w (ZT (Zq L n s) w):=by
 have hz1:=hz;have HIH:=J IH;have HR:=J hr;have hf:=(hok n (Zb _)).2.2.2.2.2.2.2.2;have CF:=J (λ(v:ZB) (w1:World) (h1:ZL w w1) (hv:v.size<=1048576) (h7:prP L n=7->ZH v=true)=>ZjF L m n a c s v w1 hm hn hz (Zry hok) (ZcM (ZcP hr h1) h1.size) hx (by omega) hv hf h7);obtain⟨o,ho⟩:=ZX (Zq L n s);obtain⟨b,off,rfl,hbs,hrow⟩:=ZeZ hr (j:=n) (by omega);obtain⟨am,cm,ae,ce,hc,-,-⟩:=hrow n (by omega);have hT:=(hok n (Zb _)).2.2.2.1 (.inl hk);have hP7:=(hok n (Zb _)).2.2.2.2.2.1 hk;have HV:=J (Zmr (s:=s) hk hT);have HPB:=J (Zdb (L:=L) (n:=n) (by omega));have HOK:=J hok;rw[ho]at HV;rw[HPB.out,hk]at CF;rw[ho];obtain⟨x,hx2⟩:=ZX (tyA L n);rw[hx2]at hc hT hk hP7 HV CF;obtain⟨c0,c1,c2,c3,c4,c5,c6,c7,c8,c9⟩:=hc;obtain⟨nm,kd,bs,ms,mn,mx,lo,hi,pt,en⟩:=x;simp only at c0 c1 c2 c3 c4 c5 c6 c7 c8 c9 hk hT hP7 HV;subst hk;obtain⟨p,rfl⟩:∃p:Nat,bs=p:=⟨bs.toNat,by omega⟩;simp only[ZDK]at HV hP7;obtain⟨q,hq⟩:=ZX en.length;obtain⟨mq,hmq⟩:∃q,ms.length=q:=⟨_,rfl⟩;rw[hmq]at c3;rw[hq]at c9;have HB0:Hid (ZL w (w.alloc (.cells #[.string nm,I 8,I p,.slice am mq cm,I mn,I mx,.string lo,.string hi,.string pt,.slice ae q ce] 33))):=J ((Ze _ _).alloc (Zb _) _);have HX0:Hid (ZV (w.alloc (.cells #[.string nm,I 8,I p,.slice am mq cm,I mn,I mx,.string lo,.string hi,.string pt,.slice ae q ce] 33)) w.heap.size #[.string nm,I 8,I p,.slice am mq cm,I mn,I mx,.string lo,.string hi,.string pt,.slice ae q ce]):=J (ZbQ w _ 33);clear HPB hf IH hr hrow hx2 hx hq hmq ho hok;go_enter func32,ntmps32
 go_wp2_with fail
 obtain⟨W0,hW0⟩:=ZX (w.alloc (.cells #[.string nm,I 8,I p,.slice am mq cm,I mn,I mx,.string lo,.string hi,.string pt,.slice ae q ce] 33));rw[hW0]at HB0 HX0;rw[hW0];clear hW0 c0 c3 c4 c5 c6 c7 c8 c9 c1 c2;obtain⟨c0,c1,c2,c3,c4,c5,c6,c7,c8,c9⟩:=ZeD HX0.out;obtain⟨i0,hi0,hy0,hy1,hy2⟩:=info_parts Zj6;obtain⟨WL,hWL⟩:=ZX (wdB [] s.data.toList);have CWD:=J (Zmk s W0 (by omega));have HPW:Hid (∀u∈WL,ZD ⟨u.toArray⟩=true/\(⟨u.toArray⟩:ZB).size<=4000):=J (λu hu=>by
  rw[<-hWL]at hu;have h1:=ZrP s hu;have h2:=Zkj s hu;exact⟨ZjL hpl hu,by omega⟩)
 have HLB:Hid (∀vs,Zfn (WL.map λu=>Zq L p ⟨u.toArray⟩)=some vs->(Zd3 vs).size<=800000/\vs.length<=4001/\(vs.map (·.data.toList)).flatten.length+vs.length<=800000):=J (λvs hvs=>by
  rw[<-hWL]at hvs;exact Ze6 (λj hj=>HOK.out j (by omega)) hP7 hvs hs)
 have hWLl:WL.length<=4001:=by
  have h3:=Zii s.data.toList [];have h4:s.data.toList.length=s.size:=by simp
  rw[hWL]at h3;simp only[List.length_nil]at h3;omega
 unfold ZAw at CWD;rw[hWL]at CWD HV;clear hWL hP7;obtain⟨nw,hnw⟩:=ZX WL.length;have HNW:=J hnw;rw[hnw]at CWD hWLl;clear hnw;go_wp2_with fail
 refine CWD.out.mono ?_;rintro e w2 ⟨ad,cw,rfl,ho2,hb2⟩;have HB2:=J (Zp HB0.out hb2);have HX2:=J (Zas HX0.out hb2 (Zax HX0.out));have HO2:=J ho2;clear ho2 hb2 HB0 HX0 CWD c0 c1 c2 c3 c4 c5 c6 c7 c8 c9;have HR2:=J (ZcM (ZcP HR.out HB2.out) HB2.out.size);have hG2:=Zax HX2.out;have hwG:w.heap.size<w2.heap.size:=hG2;go_wp2_with fail
 go_loopw [13,14] (λov iv wr=>∃(j:Nat) (ad2:Option Addr) (c2:Nat) (vs:List ZB),iv=I j/\j<=nw/\ov=.slice ad2 j c2/\Hid (ZL w2 wr)/\Hid (Zfn ((WL.take j).map λu=>Zq L p ⟨u.toArray⟩)=some vs)/\Hid (vs.length=j)/\Hid (wr.ownsRow w2.heap.size 9 1 (.slice ad2 j c2) j (vs.map Value.string))) (λ_ iv _=>nw-(Zi iv).toNat)
 case atStart=>exact⟨0,some ⟨w2.heap.size,0,none⟩,0,[],rfl,Zx _,rfl,J ((Ze _ _).alloc (Zb _) _),J rfl,J rfl,J (Zrm w2)⟩
 case round=>
  obtain⟨j,ad2,c2,vs,rfl,hj,rfl,HB,HSQ,HVL,HO⟩:=hrel;obtain⟨c0,c1,c2',c3,c4,c5,c6,c7,c8,c9⟩:=ZeD (Zas HX2.out HB.out hG2);by_cases hlt:j<nw
  ·have hjL:j<WL.length:=by rw[HNW.out];exact hlt
   have hji:(j:Int)<(nw:Int):=by omega
   have hne:WL≠[]:=λe=>by rw[e]at hjL;simp at hjL
   obtain⟨g,rfl,hg,hcl,hcell⟩:=Znj (by have:=HO2.out;rw[<-HNW.out]at this;exact this) hne;have hx0:=hcell j hjL;rw[ZDE]at hx0;have hxr:=(HB.out.cell (p:=⟨g,j,none⟩) hg).trans hx0;have hmem:=ZD3 hjL;obtain⟨hpw,hsw⟩:=HPW.out _ hmem;have HTK:Hid ((WL.take (j+1)).map (λu=>Zq L p ⟨u.toArray⟩)=(WL.take j).map (λu=>Zq L p ⟨u.toArray⟩)++[Zq L p ⟨WL[j].toArray⟩]):=J (by rw[List.take_succ_eq_append_getElem hjL,List.map_append];rfl);have HMM:Hid (Zq L p ⟨WL[j].toArray⟩∈WL.map λu=>Zq L p ⟨u.toArray⟩):=J (List.mem_map.2 ⟨_,hmem,rfl⟩);obtain⟨X,hX⟩:∃X:ZB,(⟨WL[j].toArray⟩:ZB)=X:=⟨_,rfl⟩;rw[hX]at hxr hpw hsw HTK HMM;have CV:=J (λW9 (h9:ZL wr W9)=>HIH.out p (by omega) X W9 hsw hpw (ZcM (ZcP HR2.out (HB.out.trans (h9.mono HB.out.size))) (by have:=HB.out.size;have:=h9.size;omega)));obtain⟨o2,ho2⟩:=ZX (Zq L p X);rw[ho2]at CV HTK HMM;unfold ZT Zf0 at CV;obtain⟨T2,hT2⟩:=ZX (o2.getD ⟨#[]⟩);obtain⟨B2,hB2⟩:=ZX o2.isSome;rw[hT2,hB2]at CV;have HT2:=J hT2;have HBo:=J hB2;have hGr:w.heap.size<wr.heap.size:=ZDy hwG HB.out.size;have hgr:g<wr.heap.size:=ZDy hg HB.out.size;have HKS:Hid (∀W9,ZL wr W9->ZL wr W9/\W9.cell? ⟨w.heap.size,2,none⟩=some (I p)/\W9.cell? ⟨g,j,none⟩=some (.string X)):=J (λW9 h9=>⟨h9,(h9.cell (p:=⟨w.heap.size,2,none⟩) hGr).trans c2',(h9.cell (p:=⟨g,j,none⟩) hgr).trans hxr⟩);have XX:Hid (ZL wr wr.drew):=J ⟨rfl,rfl,rfl,Zb _,λ_ _=>rfl⟩;clear hcell hx0 hmem hX ho2 hT2 hB2 hpw hsw hne hcl hjL;go_upto_region 17 with fail
   go_cut [15,16] (λv15 v16 wx=>v15=.string T2/\v16=.bool B2/\Hid (ZL wr wx))
   case first=>
    go_region_held3 (λW9=>ZL wr W9/\W9.cell? ⟨w.heap.size,2,none⟩=some (I p)/\W9.cell? ⟨g,j,none⟩=some (.string X)) (first|assumption|exact HKS.out _ XX.out) (first|(go_at_call 32;refine ZM (CV.out _ XX.out) ?_;rintro w9 hb9;have X2:=J (XX.out.trans (hb9.mono XX.out.size));replace XX:=X2;clear X2 hb9))
    all_goals
     go_wp2;go_meet
     exact⟨rfl,rfl,XX⟩
   obtain⟨rfl,rfl,HBc⟩:=hcut;clear XX HKS CV c0 c1 c2' c3 c4 c5 c6 c7 c8 c9 hxr;have HB5:=J (HB.out.trans (HBc.out.mono HB.out.size));have HO5:=J (ZbX HO.out HBc.out);cases o2 with
   |none=>
    have hb9:B2=false:=HBo.out.symm;subst hb9;have HY:Hid (o=none):=J (by rw[HV.out,Zj1 _ HMM.out]);go_wp2;go_ret2;exact Zim HY.out (HB2.out.trans (HB5.out.mono HB2.out.size))
   |some v2=>
    have hb9:B2=true:=HBo.out.symm;have ht9:T2=v2:=HT2.out.symm;subst hb9 ht9;have HS2:=J (ZjM _ _ T2 HSQ.out);have hsz5:w2.heap.size<=wc.heap.size:=HB5.out.size;go_wp2_with (at_builtin;refine wpList_append_own _ rfl (.tmp 74) (.tmp 76) 31 rfl w2.heap.size 9 i0 (.string ByteArray.empty) 1 16 underlying31 hi0 hy0 hy1 hy2 rfl (by decide) _ _ _ rfl (HO5.out.alloc _) ⟨wc.heap.size,0,none⟩ 1 1 [.string T2] rfl rfl (λj u hj=>Zf1 wc _ _ j u hj) (ZfN _) (by unfold maxLen;omega) (by omega) (by simp;omega) ?_;intro v9 w6 hown2 hgrow2 _;obtain⟨ad6,c6,hv2⟩:=Zdp hown2;rw[hv2]at hown2 ⊢;clear hv2;have HB6:=J (ZgO HB5.out HO5.out hgrow2);have HO6:=J hown2;clear hown2 hgrow2)
    go_roundw
    case rel=>exact⟨j+1,ad6,c6,vs++[T2],by go_num,by omega,by first|rfl|go_num,HB6,J (by rw[HTK.out];exact HS2.out),J (by rw[ZDz,HVL.out];rfl),J (by rw[List.map_append];exact HO6.out)⟩
    case measure=>simp[Zi];omega
  ·have hjn:j=nw:=by omega
   have HSE:Hid (Zfn (WL.map λu=>Zq L p ⟨u.toArray⟩)=some vs):=J (by
    have:=HSQ.out;rw[ZD2 (by rw[HNW.out];omega)]at this;exact this)
   obtain⟨b1,b2,b3⟩:=HLB.out vs HSE.out;have hv3:=HV.out;rw[HSE.out]at hv3;simp only at hv3;have HBr:=J (HB2.out.trans (HB.out.mono HB2.out.size));have CJ:Hid (Calls prog 58 #[.slice ad2 j c2] wr λe w'=>e=.returned (.string (Zd3 vs))/\w'=wr):=J (by
    have hl:(vs.map (·.data.toList)).length=j:=(by rw[ZDD];exact HVL.out);have:=ZvK w2.heap.size (vs.map (·.data.toList)) ad2 c2 wr (by rw[Zrh,ZDD];omega) (by rw[hl,Zzu];exact HO.out);rw[hl]at this;exact this)
   obtain⟨J0,hJ⟩:=ZX (Zd3 vs);rw[hJ]at CJ hv3 b1;clear HV;have HV:=J hv3;clear hv3 b2 b3 hJ c0 c1 c2' c3 c4 c5 c6 c7 c8 c9;subst hjn;go_wp2_with fail
   refine ZM CJ.out ?_;rintro w5 h5;rw[h5];clear h5 CJ;go_wp2_with fail
   refine(CF.out J0 wr HBr.out (by omega) (λe=>absurd e (by decide))).mono ?_;rintro e w7 ⟨B,rfl,hB,hb7⟩;have HB7:=J (Zp HBr.out hb7);have HBB:=J hB;clear hb7 hB CF;cases B
   ·have HY:Hid (o=none):=J (by rw[HV.out];exact ZoX (λe=>by have:=HBB.out.2 e;cases this));go_wp2;go_ret2;exact Zim HY.out HB7.out
   ·have HY:Hid (o=some J0):=J (by rw[HV.out];exact Zmx (HBB.out.1 rfl));go_wp2;go_ret2;exact ZlS HY.out HB7.out
end
theorem ZtI(L:List Ty)(m:Nat)(a:Option Addr)(c:Nat)(hm:m<=L.length)(hz:m<=20000)(hZ:Zwr L):∀(n:Nat),n<m->(∀j,j<=n->Zea L j)->∀(s:ZB) (w:World),s.size<=4000->ZD s=true->ZiL w a L w.heap.size->Calls prog 32 #[.slice a m c,I n,.string s] w (ZT (Zq L n s) w):=by
 intro n;induction n using Nat.strongRecOn with
 |_ n ih=>
  intro hn hok s w hs hpl hr;have IH:VIH L m a c n:=λn' hn' s' w' h1 h2 h3=>ih n' hn' (by omega) (λj hj=>hok j (by omega)) s' w' h1 h2 h3
  have hx:=hZ.2 n (by omega);have hk:=(hok n (Zb _)).2.2.1;by_cases k9:(tyA L n).kd=9
  ·exact ZDa L m n a c s w hm hn hz hok hr hx hs hpl IH k9
  ·by_cases k8:(tyA L n).kd=8
   ·exact ZDf L m n a c s w hm hn hz hok hr hx hs hpl IH k8
   ·by_cases k10:(tyA L n).kd=10
    ·exact ZCI L m n a c s w hm hn hz hok hr hx hs hpl IH k10
    ·exact ZDg L m n a c s w hm hn hz hok hr hx hs hpl IH (by omega)
end
noncomputable def ZpI (L:List Ty)(s:ZB):List Int->Int
 |[] => -1
 |m::r=>if (Zq L m.toNat s).isSome then m else ZpI L s r
theorem Zwk(L:List Ty)(s:ZB):∀(ms:List Int) (j:Nat) (m:Int),(∀i x,i<j->ms[i]?=some x->(Zq L x.toNat s).isSome=false)->ms[j]?=some m->(Zq L m.toNat s).isSome=true->ZpI L s ms=m
 |[],j,m,_,h,_=>by simp at h
 |x::r,0,m,_,h,hv=>by
  simp at h;subst h;rw[ZpI,Zd hv]
 |x::r,j+1,m,h0,h,hv=>by
  have:=h0 0 x (by omega) rfl;rw[ZpI,Za (by rw[this];decide)];exact Zwk L s r j m (λi y hi hy=>h0 (i+1) y (by omega) (by simpa using hy)) (by simpa using h) hv
theorem Zob(L:List Ty)(s:ZB):∀(ms:List Int),(∀x∈ms,(Zq L x.toNat s).isSome=false)->ZpI L s ms = -1
 |[],_=>rfl
 |x::r,h=>by
  rw[ZpI,Za (by rw[h x (ZDH ..)];decide)];exact Zob L s r (λy hy=>h y (ZDN _ hy))
noncomputable def saP (L:List Ty)(n:Int)(a b:ZB):Prop:=(vaO L n a).isSome=true/\vaO L n a=vaO L n b
theorem ZBe{L:List Ty}(h:OkP L){n:Nat}(hn:n<L.length):∀j,j<=n->Zea L j:=λj hj=>h.2 j (by omega)
def avO(k:Int)(s:ZB):Option ZB:=if atO k s=true then some (atV k s) else none
theorem ZpX(f:UInt8->Bool)(hf:∀c,blB c=true->f c=true):∀(l w:List UInt8),(w++l).all f=(wdB w l).all (λx=>x.all f)
 |[],w=>by
  rw[List.append_nil,wdB];by_cases e:w=[]
  ·rw[Zd e,e];rfl
  ·rw[Za e];simp
 |c::l,w=>by
  rw[wdB];by_cases hb:blB c=true
  ·have ih:=ZpX f hf l [];rw[List.nil_append]at ih;rw[Zd hb,List.all_append,List.all_cons,hf c hb,Bool.true_and,ih];by_cases e:w=[]
   ·rw[Zd e,e];rfl
   ·rw[Za e,List.all_cons]
  ·rw[Za hb,<-ZpX f hf l (w++[c])];simp
theorem Zoj(f:UInt8->Bool)(h32:f 32=true):∀W:List (List UInt8),(Lib.join W [32]).all f=W.all (λx=>x.all f)
 |[]=>rfl
 |[x]=>by rw[Lib.join_one];simp
 |x::y::r=>by
  rw[Zd4,List.all_append,List.all_cons,h32,Bool.true_and,Zoj f h32 (y::r)];rfl
theorem Zu9(s:ZB):Zif (jnB s)=Zif s:=by
 unfold Zif;rw[Zm2,Zoj _ (by decide),<-ZpX _ (λc hc=>by
  have:=ZBr hc;unfold blB at hc;simp only[ZDI,ZEd]at hc;rcases hc with ((rfl|rfl)|rfl)|rfl<;>decide)]
 rfl
theorem Zr3:∀l:List UInt8,decide (0<=Lib.indexByte l 46)=!(l.all λc=>!(c==46))
 |[]=>rfl
 |c::l=>by
  have ih:=Zr3 l;rw[Lib.indexByte];by_cases h:c=46
  ·subst h;simp
  ·have h1:(c==46)=false:=by simpa using h
   rw[h1];simp only[List.all_cons,h1,Bool.not_false,Bool.true_and];rw[<-ih];by_cases h2:0<=Lib.indexByte l 46
   ·have h3:(Lib.indexByte l 46 == -1)=false:=(by rw[ZDU];omega);simp[h3,h2];omega
   ·have h4:Lib.indexByte l 46 = -1:=by
     have:∀l:List UInt8,-1<=Lib.indexByte l 46:=λl=>by
      induction l with
      |nil=>decide
      |cons d l ih2=>
       rw[Lib.indexByte];split
       ·omega
       ·split<;>(try split)<;>omega
     have:=this l;omega
    rw[h4];decide
theorem ZCf{k:Int}{s:ZB}(h:atO k s=true):avO k s=some (atV k s):=by unfold avO;rw[Zd h]
theorem ZDi{k:Int}{s:ZB}(h:atO k s=false):avO k s=none:=by unfold avO;rw[Za (by rw[h];decide)]

end Go.Proofs.YtcdnilpdohknfaaGreatDoor
