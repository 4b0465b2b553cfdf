import Derived.Test.YtcdnilpdohknfaaGreatDoorJ22
set_option linter.unusedVariables false
set_option linter.unusedSimpArgs false
set_option maxRecDepth 100000
set_option maxHeartbeats 16000000
namespace Go.Proofs.YtcdnilpdohknfaaGreatDoor
open Tryz
section
open Go.RowKit Go.Joins
theorem ZyB{q:List Int}{v:Int}{r:List Int}(hn:nmP q=some (v,r)):lmP q=if r.head?=some 125 then some ((v,v),r.tail) else if r.head?=some 44 then (if r.tail.head?=some 125 then some ((v,-1),r.tail.tail) else match nmP r.tail with
   |none=>none
   |some (m,r2)=>if r2.head?=some 125 then some ((v,m),r2.tail) else none)
  else none:=by unfold lmP;rw[hn];rfl
theorem ZAp{q:List Int}(h:nmP q=none\/∃v d r,nmP q=some (v,d::r)/\dgB d=true):lmP q=none:=by
 rcases h with h|⟨v,d,r,h,hd⟩
 ·unfold lmP;rw[h]
 ·have hd':48<=d/\d<=57:=ZDY hd;rw[ZyB h,Za (by simp;omega),Za (by simp;omega)]
theorem Zzf{q:List Int}{v:Int}{r:List Int}(hn:nmP q=some (v,44::r))(h1:r.head?≠some 125)(h:nmP r=none\/∃v d r2,nmP r=some (v,d::r2)/\dgB d=true):lmP q=none:=by
 rw[ZyB hn,Za (by simp),Zd (by simp),Za (by simpa using h1)];rcases h with h|⟨v,d,r2,h,hd⟩
 ·show(match nmP r with|none=>none|some (m,r2)=>_)=none;rw[h]
 ·have hd':48<=d/\d<=57:=ZDY hd;show(match nmP r with|none=>none|some (m,r2)=>_)=none;rw[h];show(if (d::r2).head?=some 125 then _ else none)=none;rw[Za (by simp;omega)]
theorem Zxd(n:Nat)(hA:AtS n):PcS n:=by
 intro B R C k X w g hlt hn hg hX h;obtain⟨f,rfl⟩:∃f,g=f+1:=⟨g-1,by omega⟩;have HE:Hid (rdP (f+1) (C.drop k) X=match rdA f (C.drop k) X with
  |none=>none
  |some (u1,X1)=>match ctP u1 with
   |none=>none
   |some (none,u2)=>some (u2,X1)
   |some (some m,u2)=>some (u2,X1++[cnN ((X1.length:Int)-1) m.1 m.2])):=J (by rw[rdP];rfl)
 have HA:=J (hA B R C k X w f hlt hn (by omega) hX h);have hC4:=h.1.2.2;clear h;go_enter func219,ntmps219
 go_wp2_with fail
 refine HA.out.mono ?_;rintro e w1 (⟨k1,X1,ho,hX1,rfl,h1,hb1⟩|⟨⟨v,k1,X1,rfl,h1⟩,hno,hb1⟩)
 rotate_left
 ·have HNO:Hid (∀u9 X9,rdP (f+1) (C.drop k) X=some (u9,X9)->Bd X9):=J (λu9 X9 h9=>by
   rw[HE.out]at h9;cases hq:rdA f (C.drop k) X with
   |none=>rw[hq]at h9;cases h9
   |some p=>
    obtain⟨u1,Y1⟩:=p;rw[hq]at h9;have hb9:=hno u1 Y1 hq;dsimp only at h9;split at h9
    ·cases h9
    ·cases h9;exact hb9
    ·cases h9;exact ZnS _ hb9)
  have bA:=(Ze w1.heap.size w1).alloc (Zb _) (.cells #[I 5,.bool false,.slice none 0 0,I v,I 0,I 0,I (-1)] 204);have HS2:=J (Zg9 h1 bA);have HB2:=J (hb1.trans (bA.mono (ZcI h1)));obtain⟨_,_,_,_,⟨-,-,d2,-⟩,-,-⟩:=Zal HS2.out;clear h1 hno hb1 bA HE HA;go_wp2;go_ret;exact .inr ⟨⟨0,k1,X1,rfl,HS2.out⟩,HNO.out,HB2.out⟩
 ·have HE2:Hid (rdP (f+1) (C.drop k) X=match ctP (C.drop k1) with
   |none=>none
   |some (none,u2)=>some (u2,X1)
   |some (some m,u2)=>some (u2,X1++[cnN ((X1.length:Int)-1) m.1 m.2])):=J (by have h9:=HE.out;rw[ho]at h9;exact h9)
  obtain⟨aa,haa⟩:=ZX ((X1.length:Int)-1);have HAA:=J haa;rw[haa]at HE2;have hz:=ZcI h1;have bA:=(Ze w1.heap.size w1).alloc (Zb _) (.cells #[I 5,.bool false,.slice none 0 0,I aa,I 0,I 0,I (-1)] 204);have HC:Hid (CS B R w1.heap.size w1.heap.size (w1.alloc (.cells #[I 5,.bool false,.slice none 0 0,I aa,I 0,I 0,I (-1)] 204)) C k1 false X1 aa 0 (-1)):=J ⟨Zg9 (Zhl h1) bA,Zz w1 _,Zb _,hz⟩;have HB:=J (hb1.trans (bA.mono hz));obtain⟨_,_,_,_,⟨-,-,d2,-⟩,-,-⟩:=Zal HC.out.rd;rw[haa];clear h1 ho hb1 bA HE HA;go_wp2_with fail
  obtain⟨W,hW⟩:=ZX (w1.alloc (.cells #[I 5,.bool false,.slice none 0 0,I aa,I 0,I 0,I (-1)] 204));rw[hW]at HC HB ⊢;obtain⟨N,hN⟩:=ZX w1.heap.size;rw[hN]at HC ⊢;clear hW hN haa d2 hz;have hk1:=HC.out.rd.1.2.1;by_cases e1:(C.drop k1).head?=some 63
  ·have t1:=ZaH e1;obtain⟨-,t2,t3⟩:=ZbM t1;have E:Hid (rdP (f+1) (C.drop k) X=some (C.drop (k1+1),X1++[cnN aa 0 1])):=J (by rw[HE2.out];unfold ctP;rw[Zd e1,t2]);have HT:=J (Zgu B R C (k1) 63 _ X1 W HC.out.rd t1);go_wp2_with fail
   refine ZM HT.out ?_;rintro w2 ⟨h2,q2⟩;have HC2:=J (ZgM HC.out q2 h2);have HB2:=J (HB.out.trans (ZU HC.out.rd q2));clear h2 q2 HT HC HB;obtain⟨⟨n0,n1,n2,n3,n4,n5,n6⟩,f5,f6⟩:=Zbp HC2.out.nd;obtain⟨C3,b3⟩:=Zpg HC2.out 1;have HC3:=J C3;have HB3:=J (HB2.out.trans b3);have HA:=J (ZiN HC3.out hX1);clear C3 b3;go_wp2_with fail
   refine ZM HA.out ?_;rintro w9 ⟨h9,hb9⟩;have HQ:Hid (RaS B R C w (rdP (f+1) (C.drop k) X) (.returned (I (X1.length:Int))) w9):=J (ZcK E.out h9 (HB3.out.trans hb9));clear h9 hb9;go_wp2;go_ret;exact HQ.out
  ·have t0:=e1;have HT:=J (Zgo B R C (k1) 63 X1 W HC.out.rd t0);go_wp2_with fail
   refine ZM HT.out ?_;rintro w2 ⟨h2,q2⟩;have HC2:=J (ZgM HC.out q2 h2);have HB2:=J (HB.out.trans (ZU HC.out.rd q2));clear h2 q2 HT HC HB;by_cases e2:(C.drop k1).head?=some 42
   ·have t1:=ZaH e2;obtain⟨-,t2,t3⟩:=ZbM t1;have E:Hid (rdP (f+1) (C.drop k) X=some (C.drop (k1+1),X1++[cnN aa 0 (-1)])):=J (by rw[HE2.out];unfold ctP;rw[Za e1,Zd e2,t2]);have HT:=J (Zgu B R C (k1) 42 _ X1 w2 HC2.out.rd t1);go_wp2_with fail
    refine ZM HT.out ?_;rintro w3 ⟨h3,q3⟩;have HC3:=J (ZgM HC2.out q3 h3);have HB3:=J (HB2.out.trans (ZU HC2.out.rd q3));clear h3 q3 HT HC2 HB2;have HA:=J (ZiN HC3.out hX1);obtain⟨⟨n0,n1,n2,n3,n4,n5,n6⟩,f5,f6⟩:=Zbp HC3.out.nd;go_wp2_with fail
    refine ZM HA.out ?_;rintro w9 ⟨h9,hb9⟩;have HQ:Hid (RaS B R C w (rdP (f+1) (C.drop k) X) (.returned (I (X1.length:Int))) w9):=J (ZcK E.out h9 (HB3.out.trans hb9));clear h9 hb9;go_wp2;go_ret;exact HQ.out
   ·have t0:=e2;have HT:=J (Zgo B R C (k1) 42 X1 w2 HC2.out.rd t0);go_wp2_with fail
    refine ZM HT.out ?_;rintro w3 ⟨h3,q3⟩;have HC3:=J (ZgM HC2.out q3 h3);have HB3:=J (HB2.out.trans (ZU HC2.out.rd q3));clear h3 q3 HT HC2 HB2;by_cases e3:(C.drop k1).head?=some 43
    ·have t1:=ZaH e3;obtain⟨-,t2,t3⟩:=ZbM t1;have E:Hid (rdP (f+1) (C.drop k) X=some (C.drop (k1+1),X1++[cnN aa 1 (-1)])):=J (by rw[HE2.out];unfold ctP;rw[Za e1,Za e2,Zd e3,t2]);have HT:=J (Zgu B R C (k1) 43 _ X1 w3 HC3.out.rd t1);go_wp2_with fail
     refine ZM HT.out ?_;rintro w4 ⟨h4,q4⟩;have HC4:=J (ZgM HC3.out q4 h4);have HB4:=J (HB3.out.trans (ZU HC3.out.rd q4));clear h4 q4 HT HC3 HB3;obtain⟨⟨n0,n1,n2,n3,n4,n5,n6⟩,f5,f6⟩:=Zbp HC4.out.nd;obtain⟨C5,b5⟩:=Zxi HC4.out 1;have HC5:=J C5;have HB5:=J (HB4.out.trans b5);have HA:=J (ZiN HC5.out hX1);clear C5 b5;go_wp2_with fail
     refine ZM HA.out ?_;rintro w9 ⟨h9,hb9⟩;have HQ:Hid (RaS B R C w (rdP (f+1) (C.drop k) X) (.returned (I (X1.length:Int))) w9):=J (ZcK E.out h9 (HB5.out.trans hb9));clear h9 hb9;go_wp2;go_ret;exact HQ.out
    ·have t0:=e3;have HT:=J (Zgo B R C (k1) 43 X1 w3 HC3.out.rd t0);go_wp2_with fail
     refine ZM HT.out ?_;rintro w4 ⟨h4,q4⟩;have HC4:=J (ZgM HC3.out q4 h4);have HB4:=J (HB3.out.trans (ZU HC3.out.rd q4));clear h4 q4 HT HC3 HB3;by_cases e4:(C.drop k1).head?=some 123
     ·have t1:=ZaH e4;obtain⟨-,t2,t3⟩:=ZbM t1;have HE3:Hid (rdP (f+1) (C.drop k) X=match lmP (C.drop (k1+1)) with
       |none=>none
       |some (m,r)=>some (r,X1++[cnN aa m.1 m.2])):=J (by
        rw[HE2.out];unfold ctP;rw[Za e1,Za e2,Za e3,Zd e4,t2];cases lmP (C.drop (k1+1))<;>rfl)
      have HT:=J (Zgu B R C (k1) 123 _ X1 w4 HC4.out.rd t1);go_wp2_with fail
      refine ZM HT.out ?_;rintro w5 ⟨h5,q5⟩;have HC5:=J (ZgM HC4.out q5 h5);have HB5:=J (HB4.out.trans (ZU HC4.out.rd q5));clear h5 q5 HT HC4 HB4;clear e1 e2 e3 e4 t1 t2 HE2;have HNM:=J (ZnP B R C (k1+1) X1 w5 HC5.out.rd);go_wp2_with fail
      refine HNM.out.mono ?_;rintro e w6 (⟨v,k2,hnm,hk2,rfl,h6,q6⟩|⟨⟨v,k2,rfl,h6⟩,q6,hnm⟩)
      ·have C6:=ZgM HC5.out q6 h6;obtain⟨⟨n0,n1,n2,n3,n4,n5,n6⟩,f5,f6⟩:=Zbp C6.nd;obtain⟨C7,b7⟩:=Zxi C6 v;obtain⟨C8,b8⟩:=Zpg C7 v;have HC8:=J C8;have HB8:=J (((HB5.out.trans (ZU HC5.out.rd q6)).trans b7).trans b8);have hk2l:=h6.1.2.1;have HL:=J (ZyB hnm);have HNM2:=J hnm;clear C6 C7 C8 b7 b8 h6 q6 HNM HC5 HB5 hnm;go_wp2_with fail
       obtain⟨W8,hW8⟩:=ZX ((w6.setCell ⟨N,5,none⟩ (I v)).setCell ⟨N,6,none⟩ (I v));rw[hW8]at HC8 HB8 ⊢;clear hW8 n0 n1 n2 n3 n4 n5 n6 f5 f6;by_cases e5:(C.drop k2).head?=some 44
       ·have t1:=ZaH e5;obtain⟨-,t2,t3⟩:=ZbM t1;have HN44:Hid (nmP (C.drop (k1+1))=some (v,44::C.drop (k2+1))):=J (by have h9:=HNM2.out;rw[t1,t2]at h9;exact h9);have HL2:Hid (lmP (C.drop (k1+1))=if (C.drop (k2+1)).head?=some 125 then some ((v,-1),(C.drop (k2+1)).tail) else match nmP (C.drop (k2+1)) with
         |none=>none
         |some (m,r2)=>if r2.head?=some 125 then some ((v,m),r2.tail) else none):=J (by rw[HL.out,Za (by rw[e5];simp),Zd e5,t2])
        have HT:=J (Zgu B R C (k2) 44 _ X1 W8 HC8.out.rd t1);go_wp2_with fail
        refine ZM HT.out ?_;rintro wa ⟨ha,qa⟩;have HCa:=J (ZgM HC8.out qa ha);have HBa:=J (HB8.out.trans (ZU HC8.out.rd qa));clear ha qa HT HC8 HB8;obtain⟨⟨n0,n1,n2,n3,n4,n5,n6⟩,f5,f6⟩:=Zbp HCa.out.nd;obtain⟨Cb,bb⟩:=Zpg HCa.out (-1);have HCb:=J Cb;have HBb:=J (HBa.out.trans bb);clear Cb bb HL HNM2 e5 t1 t2;go_wp2_with fail
        obtain⟨Wb,hWb⟩:=ZX (wa.setCell ⟨N,6,none⟩ (I (-1)));rw[hWb]at HCb HBb ⊢;clear hWb n0 n1 n2 n3 n4 n5 n6 f5 f6;have ek:((k2+1:Nat):Int)=(k2:Int)+1:=(by omega);have hkb:=HCb.out.rd.1.2.1;cases hr2:C.drop (k2+1) with
        |nil=>
         have hk9:C.length<=k2+1:=List.drop_eq_nil_iff.1 hr2;have E:Hid (rdP (f+1) (C.drop k) X=none):=J (by rw[HE3.out,HL2.out,hr2];rfl);obtain⟨ta,tc,ad,cp,⟨c0,c1,c2,c3⟩,ff,-⟩:=Zal HCb.out.rd;rw[ek]at c1;have hd:decide ((k2:Int)+1<(C.length:Int))=false:=Zg (by omega);have hi2:¬(k2:Int)+1<(C.length:Int):=(by omega);have hd3:decide (k2+1<C.length)=false:=Zg (by omega);have hi3:¬k2+1<C.length:=(by omega);have hne:(C.drop (k2+1)).head?≠some 125:=(by rw[hr2];simp);clear ff;go_quiet (fail)
         revert nq;intro n1
         have HCc:=J (ZgM HCb.out (Zar Wb n1) (Zbu HCb.out.rd n1));have HBc:Hid (Below B w (Wb.drewN n1)):=J (HBb.out.trans ((ZcE Wb n1).mono (ZcI HCb.out.rd)));obtain⟨Wc,hWc⟩:=ZX (Wb.drewN n1);clear c0 c1 c2 c3 hr2;go_wp2_with fail
         rw[hWc]at HCc HBc;clear hWc hd hi2 hd3 hi3;have HT:=J (Zgo B R C (k2+1) 125 X1 Wc HCc.out.rd hne);go_wp2_with fail
         refine ZM HT.out ?_;rintro wd ⟨hd,qd⟩;have HCd:=J (ZgM HCc.out qd hd);have HBd:=J (HBc.out.trans (ZU HCc.out.rd qd));clear hd qd HT HCc HBc;obtain⟨_,_,_,_,⟨-,-,d2,-⟩,ff,-⟩:=Zal HCd.out.rd;have ff2:=ff 2;obtain⟨CB,bB⟩:=Zwm HCd.out true;have HQ:=J (Zdy CB.rd);have HB9:=J (HBd.out.trans bB);clear ff CB bB;go_wp2;go_ret;exact Zeq E.out HQ.out HB9.out
        |cons d r2=>
         obtain⟨b,off,tc,ad,cp,c0,c1,c2,c3,f1,f2,ck,hlt2⟩:=Zbj HCb.out.rd hr2;obtain⟨-,hr3,-⟩:=ZbM hr2;rw[ek]at c1;have hd:decide ((k2:Int)+1<(C.length:Int))=true:=Zh (by omega);have hi0:(0:Int)<=(k2:Int)+1:=(by omega);have hi1:(k2:Int)+1<(C.length:Int):=(by omega);have hi3:((k2:Int)+1).toNat=k2+1:=(by omega);have hd3:decide (k2+1<C.length)=true:=Zh hlt2;by_cases e6:d=125
         ·have hne:(d != 125)=false:=(by simp[e6]);go_quiet (fail)
          revert nq;intro n1
          have HCc:=J (ZgM HCb.out (Zar Wb n1) (Zbu HCb.out.rd n1));have HBc:Hid (Below B w (Wb.drewN n1)):=J (HBb.out.trans ((ZcE Wb n1).mono (ZcI HCb.out.rd)));obtain⟨Wc,hWc⟩:=ZX (Wb.drewN n1);clear c0 c1 c2 c3 f1 f2 ck;go_wp2_with fail
          rw[hWc]at HCc HBc;subst e6;have hr4:C.drop (k2+1)=125::C.drop (k2+1+1):=(by rw[hr2,hr3]);clear hWc hd hi0 hi1 hi3 hd3 hr2 hr3;have E:Hid (rdP (f+1) (C.drop k) X=some (C.drop (k2+1+1),X1++[cnN aa v (-1)])):=J (by rw[HE3.out,HL2.out,hr4];rfl);have HT:=J (Zgu B R C (k2+1) 125 _ X1 Wc HCc.out.rd hr4);go_wp2_with fail
          refine ZM HT.out ?_;rintro wZ ⟨hZ,qZ⟩;have HCZ:=J (ZgM HCc.out qZ hZ);have HBZ:=J (HBc.out.trans (ZU HCc.out.rd qZ));clear hZ qZ HT HCc HBc;obtain⟨⟨n0,n1,n2,n3,n4,n5,n6⟩,f5,f6⟩:=Zbp HCZ.out.nd;have CN:=J (ZyH aa v (-1) wZ);cases hok:ZxY (cnN aa v (-1))
          ·rw[hok]at CN;have HK:=J hok;clear hok;go_wp2_with fail
           refine ZM CN.out ?_;rintro wY hbY;have HCY:=J (ZoK HCZ.out hbY);have HBY:=J (HBZ.out.trans (hbY.mono (ZcI HCZ.out.rd)));obtain⟨_,_,_,_,⟨-,-,d2,-⟩,ff,-⟩:=Zal HCY.out.rd;have ff2:=ff 2;obtain⟨CB,bB⟩:=Zwm HCY.out true;have HQ:=J (Zdy CB.rd);have HB9:=J (HBY.out.trans bB);clear ff CB bB hbY;go_wp2;go_ret;exact .inr ⟨⟨0,_,X1,rfl,HQ.out⟩,λu9 X9 h9=>(by rw[E.out]at h9;cases h9;exact .inr ⟨_,by simp,HK.out⟩),HB9.out⟩
          ·rw[hok]at CN;clear hok;go_wp2_with fail
           refine ZM CN.out ?_;rintro wY hbY;have HCY:=J (ZoK HCZ.out hbY);have HBY:=J (HBZ.out.trans (hbY.mono (ZcI HCZ.out.rd)));clear hbY n0 n1 n2 n3 n4 n5 n6 f5 f6;have HA:=J (ZiN HCY.out hX1);obtain⟨⟨n0,n1,n2,n3,n4,n5,n6⟩,f5,f6⟩:=Zbp HCY.out.nd;go_wp2_with fail
           refine ZM HA.out ?_;rintro w9 ⟨h9,hb9⟩;have HQ:Hid (RaS B R C w (rdP (f+1) (C.drop k) X) (.returned (I (X1.length:Int))) w9):=J (ZcK E.out h9 (HBY.out.trans hb9));clear h9 hb9;go_wp2;go_ret;exact HQ.out
         ·have hne:(d != 125)=true:=(by simp[e6]);go_quiet (fail)
          revert nq;intro n1
          have HCc:=J (ZgM HCb.out (Zar Wb n1) (Zbu HCb.out.rd n1));have HBc:Hid (Below B w (Wb.drewN n1)):=J (HBb.out.trans ((ZcE Wb n1).mono (ZcI HCb.out.rd)));obtain⟨Wc,hWc⟩:=ZX (Wb.drewN n1);clear c0 c1 c2 c3 f1 f2 ck;go_wp2_with fail
          rw[hWc]at HCc HBc;have hh:(C.drop (k2+1)).head?≠some 125:=(by rw[hr2];simpa using e6);clear hWc hd hi0 hi1 hi3 hd3 hr2 hr3 hne;refine(ZnP B R C (k2+1) X1 Wc HCc.out.rd).mono ?_;rintro e we (⟨v2,k3,hnm2,hk3,rfl,he,qe⟩|⟨⟨v2,k3,rfl,he⟩,qe,hnm2⟩)
          ·have Ce:=ZgM HCc.out qe he;obtain⟨⟨n0,n1,n2,n3,n4,n5,n6⟩,f5,f6⟩:=Zbp Ce.nd;obtain⟨Cg,bg⟩:=Zpg Ce v2;have HCg:=J Cg;have HBg:=J ((HBc.out.trans (ZU HCc.out.rd qe)).trans bg);have HL3:Hid (rdP (f+1) (C.drop k) X=if (C.drop k3).head?=some 125 then some ((C.drop k3).tail,X1++[cnN aa v v2]) else none):=J (by rw[HE3.out,HL2.out,Za hh,hnm2];show(match (if (C.drop k3).head?=some 125 then some ((v,v2),(C.drop k3).tail) else none:Option ((Int×Int)×List Int)) with|none=>none|some (m,r)=>some (r,X1++[cnN aa m.1 m.2]))=_;by_cases e9:(C.drop k3).head?=some 125;(rw[Zd e9,Zd e9]);(rw[Za e9,Za e9]));clear Ce Cg bg he qe hnm2 HCc HBc HL2 HE3;go_wp2_with fail
           obtain⟨Wg,hWg⟩:=ZX (we.setCell ⟨N,6,none⟩ (I v2));rw[hWg]at HCg HBg ⊢;clear hWg n0 n1 n2 n3 n4 n5 n6 f5 f6;by_cases e7:(C.drop k3).head?=some 125
           ·have t1:=ZaH e7;obtain⟨-,t2,t3⟩:=ZbM t1;have E:Hid (rdP (f+1) (C.drop k) X=some (C.drop (k3+1),X1++[cnN aa v v2])):=J (by rw[HL3.out,Zd e7,t2]);have HT:=J (Zgu B R C (k3) 125 _ X1 Wg HCg.out.rd t1);go_wp2_with fail
            refine ZM HT.out ?_;rintro wZ ⟨hZ,qZ⟩;have HCZ:=J (ZgM HCg.out qZ hZ);have HBZ:=J (HBg.out.trans (ZU HCg.out.rd qZ));clear hZ qZ HT HCg HBg;obtain⟨⟨n0,n1,n2,n3,n4,n5,n6⟩,f5,f6⟩:=Zbp HCZ.out.nd;have CN:=J (ZyH aa v v2 wZ);cases hok:ZxY (cnN aa v v2)
            ·rw[hok]at CN;have HK:=J hok;clear hok;go_wp2_with fail
             refine ZM CN.out ?_;rintro wY hbY;have HCY:=J (ZoK HCZ.out hbY);have HBY:=J (HBZ.out.trans (hbY.mono (ZcI HCZ.out.rd)));obtain⟨_,_,_,_,⟨-,-,d2,-⟩,ff,-⟩:=Zal HCY.out.rd;have ff2:=ff 2;obtain⟨CB,bB⟩:=Zwm HCY.out true;have HQ:=J (Zdy CB.rd);have HB9:=J (HBY.out.trans bB);clear ff CB bB hbY;go_wp2;go_ret;exact .inr ⟨⟨0,_,X1,rfl,HQ.out⟩,λu9 X9 h9=>(by rw[E.out]at h9;cases h9;exact .inr ⟨_,by simp,HK.out⟩),HB9.out⟩
            ·rw[hok]at CN;clear hok;go_wp2_with fail
             refine ZM CN.out ?_;rintro wY hbY;have HCY:=J (ZoK HCZ.out hbY);have HBY:=J (HBZ.out.trans (hbY.mono (ZcI HCZ.out.rd)));clear hbY n0 n1 n2 n3 n4 n5 n6 f5 f6;have HA:=J (ZiN HCY.out hX1);obtain⟨⟨n0,n1,n2,n3,n4,n5,n6⟩,f5,f6⟩:=Zbp HCY.out.nd;go_wp2_with fail
             refine ZM HA.out ?_;rintro w9 ⟨h9,hb9⟩;have HQ:Hid (RaS B R C w (rdP (f+1) (C.drop k) X) (.returned (I (X1.length:Int))) w9):=J (ZcK E.out h9 (HBY.out.trans hb9));clear h9 hb9;go_wp2;go_ret;exact HQ.out
           ·have E:Hid (rdP (f+1) (C.drop k) X=none):=J (by rw[HL3.out,Za e7]);have HT:=J (Zgo B R C (k3) 125 X1 Wg HCg.out.rd e7);go_wp2_with fail
            refine ZM HT.out ?_;rintro wi ⟨hi,qi⟩;have HCi:=J (ZgM HCg.out qi hi);have HBi:=J (HBg.out.trans (ZU HCg.out.rd qi));clear hi qi HT HCg HBg;obtain⟨_,_,_,_,⟨-,-,d2,-⟩,ff,-⟩:=Zal HCi.out.rd;have ff2:=ff 2;obtain⟨CB,bB⟩:=Zwm HCi.out true;have HQ:=J (Zdy CB.rd);have HB9:=J (HBi.out.trans bB);clear ff CB bB;go_wp2;go_ret;exact Zeq E.out HQ.out HB9.out
          ·have Ce:=ZgM HCc.out qe he;obtain⟨⟨n0,n1,n2,n3,n4,n5,n6⟩,f5,f6⟩:=Zbp Ce.nd;obtain⟨Cg,bg⟩:=Zpg Ce v2;have HCg:=J Cg;have HBg:=J ((HBc.out.trans (ZU HCc.out.rd qe)).trans bg);have E:Hid (rdP (f+1) (C.drop k) X=none):=J (by rw[HE3.out,Zzf HN44.out hh hnm2]);clear Ce Cg bg he qe hnm2 HCc HBc HL2 HE3;go_wp2_with fail
           obtain⟨Wg,hWg⟩:=ZX (we.setCell ⟨N,6,none⟩ (I v2));rw[hWg]at HCg HBg ⊢;clear hWg n0 n1 n2 n3 n4 n5 n6 f5 f6;have HT:=J (ZoA B R C (k3) 125 X1 Wg HCg.out.rd);go_wp2_with fail
           refine ZM HT.out ?_;rintro wi ⟨hi,qi⟩;have HCi:=J (ZgM HCg.out qi hi);have HBi:=J (HBg.out.trans (ZU HCg.out.rd qi));clear hi qi HT HCg HBg;obtain⟨_,_,_,_,⟨-,-,d2,-⟩,ff,-⟩:=Zal HCi.out.rd;have ff2:=ff 2;obtain⟨CB,bB⟩:=Zwm HCi.out true;have HQ:=J (Zdy CB.rd);have HB9:=J (HBi.out.trans bB);clear ff CB bB;go_wp2;go_ret;exact Zeq E.out HQ.out HB9.out
       ·have t0:=e5;have HT:=J (Zgo B R C (k2) 44 X1 W8 HC8.out.rd t0);go_wp2_with fail
        refine ZM HT.out ?_;rintro wa ⟨ha,qa⟩;have HCa:=J (ZgM HC8.out qa ha);have HBa:=J (HB8.out.trans (ZU HC8.out.rd qa));clear ha qa HT HC8 HB8;by_cases e6:(C.drop k2).head?=some 125
        ·have t1:=ZaH e6;obtain⟨-,t2,t3⟩:=ZbM t1;have E:Hid (rdP (f+1) (C.drop k) X=some (C.drop (k2+1),X1++[cnN aa v v])):=J (by rw[HE3.out,HL.out,Zd e6,t2]);have HT:=J (Zgu B R C (k2) 125 _ X1 wa HCa.out.rd t1);go_wp2_with fail
         refine ZM HT.out ?_;rintro wZ ⟨hZ,qZ⟩;have HCZ:=J (ZgM HCa.out qZ hZ);have HBZ:=J (HBa.out.trans (ZU HCa.out.rd qZ));clear hZ qZ HT HCa HBa;obtain⟨⟨n0,n1,n2,n3,n4,n5,n6⟩,f5,f6⟩:=Zbp HCZ.out.nd;have CN:=J (ZyH aa v v wZ);cases hok:ZxY (cnN aa v v)
         ·rw[hok]at CN;have HK:=J hok;clear hok;go_wp2_with fail
          refine ZM CN.out ?_;rintro wY hbY;have HCY:=J (ZoK HCZ.out hbY);have HBY:=J (HBZ.out.trans (hbY.mono (ZcI HCZ.out.rd)));obtain⟨_,_,_,_,⟨-,-,d2,-⟩,ff,-⟩:=Zal HCY.out.rd;have ff2:=ff 2;obtain⟨CB,bB⟩:=Zwm HCY.out true;have HQ:=J (Zdy CB.rd);have HB9:=J (HBY.out.trans bB);clear ff CB bB hbY;go_wp2;go_ret;exact .inr ⟨⟨0,_,X1,rfl,HQ.out⟩,λu9 X9 h9=>(by rw[E.out]at h9;cases h9;exact .inr ⟨_,by simp,HK.out⟩),HB9.out⟩
         ·rw[hok]at CN;clear hok;go_wp2_with fail
          refine ZM CN.out ?_;rintro wY hbY;have HCY:=J (ZoK HCZ.out hbY);have HBY:=J (HBZ.out.trans (hbY.mono (ZcI HCZ.out.rd)));clear hbY n0 n1 n2 n3 n4 n5 n6 f5 f6;have HA:=J (ZiN HCY.out hX1);obtain⟨⟨n0,n1,n2,n3,n4,n5,n6⟩,f5,f6⟩:=Zbp HCY.out.nd;go_wp2_with fail
          refine ZM HA.out ?_;rintro w9 ⟨h9,hb9⟩;have HQ:Hid (RaS B R C w (rdP (f+1) (C.drop k) X) (.returned (I (X1.length:Int))) w9):=J (ZcK E.out h9 (HBY.out.trans hb9));clear h9 hb9;go_wp2;go_ret;exact HQ.out
        ·have E:Hid (rdP (f+1) (C.drop k) X=none):=J (by rw[HE3.out,HL.out,Za e6,Za e5]);have HT:=J (Zgo B R C (k2) 125 X1 wa HCa.out.rd e6);go_wp2_with fail
         refine ZM HT.out ?_;rintro wc ⟨hc,qc⟩;have HCc:=J (ZgM HCa.out qc hc);have HBc:=J (HBa.out.trans (ZU HCa.out.rd qc));clear hc qc HT HCa HBa;obtain⟨_,_,_,_,⟨-,-,d2,-⟩,ff,-⟩:=Zal HCc.out.rd;have ff2:=ff 2;obtain⟨CB,bB⟩:=Zwm HCc.out true;have HQ:=J (Zdy CB.rd);have HB9:=J (HBc.out.trans bB);clear ff CB bB;go_wp2;go_ret;exact Zeq E.out HQ.out HB9.out
      ·have C6:=ZgM HC5.out q6 h6;obtain⟨⟨n0,n1,n2,n3,n4,n5,n6⟩,f5,f6⟩:=Zbp C6.nd;obtain⟨C7,b7⟩:=Zxi C6 v;obtain⟨C8,b8⟩:=Zpg C7 v;have HC8:=J C8;have HB8:=J (((HB5.out.trans (ZU HC5.out.rd q6)).trans b7).trans b8);have E:Hid (rdP (f+1) (C.drop k) X=none):=J (by rw[HE3.out,ZAp hnm]);clear C6 C7 C8 b7 b8 h6 q6 HNM HC5 HB5 hnm HE3;go_wp2_with fail
       obtain⟨W8,hW8⟩:=ZX ((w6.setCell ⟨N,5,none⟩ (I v)).setCell ⟨N,6,none⟩ (I v));rw[hW8]at HC8 HB8 ⊢;clear hW8 n0 n1 n2 n3 n4 n5 n6 f5 f6;have HT:=J (ZoA B R C (k2) 44 X1 W8 HC8.out.rd);go_wp2_with fail
       refine ZM HT.out ?_;rintro wa ⟨ha,qa⟩;have HCa:=J (ZgM HC8.out qa ha);have HBa:=J (HB8.out.trans (ZU HC8.out.rd qa));clear ha qa HT HC8 HB8;have HT:=J (ZoA B R C (k2) 125 X1 wa HCa.out.rd);go_wp2_with fail
       refine ZM HT.out ?_;rintro wc ⟨hc,qc⟩;have HCc:=J (ZgM HCa.out qc hc);have HBc:=J (HBa.out.trans (ZU HCa.out.rd qc));clear hc qc HT HCa HBa;obtain⟨_,_,_,_,⟨-,-,d2,-⟩,ff,-⟩:=Zal HCc.out.rd;have ff2:=ff 2;obtain⟨CB,bB⟩:=Zwm HCc.out true;have HQ:=J (Zdy CB.rd);have HB9:=J (HBc.out.trans bB);clear ff CB bB;go_wp2;go_ret;exact Zeq E.out HQ.out HB9.out
     ·have E:Hid (rdP (f+1) (C.drop k) X=some (C.drop k1,X1)):=J (by rw[HE2.out];unfold ctP;rw[Za e1,Za e2,Za e3,Za e4]);have HT:=J (Zgo B R C (k1) 123 X1 w4 HC4.out.rd e4);go_wp2_with fail
      refine ZM HT.out ?_;rintro w5 ⟨h5,q5⟩;have HC5:=J (ZgM HC4.out q5 h5);have HB5:=J (HB4.out.trans (ZU HC4.out.rd q5));clear h5 q5 HT HC4 HB4;have HQ:=J (Zdy HC5.out.rd);go_wp2;go_ret;exact .inl ⟨k1,X1,E.out,hX1,by rw[HAA.out];rfl,HQ.out,HB5.out⟩
theorem ZyE{u:List Int}{X:List Nd}{u':List Int}{X':List Nd}(h:brP u X=some (u',X')):X.length<X'.length:=by
 unfold brP at h;split at h
 ·cases h
 ·cases h;simp
theorem Zyc{u:List Int}{X:List Nd}{u':List Int}{X':List Nd}(h:bsP u X=some (u',X')):X.length<X'.length:=by
 cases u with
 |nil=>cases h
 |cons c r=>
  rw[bsP]at h;split at h
  ·cases h;simp
  ·split at h
   ·cases h
   ·cases h;simp
theorem ZmV:∀(f:Nat),(∀ {u X u' X'},rdC f u X=some (u',X')->X.length<X'.length)/\(∀ {u X u' X'},rdR f u X=some (u',X')->X.length<X'.length)/\(∀ {u X u' X'},rdP f u X=some (u',X')->X.length<X'.length)/\(∀ {u X u' X'},rdA f u X=some (u',X')->X.length<X'.length)
 |0=>by
  refine⟨λh=>?_,λh=>?_,λh=>?_,λh=>?_⟩
  ·rw[rdC]at h;cases h
  ·rw[rdR]at h;cases h
  ·rw[rdP]at h;cases h
  ·rw[rdA]at h;cases h
 |f+1=>by
  obtain⟨iC,iR,iP,iA⟩:=ZmV f;have pre:∀ {X X':List Nd},(∃Y,X'=X++Y)->X.length<=X'.length:=λh=>by obtain⟨Y,rfl⟩:=h;simp
  refine⟨λ {u X u' X'} h=>?_,λ {u X u' X'} h=>?_,λ {u X u' X'} h=>?_,λ {u X u' X'} h=>?_⟩
  ·rw[rdC]at h;split at h
   ·cases h
   ·rename_i u1 X1 e;have h1:=iR e;have h2:=pre ((Zet f).2.1 h).1;omega
  ·rw[rdR]at h;split at h
   ·cases h;simp
   ·split at h
    ·cases h
    ·rename_i u1 X1 e;have h1:=iP e;have h2:=pre ((Zet f).2.2.2.1 h).1;omega
  ·rw[rdP]at h;split at h
   ·cases h
   ·rename_i u1 X1 e;have h1:=iA e;split at h
    ·cases h
    ·cases h;exact h1
    ·cases h;simp;omega
  ·cases u with
   |nil=>rw[rdA]at h;cases h
   |cons c r=>
    rw[rdA]at h;split at h
    ·split at h
     ·cases h
     ·rename_i u1 X1 e;split at h
      ·cases h;exact iC e
      ·cases h
    ·split at h
     ·exact ZyE h
     ·split at h
      ·cases h;simp
      ·split at h
       ·exact Zyc h
       ·split at h
        ·cases h
        ·cases h;simp
theorem ZiD{X X':List Nd}(h:∃Y,X'=X++Y)(hb:Bd X):Bd X':=by obtain⟨Y,rfl⟩:=h;exact ZnS Y hb
theorem Zlx{B R:Nat}{C:List Int}{k:Nat}{X:List Nd}{w:World}(kd:Int)(a b:Int)(h:SD (λj=>B<=j) B R w C k false X)(hX:X.length<=120):Calls prog 181 #[.pointer (some ⟨R,0,none⟩),.agg #[I kd,.bool false,.slice none 0 0,I a,I b,I 0,I 0]] w λe w'=>e=.returned (I (X.length:Int))/\SD (λj=>B<=j) B R w' C k (decide (120<X.length+1)) (X++[⟨kd,false,[],a,b,0,0⟩])/\Below B w w':=
 ZrH B R C k X ⟨kd,false,[],a,b,0,0⟩ none 0 w hX (by simp) h (λj hj=>hj) (ZEo _ _ _ _) (λk hk=>by cases hk)
def RwE(C:List Int)(k:Nat)(X:List Nd)(f:Nat)(bd:Bool)(kl:Nat)(Xl:List Nd)(nv:Int):Prop:=
 (bd=false/\Xl.length<=120/\((nv = -1/\kl=k/\Xl=X)\/(nv=(Xl.length:Int)-1/\0<Xl.length/\k<kl/\∃q,4*(C.length-kl)+3<=q/\rdR (f+1) (C.drop k) X=Zik q (C.drop kl) Xl)))\/
 (bd=true/\∀u' X',rdR (f+1) (C.drop k) X=some (u',X')->Bd X')
theorem ZCA(n:Nat)(hP:PcS n):RwS n:=by
 intro B R C k X w g hn hg hX h;obtain⟨f,rfl⟩:∃f,g=f+1:=⟨g-1,by omega⟩;have HE:Hid (rdR (f+1) (C.drop k) X=if rwE (C.drop k)=true then some (C.drop k,X++[emN]) else match rdP f (C.drop k) X with
  |none=>none
  |some (u1,X1)=>Zik f u1 X1):=J (by rw[rdR];rfl)
 have H0:=J h;have hC4:=h.1.2.2;clear h;go_enter func179,ntmps179
 go_wp2_with fail
 go_loopw [3] (λv3 wr=>∃(kl:Nat) (bd:Bool) (Xl:List Nd) (nv:Int),v3=I nv/\Hid (SD (λj=>B<=j) B R wr C kl bd Xl)/\Hid (Below B w wr)/\Hid (RwE C k X f bd kl Xl nv)) (λ_ wr=>msS R C.length wr)
 case atStart=>exact⟨k,false,X,-1,rfl,H0,J (Ze _ _),J (.inl ⟨rfl,hX,.inl ⟨rfl,rfl,rfl⟩⟩)⟩
 case round=>
  clear H0;obtain⟨kl,bd,Xl,nv,rfl,HS,HB,HR⟩:=hrel;cases bd
  case true=>
   have HNO:Hid (∀u' X',rdR (f+1) (C.drop k) X=some (u',X')->Bd X'):=J (by rcases HR.out with ⟨h,-⟩|⟨-,h⟩;cases h;exact h);obtain⟨ta,tc,ad,cp,⟨c0,c1,c2,c3⟩,ff,-⟩:=Zal HS.out;clear ff HR HE;go_wp2;go_quiet (fail)
   revert nq;intro n1
   have HS2:=J (Zbu HS.out n1);have HB2:Hid (Below B w (wr.drewN n1)):=J (HB.out.trans ((ZcE wr n1).mono (ZcI HS.out)));by_cases hnv:nv<0
   ·have hnv2:decide (nv<0)=true:=Zh hnv;go_wp2;go_ret;exact .inr ⟨⟨nv,kl,Xl,rfl,HS2.out⟩,HNO.out,HB2.out⟩
   ·have hnv2:decide (nv<0)=false:=Zg hnv;go_wp2;go_ret;exact .inr ⟨⟨nv,kl,Xl,rfl,HS2.out⟩,HNO.out,HB2.out⟩
  case false=>
   obtain⟨hXl,hcase⟩:Xl.length<=120/\((nv = -1/\kl=k/\Xl=X)\/(nv=(Xl.length:Int)-1/\0<Xl.length/\k<kl/\∃q,4*(C.length-kl)+3<=q/\rdR (f+1) (C.drop k) X=Zik q (C.drop kl) Xl)):=by
    rcases HR.out with ⟨-,h1,h2⟩|⟨h,-⟩
    ·exact⟨h1,h2⟩
    ·cases h
   have HK:=J hcase;clear HR hcase;have hms:=ZfY HS.out;have hkl:=HS.out.1.2.1;have hnvb : -1<=nv/\nv<=120:=by rcases HK.out with ⟨h,-⟩|⟨h,h2,-⟩<;>omega
   cases hr:C.drop kl with
   |nil=>
    have hk:C.length<=kl:=List.drop_eq_nil_iff.1 hr;obtain⟨ta,tc,ad,cp,⟨c0,c1,c2,c3⟩,ff,-⟩:=Zal HS.out;have hd:decide ((kl:Int)<(C.length:Int))=false:=Zg (by omega);have hi:¬(kl:Int)<(C.length:Int):=(by omega);have hd2:decide (kl<C.length)=false:=Zg (by omega);have hi2:¬kl<C.length:=(by omega);have hend:rwE (C.drop kl)=true:=(by rw[hr];rfl);clear ff;go_wp2;go_quiet (fail)
    revert nq;intro n1
    have HS2:=J (Zbu HS.out n1);have HB2:Hid (Below B w (wr.drewN n1)):=J (HB.out.trans ((ZcE wr n1).mono (ZcI HS.out)));rcases HK.out with ⟨hnv,hkk,hXX⟩|⟨hnv,hpos,hkk,q,hq,heq⟩
    ·subst hkk hXX hnv;have E:Hid (rdR (f+1) (C.drop kl) Xl=some (C.drop kl,Xl++[emN])):=J (by rw[HE.out,Zd hend]);obtain⟨_,_,_,_,⟨-,-,d2,-⟩,-,-⟩:=Zal HS2.out;have HA:=J (Zlx 1 0 0 HS2.out hXl);clear HK HE;go_wp2_with fail
     refine ZM HA.out ?_;rintro w3 ⟨h3,hb3⟩;have HQ:Hid (RaS B R C w (rdR (f+1) (C.drop kl) Xl) (.returned (I (Xl.length:Int))) w3):=J (ZcK E.out h3 (HB2.out.trans hb3));clear h3 hb3;go_wp2;go_ret;exact HQ.out
    ·obtain⟨q,rfl⟩:∃p,q=p+1:=⟨q-1,by omega⟩;have E:Hid (rdR (f+1) (C.drop k) X=some (C.drop kl,Xl)):=J (by rw[heq,Zik,Zd hend]);have hnv0:¬nv<0:=(by omega);have hnv1:decide (nv<0)=false:=Zg hnv0;have HNV:=J hnv;clear HK HE heq hnv;go_wp2;go_ret;exact .inl ⟨kl,Xl,E.out,hXl,by rw[<-HNV.out];rfl,HS2.out,HB2.out⟩
   |cons c r=>
    obtain⟨b,off,tc,ad,cp,c0,c1,c2,c3,f1,f2,ck,hlt⟩:=Zbj HS.out hr;have hd:decide ((kl:Int)<(C.length:Int))=true:=Zh (by omega);have hi:(kl:Int)<(C.length:Int):=(by omega);have hi0:(0:Int)<=(kl:Int):=(by omega);have hd2:decide (kl<C.length)=true:=Zh hlt;by_cases e1:c=124
    ·have hend:rwE (C.drop kl)=true:=(by rw[hr,e1];rfl);have hb1:(c != 124)=false:=(by simp[e1]);go_wp2;go_quiet (fail)
     revert nq;intro n1
     have HS2:=J (Zbu HS.out n1);have HB2:Hid (Below B w (wr.drewN n1)):=J (HB.out.trans ((ZcE wr n1).mono (ZcI HS.out)));clear c0 c1 c2 c3 f1 f2 ck;rcases HK.out with ⟨hnv,hkk,hXX⟩|⟨hnv,hpos,hkk,q,hq,heq⟩
     ·subst hkk hXX hnv;have E:Hid (rdR (f+1) (C.drop kl) Xl=some (C.drop kl,Xl++[emN])):=J (by rw[HE.out,Zd hend]);obtain⟨_,_,_,_,⟨-,-,d2,-⟩,-,-⟩:=Zal HS2.out;have HA:=J (Zlx 1 0 0 HS2.out hXl);clear HK HE;go_wp2_with fail
      refine ZM HA.out ?_;rintro w3 ⟨h3,hb3⟩;have HQ:Hid (RaS B R C w (rdR (f+1) (C.drop kl) Xl) (.returned (I (Xl.length:Int))) w3):=J (ZcK E.out h3 (HB2.out.trans hb3));clear h3 hb3;go_wp2;go_ret;exact HQ.out
     ·obtain⟨q,rfl⟩:∃p,q=p+1:=⟨q-1,by omega⟩;have E:Hid (rdR (f+1) (C.drop k) X=some (C.drop kl,Xl)):=J (by rw[heq,Zik,Zd hend]);have hnv0:¬nv<0:=(by omega);have hnv1:decide (nv<0)=false:=Zg hnv0;have HNV:=J hnv;clear HK HE heq hnv;go_wp2;go_ret;exact .inl ⟨kl,Xl,E.out,hXl,by rw[<-HNV.out];rfl,HS2.out,HB2.out⟩
    ·have hb1:(c != 124)=true:=(by simp[e1]);by_cases e2:c=41
     ·have hend:rwE (C.drop kl)=true:=(by rw[hr,e2];rfl);have hb2:(c != 41)=false:=(by simp[e2]);go_wp2;go_quiet (fail)
      revert nq;intro n1
      have HS2:=J (Zbu HS.out n1);have HB2:Hid (Below B w (wr.drewN n1)):=J (HB.out.trans ((ZcE wr n1).mono (ZcI HS.out)));clear c0 c1 c2 c3 f1 f2 ck;rcases HK.out with ⟨hnv,hkk,hXX⟩|⟨hnv,hpos,hkk,q,hq,heq⟩
      ·subst hkk hXX hnv;have E:Hid (rdR (f+1) (C.drop kl) Xl=some (C.drop kl,Xl++[emN])):=J (by rw[HE.out,Zd hend]);obtain⟨_,_,_,_,⟨-,-,d2,-⟩,-,-⟩:=Zal HS2.out;have HA:=J (Zlx 1 0 0 HS2.out hXl);clear HK HE;go_wp2_with fail
       refine ZM HA.out ?_;rintro w3 ⟨h3,hb3⟩;have HQ:Hid (RaS B R C w (rdR (f+1) (C.drop kl) Xl) (.returned (I (Xl.length:Int))) w3):=J (ZcK E.out h3 (HB2.out.trans hb3));clear h3 hb3;go_wp2;go_ret;exact HQ.out
      ·obtain⟨q,rfl⟩:∃p,q=p+1:=⟨q-1,by omega⟩;have E:Hid (rdR (f+1) (C.drop k) X=some (C.drop kl,Xl)):=J (by rw[heq,Zik,Zd hend]);have hnv0:¬nv<0:=(by omega);have hnv1:decide (nv<0)=false:=Zg hnv0;have HNV:=J hnv;clear HK HE heq hnv;go_wp2;go_ret;exact .inl ⟨kl,Xl,E.out,hXl,by rw[<-HNV.out];rfl,HS2.out,HB2.out⟩
     ·have hb2:(c != 41)=true:=(by simp[e2]);have hend:¬rwE (C.drop kl)=true:=(by rw[hr];simp[rwE,e1,e2]);go_wp2;go_quiet (fail)
      revert nq;intro n1
      have HS2:=J (Zbu HS.out n1);have HB2:Hid (Below B w (wr.drewN n1)):=J (HB.out.trans ((ZcE wr n1).mono (ZcI HS.out)));clear c0 c1 c2 c3 f1 f2 ck hd hi hi0 hd2 hb1 hb2 hr;obtain⟨W,hW⟩:=ZX (wr.drewN n1);have hms2:msS R C.length W=C.length-kl+1:=(by rw[<-hW];exact ZfY HS2.out);go_wp2_with fail
      rw[hW]at HS2 HB2;clear hW;rcases HK.out with ⟨hnv,hkk,hXX⟩|⟨hnv,hpos,hkk,q,hq,heq⟩
      ·
       subst hkk hXX hnv;have HQ:=J (hP B R C kl Xl W f hlt hn (by omega) hXl HS2.out);have HE1:Hid (rdR (f+1) (C.drop kl) Xl=match rdP f (C.drop kl) Xl with
        |none=>none
        |some (u1,X1)=>Zik f u1 X1):=J (by rw[HE.out,Za hend])
       clear HK HE;refine HQ.out.mono ?_;rintro e w2 (⟨k2,X2,ho,hX2,rfl,h2,hb2⟩|⟨⟨v,k2,X2,rfl,h2⟩,hno,hb2⟩)
       ·have hm:=(ZmV f).2.2.1 ho;have hsh:=(Zet f).2.2.2.2.1 ho;have hk2l:=h2.1.2.1;have hlen:=hsh.2.2;simp only[ZDC]at hlen;have HE2:Hid (rdR (f+1) (C.drop kl) Xl=Zik f (C.drop k2) X2):=J (by have h9:=HE1.out;rw[ho]at h9;exact h9);have H2:=J h2;have HB3:=J (HB2.out.trans hb2);obtain⟨_,_,_,_,⟨-,-,d2,-⟩,-,-⟩:=Zal h2;clear h2 hb2 ho hsh HE1 HQ;go_wp2
        go_roundw
        case rel=>exact⟨k2,false,X2,(X2.length:Int)-1,rfl,H2,HB3,J (.inl ⟨rfl,hX2,.inr ⟨rfl,by omega,by omega,f,by omega,HE2.out⟩⟩)⟩
        case measure=>rw[ZfY H2.out,hms];omega
       ·have HNO:Hid (∀u9 X9,rdR (f+1) (C.drop kl) Xl=some (u9,X9)->Bd X9):=J (λu9 X9 h9=>by
         rw[HE1.out]at h9;cases hq:rdP f (C.drop kl) Xl with
         |none=>rw[hq]at h9;cases h9
         |some p=>
          obtain⟨u1,Y1⟩:=p;rw[hq]at h9;exact ZiD ((Zet f).2.2.2.1 h9).1 (hno u1 Y1 hq))
        have H2:=J h2;have HB3:=J (HB2.out.trans hb2);obtain⟨_,_,_,_,⟨-,-,d2,-⟩,-,-⟩:=Zal h2;clear h2 hb2 hno HE1 HQ;go_wp2
        go_roundw
        case rel=>exact⟨k2,true,X2,v,rfl,H2,HB3,J (.inr ⟨rfl,HNO.out⟩)⟩
        case measure=>rw[ZfB H2.out,hms];omega
      ·
       obtain⟨q,rfl⟩:∃p,q=p+1:=⟨q-1,by omega⟩;have HQ:=J (hP B R C kl Xl W q hlt (by omega) (by omega) hXl HS2.out);have HE1:Hid (rdR (f+1) (C.drop k) X=match rdP q (C.drop kl) Xl with
        |none=>none
        |some (u1,X1)=>Zik q u1 (X1++[sqN nv ((X1.length:Int)-1)])):=J (by rw[heq,Zik,Za hend,hnv];rfl)
       have hnv0:0<=nv:=(by omega);have hnv1:decide (nv>=0)=true:=Zh hnv0;have HNV:=J hnv;clear HK HE heq hnv;refine HQ.out.mono ?_;rintro e w2 (⟨k2,X2,ho,hX2,rfl,h2,hb2⟩|⟨⟨v,k2,X2,rfl,h2⟩,hno,hb2⟩)
       ·have hm:=(ZmV q).2.2.1 ho;have hsh:=(Zet q).2.2.2.2.1 ho;have hk2l:=h2.1.2.1;have hlen:=hsh.2.2;simp only[ZDC]at hlen;obtain⟨a2,ha2⟩:=ZX ((X2.length:Int)-1);have HE2:Hid (rdR (f+1) (C.drop k) X=Zik q (C.drop k2) (X2++[sqN nv a2])):=J (by have h9:=HE1.out;rw[ho]at h9;rw[<-ha2];exact h9);have H2:=J h2;have HB3:=J (HB2.out.trans hb2);obtain⟨_,_,_,_,⟨-,-,d2,-⟩,-,-⟩:=Zal h2;have HA:=J (Zlx 3 nv a2 h2 hX2);rw[ha2];clear h2 hb2 ho hsh HE1 HQ ha2;go_wp2_with fail
        refine ZM HA.out ?_;rintro w3 ⟨h3,hb3⟩;have H3:=J h3;have HB4:=J (HB3.out.trans hb3);clear h3 hb3 HA d2;go_wp2;by_cases hbig:120<X2.length+1
        ·have HD:=J (Zh hbig);rw[HD.out]at H3
         go_roundw
         case rel=>exact⟨k2,true,X2++[sqN nv a2],(X2.length:Int),rfl,H3,HB4,J (.inr ⟨rfl,λu9 X9 h9=>by rw[HE2.out]at h9;exact ZiD ((Zet q).2.2.2.1 h9).1 (.inl (by simp;omega))⟩)⟩
         case measure=>rw[ZfB H3.out,hms];omega
        ·have HD:=J (Zg hbig);rw[HD.out]at H3
         go_roundw
         case rel=>exact⟨k2,false,X2++[sqN nv a2],(X2.length:Int),rfl,H3,HB4,J (.inl ⟨rfl,by simp;omega,.inr ⟨by simp,by simp,by omega,q,by omega,HE2.out⟩⟩)⟩
         case measure=>rw[ZfY H3.out,hms];omega
       ·have HNO:Hid (∀u9 X9,rdR (f+1) (C.drop k) X=some (u9,X9)->Bd X9):=J (λu9 X9 h9=>by
         rw[HE1.out]at h9;cases hq:rdP q (C.drop kl) Xl with
         |none=>rw[hq]at h9;cases h9
         |some p=>
          obtain⟨u1,Y1⟩:=p;rw[hq]at h9;exact ZiD ((Zet q).2.2.2.1 h9).1 (ZnS _ (hno u1 Y1 hq)))
        have H2:=J h2;have HB3:=J (HB2.out.trans hb2);obtain⟨_,_,_,_,⟨-,-,d2,-⟩,-,-⟩:=Zal h2;clear h2 hb2 hno HE1 HQ;go_wp2
        go_roundw
        case rel=>exact⟨k2,true,X2,v,rfl,H2,HB3,J (.inr ⟨rfl,HNO.out⟩)⟩
        case measure=>rw[ZfB H2.out,hms];omega
def CcE(C:List Int)(k:Nat)(X:List Nd)(n f:Nat)(bd:Bool)(kl:Nat)(Xl:List Nd)(nv:Int):Prop:=
 (bd=false/\Xl.length<=120/\nv=(Xl.length:Int)-1/\C.length-kl<=n/\∃q,4*(C.length-kl)+3<=q/\rdC (f+1) (C.drop k) X=ZjR q (C.drop kl) Xl)\/
 (bd=true/\∀u' X',rdC (f+1) (C.drop k) X=some (u',X')->Bd X')
theorem Zuk(n:Nat)(hR:RwS n):ChS n:=by
 intro B R C k X w g hn hg hX h;obtain⟨f,rfl⟩:∃f,g=f+1:=⟨g-1,by omega⟩;have HE:Hid (rdC (f+1) (C.drop k) X=match rdR f (C.drop k) X with
  |none=>none
  |some (u1,X1)=>ZjR f u1 X1):=J (by rw[rdC];rfl)
 have hC4:=h.1.2.2;have hk0:=h.1.2.1;have HQ:=J (hR B R C k X w f hn (by omega) hX h);clear h;go_enter func133,ntmps133
 go_wp2_with fail
 refine HQ.out.mono ?_;intro e w1 ha;obtain⟨k1,bd1,X1,nv1,rfl,H1,HB1,HC1⟩:∃(k1:Nat) (bd1:Bool) (X1:List Nd) (nv1:Int),e=.returned (I nv1)/\Hid (SD (λj=>B<=j) B R w1 C k1 bd1 X1)/\Hid (Below B w w1)/\Hid (CcE C k X n f bd1 k1 X1 nv1):=by
  rcases ha with ⟨k1,X1,ho,hX1,rfl,h1,hb1⟩|⟨⟨v,k1,X1,rfl,h1⟩,hno,hb1⟩
  ·have hsh:=((Zet f).2.2.1 ho).2.1;simp only[ZDC]at hsh;have hk1:=h1.1.2.1;exact⟨k1,false,X1,_,rfl,J h1,J hb1,J (.inl ⟨rfl,hX1,rfl,by omega,f,by omega,by have h9:=HE.out;rw[ho]at h9;exact h9⟩)⟩
  ·refine⟨k1,true,X1,v,rfl,J h1,J hb1,J (.inr ⟨rfl,λu9 X9 h9=>?_⟩)⟩;rw[HE.out]at h9;cases hq:rdR f (C.drop k) X with
   |none=>rw[hq]at h9;cases h9
   |some p=>
    obtain⟨u1,Y1⟩:=p;rw[hq]at h9;exact ZiD ((Zet f).2.1 h9).1 (hno u1 Y1 hq)
 clear ha HQ HE;go_wp2_with fail
 go_loopw [3] (λv3 wr=>∃(kl:Nat) (bd:Bool) (Xl:List Nd) (nv:Int),v3=I nv/\Hid (SD (λj=>B<=j) B R wr C kl bd Xl)/\Hid (Below B w wr)/\Hid (CcE C k X n f bd kl Xl nv)) (λ_ wr=>msS R C.length wr)
 case atStart=>exact⟨k1,bd1,X1,nv1,rfl,H1,HB1,HC1⟩
 case round=>
  clear H1 HB1 HC1;obtain⟨kl,bd,Xl,nv,rfl,HS,HB,HR⟩:=hrel;cases bd
  case true=>
   have HNO:Hid (∀u' X',rdC (f+1) (C.drop k) X=some (u',X')->Bd X'):=J (by rcases HR.out with ⟨h,-⟩|⟨-,h⟩;cases h;exact h);have HT:=J (ZoA B R C kl 124 Xl wr HS.out);clear HR;go_wp2_with fail
   refine ZM HT.out ?_;rintro w2 ⟨h2,q2⟩;have H2:=J h2;have HB2:=J (HB.out.trans (ZU HS.out q2));clear h2 q2 HT;go_wp2;go_ret;exact .inr ⟨⟨nv,kl,Xl,rfl,H2.out⟩,HNO.out,HB2.out⟩
  case false=>
   obtain⟨hXl,hnv,hkn,q,hq,heq⟩:Xl.length<=120/\nv=(Xl.length:Int)-1/\C.length-kl<=n/\∃q,4*(C.length-kl)+3<=q/\rdC (f+1) (C.drop k) X=ZjR q (C.drop kl) Xl:=by
    rcases HR.out with ⟨-,h⟩|⟨h,-⟩
    ·exact h
    ·cases h
   clear HR;have hms:=ZfY HS.out;have hkl:=HS.out.1.2.1;obtain⟨q,rfl⟩:∃p,q=p+1:=⟨q-1,by omega⟩;have HNV:=J hnv;by_cases e1:(C.drop kl).head?=some 124
   ·have e2:=ZaH e1;obtain⟨-,e3,hlt⟩:=ZbM e2;have HT:=J (Zgu B R C kl 124 _ Xl wr HS.out e2);have HE1:Hid (rdC (f+1) (C.drop k) X=match rdR q (C.drop (kl+1)) Xl with
     |none=>none
     |some (u1,X1)=>ZjR q u1 (X1++[orN nv ((X1.length:Int)-1)])):=J (by rw[heq,ZjR,Zd e1,e3,hnv];rfl)
    clear e1 e2 e3 heq hnv;go_wp2_with fail
    refine ZM HT.out ?_;rintro w2 ⟨h2,q2⟩;have HB2:=J (HB.out.trans (ZU HS.out q2));have HQ:=J (hR B R C (kl+1) Xl w2 q (by omega) (by omega) hXl h2);clear h2 q2 HT HB;go_wp2_with fail
    refine HQ.out.mono ?_;rintro e w3 (⟨k3,X3,ho,hX3,rfl,h3,hb3⟩|⟨⟨v,k3,X3,rfl,h3⟩,hno,hb3⟩)
    ·have hsh:=((Zet q).2.2.1 ho).2.1;simp only[ZDC]at hsh;have hk3:=h3.1.2.1;obtain⟨a2,ha2⟩:=ZX ((X3.length:Int)-1);have HE2:Hid (rdC (f+1) (C.drop k) X=ZjR q (C.drop k3) (X3++[orN nv a2])):=J (by have h9:=HE1.out;rw[ho]at h9;rw[<-ha2];exact h9);have HB3:=J (HB2.out.trans hb3);obtain⟨_,_,_,_,⟨-,-,d2,-⟩,-,-⟩:=Zal h3;have HA:=J (Zlx 4 nv a2 h3 hX3);rw[ha2];clear h3 hb3 ho HE1 HQ ha2;go_wp2_with fail
     refine ZM HA.out ?_;rintro w4 ⟨h4,hb4⟩;have H4:=J h4;have HB4:=J (HB3.out.trans hb4);clear h4 hb4 HA d2;go_wp2;by_cases hbig:120<X3.length+1
     ·have HD:=J (Zh hbig);rw[HD.out]at H4
      go_roundw
      case rel=>exact⟨k3,true,X3++[orN nv a2],(X3.length:Int),rfl,H4,HB4,J (.inr ⟨rfl,λu9 X9 h9=>by rw[HE2.out]at h9;exact ZiD ((Zet q).2.1 h9).1 (.inl (by simp;omega))⟩)⟩
      case measure=>rw[ZfB H4.out,hms];omega
     ·have HD:=J (Zg hbig);rw[HD.out]at H4
      go_roundw
      case rel=>exact⟨k3,false,X3++[orN nv a2],(X3.length:Int),rfl,H4,HB4,J (.inl ⟨rfl,by simp;omega,by simp,by omega,q,by omega,HE2.out⟩)⟩
      case measure=>rw[ZfY H4.out,hms];omega
    ·have HNO:Hid (∀u9 X9,rdC (f+1) (C.drop k) X=some (u9,X9)->Bd X9):=J (λu9 X9 h9=>by
      rw[HE1.out]at h9;cases hq:rdR q (C.drop (kl+1)) Xl with
      |none=>rw[hq]at h9;cases h9
      |some p=>
       obtain⟨u1,Y1⟩:=p;rw[hq]at h9;exact ZiD ((Zet q).2.1 h9).1 (ZnS _ (hno u1 Y1 hq)))
     have H3:=J h3;have HB3:=J (HB2.out.trans hb3);obtain⟨_,_,_,_,⟨-,-,d2,-⟩,-,-⟩:=Zal h3;clear h3 hb3 hno HE1 HQ;go_wp2
     go_roundw
     case rel=>exact⟨k3,true,X3,nv,rfl,H3,HB3,J (.inr ⟨rfl,HNO.out⟩)⟩
     case measure=>rw[ZfB H3.out,hms];omega
   ·have E:Hid (rdC (f+1) (C.drop k) X=some (C.drop kl,Xl)):=J (by rw[heq,ZjR,Za e1]);have HT:=J (Zgo B R C kl 124 Xl wr HS.out e1);clear heq e1 hnv;go_wp2_with fail
    refine ZM HT.out ?_;rintro w2 ⟨h2,q2⟩;have H2:=J h2;have HB2:=J (HB.out.trans (ZU HS.out q2));clear h2 q2 HT;go_wp2;go_ret;exact .inl ⟨kl,Xl,E.out,hXl,by rw[<-HNV.out];rfl,H2.out,HB2.out⟩
theorem ZCm:∀n,ChS n:=by
 intro n;induction n using Nat.strongRecOn with
 |ind n ih=>exact Zuk n (ZCA n (Zxd n (ZoU n (λm hm=>ih m hm))))
theorem ZCK{X:List Nd}(h:Bd X):rxB (ZdZ X)=false:=by
 rcases h with h|⟨nd,h1,h2⟩
 ·exact Zj5 (X:=ZdZ X) (λh9=>by have:X.length<=120:=h9.2;omega)
 ·obtain⟨j,hj,rfl⟩:=List.mem_iff_getElem.1 h1;refine Zhg (X:=ZdZ X) (k:=j) hj ?_;unfold ZdO;simp only[ZdZ,Zgt (Zv hj)];exact h2
end
end Go.Proofs.YtcdnilpdohknfaaGreatDoor
