import Derived.Test.YtcdnilpdohknfaaGreatDoorJ34
set_option linter.unusedVariables false
set_option linter.unusedSimpArgs false
set_option maxRecDepth 100000
set_option maxHeartbeats 16000000
namespace Go.Proofs.YtcdnilpdohknfaaGreatDoor
open Tryz
section
open Go.RowKit Go.Joins
def EdA(r:Ru)(R:Nat)(w:World)(e:Ending)(w':World):Prop:=∃(b:Bool) (lw hg:ZB),e=.returned (.bool b)/\(b=true↔EdP r.x r.cs)/\(b=true->lw=ZfI r.cs r.x.lo/\hg=ZfI r.cs r.x.hi)/\RuB w' R { r with lw:=lw,hg:=hg }/\Kp (λj=>j=R) w w'
theorem Zon{k:Int}{s:ZB}{B:Bool}(h:(avO k s).isSome=B):B=true↔atO k s=true:=by
 subst h;unfold avO;by_cases e:atO k s=true
 ·rw[Zd e];exact⟨λ_=>e,λ_=>rfl⟩
 ·rw[Za e];exact⟨λh=>(by cases h),λh=>absurd h e⟩
theorem ZnT{k:Int}{s V:ZB}(h:(avO k s).getD ⟨#[]⟩=V)(ha:atO k s=true):V=atV k s:=by
 rw[<-h,ZCf ha];rfl
theorem Zui{k:Int}{t:ZB}(h:t.size=0):ZfI k t=⟨#[]⟩:=by unfold ZfI;rw[Zd h]
theorem Zro{k:Int}{t:ZB}(h:¬t.size=0):ZfI k t=atV k t:=by unfold ZfI;rw[Za h]
theorem ZwP(L:List Ty)(rs:List Ru)(a:Option Addr)(m:Nat)(r:Ru)(R:Nat)(w0 w:World)(h:Rdy w0 a L rs m R r w)(hzl:r.x.lo.size<=20000)(hzh:r.x.hi.size<=20000)(hlw:r.lw=⟨#[]⟩)(hhg:r.hg=⟨#[]⟩):
  Calls prog 111 #[.pointer (some ⟨R,0,none⟩)] w (EdA r R w):=by
 have c6:=ZE h.box 6;have c7:=ZE h.box 7;have c10:=ZE h.box 10;simp only[ruV,List.getElem?_cons_succ,List.getElem?_cons_zero]at c6 c7 c10;have C5:=J (λw9=>ZgE r.cs 5 7 w9);have HOD:Hid (odK r.cs↔5<=r.cs/\r.cs<=7):=J (by unfold odK;omega);have HE:Hid (∀w9,Kp (λj=>j=R) w w9->Zg1 w9):=J (λw9 k=>ZbB h.ruw.2.1 (h.low.trans (ZaB k h.low.size (λj e=>by have e':j=R:=e;have:=h.far;omega))));have HBX:=J h.box;have HLW:=J hlw;have HHG:=J hhg;have CO:Hid (∀(t:ZB) (w9:World),t.size<=20000->(5<=r.cs/\r.cs<=7)->Kp (λj=>j=R) w w9->Calls prog 143 #[I r.cs,.string t] w9 (ZT (avO r.cs t) w9)):=J (λt w9 ht hk k=>Zzy r.cs t w9 ⟨by omega,hk.2⟩ ht (HE.out w9 k));have CW:Hid (∀(lw hg:ZB) (w9:World),lw=ZfI r.cs r.x.lo->hg=ZfI r.cs r.x.hi->(5<=r.cs/\r.cs<=7)->¬r.x.lo.size=0->atO r.cs r.x.lo=true->(r.x.hi.size=0\/atO r.cs r.x.hi=true)->Kp (λj=>j=R) w w9->RuB w9 R { r with lw:=lw,hg:=hg }->
   Calls prog 93 #[.pointer (some ⟨R,0,none⟩),.string lw] w9 (BlA (r.x.hi.size=0\/ZeB r.cs (atV r.cs r.x.lo) (atV r.cs r.x.hi)) w9)):=J (λlw hg w9 hl hg' hk hl0 hal hah k hb=>by
  have el:lw=atV r.cs r.x.lo:=by rw[hl,Zro hl0]
  have:=ZlO { r with lw:=lw,hg:=hg } R lw w9 (by rw[el];have:=Zkp hal;omega) (λe=>by
   rw[el,show r.cs=7 from e,ZfE];have h2:=hal;rw[show r.cs=7 from e,Zfm]at h2;exact(Zb2 h2).1) hb hzl hzh (.inl (HOD.out.2 hk)) (.inr hal) hah hl hg' (HE.out w9 k)
  refine this.mono ?_;rintro e w' ⟨B,rfl,hB,hb2⟩;refine⟨B,rfl,?_,hb2⟩;rw[hB];have hs:=ZtD (HOD.out.2 hk) hal;constructor
  ·rintro ⟨-,q⟩;rw[el]at q;exact q
  ·intro q;refine⟨.inr ?_,?_⟩
   ·rw[el];unfold ZeB;exact .inr hs
   ·rw[el];exact q)
 obtain⟨P,hP⟩:=ZX (EdP r.x r.cs);have HP:Hid (P↔EdP r.x r.cs):=J (by rw[hP]);have FIN:Hid (∀(b:Bool) (lw hg:ZB) (w':World),(b=true↔EdP r.x r.cs)->(b=true->lw=ZfI r.cs r.x.lo/\hg=ZfI r.cs r.x.hi)->RuB w' R { r with lw:=lw,hg:=hg }->Kp (λj=>j=R) w w'->EdA r R w (.returned (.bool b)) w'):=J (λb lw hg w' h1 h2 h3 h4=>⟨b,lw,hg,rfl,h1,h2,h3,h4⟩);have HB0:Hid (RuB w R { r with lw:=⟨#[]⟩,hg:=⟨#[]⟩ }):=J (by
  have e:({ r with lw:=⟨#[]⟩,hg:=⟨#[]⟩ }:Ru)=r:=by
   cases r;simp only at hlw hhg;subst hlw;subst hhg;rfl
  rw[e];exact h.box)
 have HZL:=J hzl;have HZH:=J hzh;clear hP h hzl hzh;by_cases l0:r.x.lo.size=0
 ·have l0b:=ZbE l0;by_cases g0:r.x.hi.size=0
  ·have g0b:=ZbE g0;have HY:Hid (EdP r.x r.cs):=J ⟨.inr ⟨l0,g0⟩,.inl l0,.inl g0,.inl l0⟩;have H2:Hid ((⟨#[]⟩:ZB)=ZfI r.cs r.x.lo/\(⟨#[]⟩:ZB)=ZfI r.cs r.x.hi):=J ⟨(Zui l0).symm,(Zui g0).symm⟩;clear l0 g0 hlw hhg;go_enter func111,ntmps111
   go_wp2;go_ret;exact FIN.out true _ _ w (Zcr HY.out) (λ_=>H2.out) HB0.out (Kp.refl _ _)
  have g0b:=Zbx g0;obtain⟨B5,hB5⟩:∃B,decide (5<=r.cs/\r.cs<=7)=B:=⟨_,rfl⟩;rw[hB5]at C5;cases B5
  ·have HY:Hid (¬EdP r.x r.cs):=J (λe=>by rcases e.1 with q|q;exact absurd (HOD.out.1 q) (ZDZ hB5);exact absurd q.2 g0);clear l0 g0 hlw hhg hB5;go_enter func111,ntmps111
   go_wp2_with (go_at_call 64;refine Zc (C5.out _) ?_)
   go_ret;exact FIN.out false _ _ w (ZbC HY.out) (λe=>by cases e) HB0.out (Kp.refl _ _)
  have h57:=ZDY hB5;have CH:=J (λw9 k=>CO.out r.x.hi w9 HZH.out h57 k);obtain⟨V2,hV2⟩:∃V,(avO r.cs r.x.hi).getD ⟨#[]⟩=V:=⟨_,rfl⟩;obtain⟨B2,hB2⟩:∃B,(avO r.cs r.x.hi).isSome=B:=⟨_,rfl⟩;have HV2:=J (λe=>ZnT hV2 e);have HB2:=J (Zon hB2);unfold ZT Zf0 at CH;rw[hV2,hB2]at CH;have HY:Hid (B2=true↔EdP r.x r.cs):=J (by
   rw[HB2.out];exact⟨λe=>⟨.inl (HOD.out.2 h57),.inl l0,.inr e,.inl l0⟩,λe=>e.2.2.1.resolve_left g0⟩)
  have H2:Hid (B2=true->(⟨#[]⟩:ZB)=ZfI r.cs r.x.lo/\V2=ZfI r.cs r.x.hi):=J (λe=>⟨(Zui l0).symm,by rw[Zro g0];exact HV2.out (HB2.out.1 e)⟩);have HK0:Hid (Kp (λj=>j=R) w w):=J (Kp.refl _ _);clear l0 g0 hlw hhg hB5 hV2 hB2 h57;go_enter func111,ntmps111
  go_wp2_with (go_at_call 64;refine Zc (C5.out _) ?_)
  have q7:w.drew.cell? ⟨R,7,none⟩=some (.string r.x.hi):=c7;have q10:w.drew.cell? ⟨R,10,none⟩=some (I r.cs):=c10;have HKD:Hid (Kp (λj=>j=R) w w.drew):=J (ZhM w)
  go_region_law (first
   |(go_simp;go_at_call 143;refine ZM (CH.out w.drew HKD.out) ?_;rintro w1 hb1;have X1:=J (Zbk HB0.out (show ZL w w1 from⟨hb1.os,hb1.tape,hb1.output,hb1.size,hb1.block⟩));have K1:=J (ZaZ HKD.out (ZdW (R:=R) hb1));have f12:=Zcw X1.out 12;have d6:w1.cell? ⟨R,6,none⟩=some (.string r.x.lo):=ZE X1.out 6;have d11:w1.cell? ⟨R,11,none⟩=some (.string ⟨#[]⟩):=ZE X1.out 11;have d12:w1.cell? ⟨R,12,none⟩=some (.string ⟨#[]⟩):=ZE X1.out 12;clear hb1)
   |(fail))
  all_goals
   clear CH c6 c7 c10 q7 q10;cases B2
   ·have HN:Hid (¬EdP r.x r.cs):=J (λe=>by cases HY.out.2 e);go_wp2;go_ret;exact FIN.out false _ _ _ (ZbC HN.out) (λe=>by cases e) (Zqf X1.out V2) (ZaZ K1.out (Zde _ _ _ _))
   ·have HN:Hid (EdP r.x r.cs):=J (HY.out.1 rfl);have H3:=J (H2.out rfl);go_wp2;go_ret;exact FIN.out true _ _ _ (Zcr HN.out) (λ_=>H3.out) (Zqf X1.out V2) (ZaZ K1.out (Zde _ _ _ _))
 have l0b:=Zbx l0;obtain⟨B5,hB5⟩:∃B,decide (5<=r.cs/\r.cs<=7)=B:=⟨_,rfl⟩;rw[hB5]at C5;cases B5
 ·have HY:Hid (¬EdP r.x r.cs):=J (λe=>by rcases e.1 with q|q;exact absurd (HOD.out.1 q) (ZDZ hB5);exact absurd q.1 l0);clear l0 hlw hhg hB5;go_enter func111,ntmps111
  go_wp2_with (go_at_call 64;refine Zc (C5.out _) ?_)
  go_ret;exact FIN.out false _ _ w (ZbC HY.out) (λe=>by cases e) HB0.out (Kp.refl _ _)
 have h57:=ZDY hB5;have CL:=J (λw9 k=>CO.out r.x.lo w9 HZL.out h57 k);obtain⟨V1,hV1⟩:∃V,(avO r.cs r.x.lo).getD ⟨#[]⟩=V:=⟨_,rfl⟩;obtain⟨B1,hB1⟩:∃B,(avO r.cs r.x.lo).isSome=B:=⟨_,rfl⟩;have HV1:=J (λe=>ZnT hV1 e);have HB1:=J (Zon hB1);unfold ZT Zf0 at CL;rw[hV1,hB1]at CL;have HK0:Hid (Kp (λj=>j=R) w w):=J (Kp.refl _ _);by_cases g0:r.x.hi.size=0
 ·have g0b:=ZbE g0;have HY:Hid (B1=true↔EdP r.x r.cs):=J (by
   rw[HB1.out];exact⟨λe=>⟨.inl (HOD.out.2 h57),.inr e,.inl g0,.inr (.inl g0)⟩,λe=>e.2.1.resolve_left l0⟩)
  have H2:Hid (B1=true->V1=ZfI r.cs r.x.lo/\(⟨#[]⟩:ZB)=ZfI r.cs r.x.hi):=J (λe=>⟨by rw[Zro l0];exact HV1.out (HB1.out.1 e),(Zui g0).symm⟩);have CW2:Hid (∀(w9:World),B1=true->Kp (λj=>j=R) w w9->RuB w9 R { r with lw:=V1,hg:=⟨#[]⟩ }->Calls prog 93 #[.pointer (some ⟨R,0,none⟩),.string V1] w9 (BlA True w9)):=J (λw9 hb k hx=>(CW.out V1 _ w9 (H2.out hb).1 (H2.out hb).2 h57 l0 (HB1.out.1 hb) (.inl g0) k hx).mono (by rintro e w' ⟨B,rfl,hB,hb2⟩;exact⟨B,rfl,by rw[hB];exact⟨λ_=>trivial,λ_ => .inl g0⟩,hb2⟩));clear l0 g0 hlw hhg hB5 hV1 hB1 h57;go_enter func111,ntmps111
  go_wp2_with (go_at_call 64;refine Zc (C5.out _) ?_)
  have q6:w.drew.cell? ⟨R,6,none⟩=some (.string r.x.lo):=c6;have q10:w.drew.cell? ⟨R,10,none⟩=some (I r.cs):=c10;have HKD:Hid (Kp (λj=>j=R) w w.drew):=J (ZhM w)
  go_region_law (first
   |(go_simp;go_at_call 143;refine ZM (CL.out w.drew HKD.out) ?_;rintro w1 hb1;have X1:=J (Zbk HB0.out (show ZL w w1 from⟨hb1.os,hb1.tape,hb1.output,hb1.size,hb1.block⟩));have K1:=J (ZaZ HKD.out (ZdW (R:=R) hb1));have f11:=Zcw X1.out 11;have d6:w1.cell? ⟨R,6,none⟩=some (.string r.x.lo):=ZE X1.out 6;have d7:w1.cell? ⟨R,7,none⟩=some (.string r.x.hi):=ZE X1.out 7;have d10:w1.cell? ⟨R,10,none⟩=some (I r.cs):=ZE X1.out 10;have d11:w1.cell? ⟨R,11,none⟩=some (.string ⟨#[]⟩):=ZE X1.out 11;clear hb1)
   |(fail))
  all_goals
   clear CL c6 c7 c10 q6 q10;cases B1
   ·have HN:Hid (¬EdP r.x r.cs):=J (λe=>by cases HY.out.2 e);go_wp2;go_ret;exact FIN.out false _ _ _ (ZbC HN.out) (λe=>by cases e) (Zso X1.out V1) (ZaZ K1.out (Zde _ _ _ _))
   ·have HN:Hid (EdP r.x r.cs):=J (HY.out.1 rfl);have H3:=J (H2.out rfl);have X2:=J (Zso X1.out V1);have K2:=J (ZaZ K1.out (Zde w1 R 11 (.string V1)));go_wp2_with fail
    refine(CW2.out _ (by first|rfl|trivial) K2.out X2.out).mono ?_;rintro e w5 ⟨B,rfl,hB,hb5⟩;have hBt:B=true:=hB.2 trivial;subst hBt;have H5:=J hb5;clear hb5 hB;go_wp2;go_ret;exact FIN.out true _ _ _ (Zcr HN.out) (λ_=>H3.out) (Zbk X2.out H5.out) (ZaZ K2.out (ZdW H5.out))
 have g0b:=Zbx g0;have CH:=J (λw9 k=>CO.out r.x.hi w9 HZH.out h57 k);obtain⟨V2,hV2⟩:∃V,(avO r.cs r.x.hi).getD ⟨#[]⟩=V:=⟨_,rfl⟩;obtain⟨B2,hB2⟩:∃B,(avO r.cs r.x.hi).isSome=B:=⟨_,rfl⟩;have HV2:=J (λe=>ZnT hV2 e);have HB2:=J (Zon hB2);unfold ZT Zf0 at CH;rw[hV2,hB2]at CH;have H2:Hid (B1=true->B2=true->V1=ZfI r.cs r.x.lo/\V2=ZfI r.cs r.x.hi):=J (λe e2=>⟨by rw[Zro l0];exact HV1.out (HB1.out.1 e),by rw[Zro g0];exact HV2.out (HB2.out.1 e2)⟩);have HEQ:Hid (EdP r.x r.cs↔B1=true/\B2=true/\(r.x.hi.size=0\/ZeB r.cs (atV r.cs r.x.lo) (atV r.cs r.x.hi))):=J (by
  rw[HB1.out,HB2.out];exact⟨λe=>⟨e.2.1.resolve_left l0,e.2.2.1.resolve_left g0,e.2.2.2.resolve_left l0⟩,λe=>⟨.inl (HOD.out.2 h57),.inr e.1,.inr e.2.1,.inr e.2.2⟩⟩)
 have CW2:Hid (∀(w9:World),B1=true->B2=true->Kp (λj=>j=R) w w9->RuB w9 R { r with lw:=V1,hg:=V2 }->Calls prog 93 #[.pointer (some ⟨R,0,none⟩),.string V1] w9 (BlA (r.x.hi.size=0\/ZeB r.cs (atV r.cs r.x.lo) (atV r.cs r.x.hi)) w9)):=J (λw9 hb hb2 k hx=>CW.out V1 V2 w9 (H2.out hb hb2).1 (H2.out hb hb2).2 h57 l0 (HB1.out.1 hb) (.inr (HB2.out.1 hb2)) k hx);generalize (r.x.hi.size=0\/ZeB r.cs (atV r.cs r.x.lo) (atV r.cs r.x.hi))=PO at HEQ CW2;unfold BlA at CW2;clear l0 g0 hlw hhg hB5 hV1 hB1 hV2 hB2 h57;go_enter func111,ntmps111
 go_wp2_with (go_at_call 64;refine Zc (C5.out _) ?_)
 have q6:w.drew.cell? ⟨R,6,none⟩=some (.string r.x.lo):=c6;have q10:w.drew.cell? ⟨R,10,none⟩=some (I r.cs):=c10;have HKD:Hid (Kp (λj=>j=R) w w.drew):=J (ZhM w)
 go_region_law (first
  |(go_simp;go_at_call 143;refine ZM (CL.out w.drew HKD.out) ?_;rintro w1 hb1;have X1:=J (Zbk HB0.out (show ZL w w1 from⟨hb1.os,hb1.tape,hb1.output,hb1.size,hb1.block⟩));have K1:=J (ZaZ HKD.out (ZdW (R:=R) hb1));have f11:=Zcw X1.out 11;have d6:w1.cell? ⟨R,6,none⟩=some (.string r.x.lo):=ZE X1.out 6;have d7:w1.cell? ⟨R,7,none⟩=some (.string r.x.hi):=ZE X1.out 7;have d10:w1.cell? ⟨R,10,none⟩=some (I r.cs):=ZE X1.out 10;have d11:w1.cell? ⟨R,11,none⟩=some (.string ⟨#[]⟩):=ZE X1.out 11;clear hb1)
  |(fail))
 all_goals
  clear CL c6 c7 c10 q6 q10;have X2:=J (Zso X1.out V1);have K2:=J (ZaZ K1.out (Zde w1 R 11 (.string V1)));obtain⟨W2,hW2⟩:∃W,w1.setCell ⟨R,11,none⟩ (.string V1)=W:=⟨_,rfl⟩;rw[hW2]at X2 K2;rw[hW2];have d7b:W2.cell? ⟨R,7,none⟩=some (.string r.x.hi):=ZE X2.out 7;have d10b:W2.cell? ⟨R,10,none⟩=some (I r.cs):=ZE X2.out 10;clear d6 d7 d10 d11 f11 hW2 X1 K1;go_wp2_with fail
  have q7:W2.drew.cell? ⟨R,7,none⟩=some (.string r.x.hi):=d7b;have q10:W2.drew.cell? ⟨R,10,none⟩=some (I r.cs):=d10b;have HKD2:Hid (Kp (λj=>j=R) w W2.drew):=J (ZaZ K2.out (ZhM W2))
  go_region_law (first
   |(go_simp;go_at_call 143;refine ZM (CH.out W2.drew HKD2.out) ?_;rintro w3 hb3;have X3:=J (Zbk X2.out (show ZL W2 w3 from⟨hb3.os,hb3.tape,hb3.output,hb3.size,hb3.block⟩));have K3:=J (ZaZ HKD2.out (ZdW (R:=R) hb3));have f12:=Zcw X3.out 12;have e12:w3.cell? ⟨R,12,none⟩=some (.string ⟨#[]⟩):=ZE X3.out 12;clear hb3)
   |(fail))
  all_goals
   have X4:=J (Zqf X3.out V2);have K4:=J (ZaZ K3.out (Zde w3 R 12 (.string V2)));obtain⟨W4,hW4⟩:∃W,w3.setCell ⟨R,12,none⟩ (.string V2)=W:=⟨_,rfl⟩;rw[hW4]at X4 K4;rw[hW4];have e6:W4.cell? ⟨R,6,none⟩=some (.string r.x.lo):=ZE X4.out 6;have e11:W4.cell? ⟨R,11,none⟩=some (.string V1):=ZE X4.out 11;clear CH d7b d10b q7 q10 f12 e12 hW4;cases B1
   ·have HY:Hid (¬EdP r.x r.cs):=J (by rw[HEQ.out];exact λe=>by cases e.1);go_wp2;go_ret;exact FIN.out false _ _ _ (ZbC HY.out) (λe=>by cases e) X4.out K4.out
   cases B2
   ·have HY:Hid (¬EdP r.x r.cs):=J (by rw[HEQ.out];exact λe=>by cases e.2.1);go_wp2;go_ret;exact FIN.out false _ _ _ (ZbC HY.out) (λe=>by cases e) X4.out K4.out
   have H3:=J (H2.out (by first|rfl|trivial) (by first|rfl|trivial));go_wp2_with fail
   refine(CW2.out _ (by first|rfl|trivial) (by first|rfl|trivial) K4.out X4.out).mono ?_;rintro e w5 ⟨B,rfl,hB,hb5⟩;have HY:Hid (B=true↔EdP r.x r.cs):=J (by rw[HEQ.out,hB];exact⟨λe=>⟨by first|rfl|trivial,by first|rfl|trivial,e⟩,λe=>e.2.2⟩);have H5:=J hb5;clear hb5 hB;go_wp2;go_ret;exact FIN.out B _ _ _ HY.out (λ_=>H3.out) (Zbk X4.out H5.out) (ZaZ K4.out (ZdW H5.out))
end
end Go.Proofs.YtcdnilpdohknfaaGreatDoor
