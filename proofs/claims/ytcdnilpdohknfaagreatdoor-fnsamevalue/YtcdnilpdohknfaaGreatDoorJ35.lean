import Derived.Test.YtcdnilpdohknfaaGreatDoorJ34
set_option linter.unusedVariables false
set_option linter.unusedSimpArgs false
set_option maxRecDepth 100000
set_option maxHeartbeats 16000000
namespace Go.Proofs.YtcdnilpdohknfaaGreatDoor
open Tryz
section
open Go.RowKit Go.Joins
theorem Zt1(r:Ru)(R:Nat)(w:World)(h:RuB w R r):
  Calls prog 110 #[.pointer (some ⟨R,0,none⟩)] w (BlA (LgP r.x r.cs) w):=by
 have c4:=ZE h 4;have c5:=ZE h 5;have c10:=ZE h 10;simp only[ruV,List.getElem?_cons_succ,List.getElem?_cons_zero]at c4 c5 c10;have C1:=J (λw9=>ZgE r.x.mn (-1) 1000 w9);have C2:=J (λw9=>ZgE r.x.mx (-1) 1000 w9);have C3:=J (λw9=>ZgE r.cs 1 3 w9);have HP:Hid (LgP r.x r.cs↔(-1<=r.x.mn/\r.x.mn<=1000)/\(-1<=r.x.mx/\r.x.mx<=1000)/\((1<=r.cs/\r.cs<=3\/r.cs=8)\/(r.x.mn<0/\r.x.mx<0))/\(r.x.mn<0\/r.x.mx<0\/r.x.mn<=r.x.mx)):=J (by unfold LgP lgK;constructor<;>intro e<;>omega);generalize LgP r.x r.cs=P at HP ⊢;generalize r.x.mn=mn at c4 C1 HP;generalize r.x.mx=mx at c5 C2 HP;generalize r.cs=k at c10 C3 HP;have HF:Hid (∀(b:Bool) (w':World),(b=true↔P)->ZL w w'->BlA P w (.returned (.bool b)) w'):=J (λb w' hb h2=>⟨b,rfl,hb,h2⟩);clear h;by_cases m1:mn = -1
 ·have m1b:(mn == -1)=true:=by rw[m1];rfl
  by_cases m2:mx = -1
  ·have m2b:(mx == -1)=true:=by rw[m2];rfl
   have HY:Hid P:=J (by rw[HP.out,m1,m2];simp);clear m1 m2;go_enter func110,ntmps110
   go_wp2;go_ret;exact HF.out true _ (Zcr HY.out) (by first|exact Ze _ _|exact⟨rfl,rfl,rfl,Zb _,λ_ _=>rfl⟩)
  have m2b:(mx == -1)=false:=by rw[ZDU];exact m2
  have d1:decide (-1<=mn/\mn<=1000)=true:=by rw[Z6];omega
  rw[d1]at C1;obtain⟨B2,h2⟩:∃B,decide (-1<=mx/\mx<=1000)=B:=⟨_,rfl⟩;rw[h2]at C2;cases B2
  ·have HY:Hid (¬P):=J (by rw[HP.out];exact λe=>absurd e.2.1 (ZDZ h2));clear m1 m2 h2 d1;go_enter func110,ntmps110
   go_wp2_with (go_at_call 64;first|(refine Zc (C1.out _) ?_;clear C1)|(refine Zc (C2.out _) ?_))
   go_ret;exact HF.out false _ (ZbC HY.out) (by first|exact Ze _ _|exact⟨rfl,rfl,rfl,Zb _,λ_ _=>rfl⟩)
  obtain⟨B3,h3⟩:∃B,decide (1<=k/\k<=3)=B:=⟨_,rfl⟩;rw[h3]at C3;have h2':=ZDY h2;have lemx:mn<=mx:=by omega
  cases B3
  ·obtain⟨B8,h8⟩:∃B,(k==8)=B:=⟨_,rfl⟩;have HY:Hid (B8=true↔P):=J (by rw[HP.out,<-h8,ZEd];have:=ZDZ h3;omega);clear m1 m2 h2 d1 h2' h3;cases B8
   ·replace HY:Hid (¬P):=J (λe=>by cases HY.out.2 e);go_enter func110,ntmps110
    go_wp2_with (go_at_call 64;first|(refine Zc (C1.out _) ?_;clear C1)|(refine Zc (C2.out _) ?_;clear C2)|(refine Zc (C3.out _) ?_))
    go_quiet (fail)
    go_wp2;go_ret;exact HF.out false _ (ZbC HY.out) (by first|exact Ze _ _|exact⟨rfl,rfl,rfl,Zb _,λ_ _=>rfl⟩)
   ·replace HY:Hid P:=J (HY.out.1 rfl);go_enter func110,ntmps110
    go_wp2_with (go_at_call 64;first|(refine Zc (C1.out _) ?_;clear C1)|(refine Zc (C2.out _) ?_;clear C2)|(refine Zc (C3.out _) ?_))
    go_quiet (fail)
    go_wp2;go_ret;exact HF.out true _ (Zcr HY.out) (by first|exact Ze _ _|exact⟨rfl,rfl,rfl,Zb _,λ_ _=>rfl⟩)
  ·have HY:Hid P:=J (by rw[HP.out];have:=ZDY h3;omega);clear m1 m2 h2 d1 h2' h3;go_enter func110,ntmps110
   go_wp2_with (go_at_call 64;first|(refine Zc (C1.out _) ?_;clear C1)|(refine Zc (C2.out _) ?_;clear C2)|(refine Zc (C3.out _) ?_))
   go_quiet (fail)
   go_wp2;go_ret;exact HF.out true _ (Zcr HY.out) (by first|exact Ze _ _|exact⟨rfl,rfl,rfl,Zb _,λ_ _=>rfl⟩)
 have m1b:(mn == -1)=false:=by rw[ZDU];exact m1
 obtain⟨B1,h1⟩:∃B,decide (-1<=mn/\mn<=1000)=B:=⟨_,rfl⟩;rw[h1]at C1;cases B1
 ·have HY:Hid (¬P):=J (by rw[HP.out];exact λe=>absurd e.1 (ZDZ h1));clear m1 h1;go_enter func110,ntmps110
  go_wp2_with (go_at_call 64;refine Zc (C1.out _) ?_)
  go_ret;exact HF.out false _ (ZbC HY.out) (by first|exact Ze _ _|exact⟨rfl,rfl,rfl,Zb _,λ_ _=>rfl⟩)
 obtain⟨B2,h2⟩:∃B,decide (-1<=mx/\mx<=1000)=B:=⟨_,rfl⟩;rw[h2]at C2;cases B2
 ·have HY:Hid (¬P):=J (by rw[HP.out];exact λe=>absurd e.2.1 (ZDZ h2));clear m1 h1 h2;go_enter func110,ntmps110
  go_wp2_with (go_at_call 64;first|(refine Zc (C1.out _) ?_;clear C1)|(refine Zc (C2.out _) ?_))
  go_ret;exact HF.out false _ (ZbC HY.out) (by first|exact Ze _ _|exact⟨rfl,rfl,rfl,Zb _,λ_ _=>rfl⟩)
 have h1':=ZDY h1;have h2':=ZDY h2;obtain⟨lg,hlg⟩:∃lg:Bool,(lg=true↔(1<=k/\k<=3)\/k=8):=⟨decide ((1<=k/\k<=3)\/k=8),by rw[Z6]⟩;have HLG:Hid (lg=true↔(1<=k/\k<=3)\/k=8):=J hlg;have HNEED:Hid (P↔lg=true/\(mx = -1\/mn<=mx)):=J (by rw[HP.out,HLG.out];omega);clear h1 h2 h1' h2' m1;obtain⟨Bm,hm⟩:∃B,(mx == -1)=B:=⟨_,rfl⟩;have HM:Hid (Bm=true↔mx = -1):=J (by rw[<-hm,ZEd]);have hdm:mn<=mx\/¬mn<=mx:=Decidable.em _;obtain⟨B3,h3⟩:∃B,decide (1<=k/\k<=3)=B:=⟨_,rfl⟩;rw[h3]at C3;have H3:Hid (B3=true↔1<=k/\k<=3):=J (by rw[<-h3,Z6]);obtain⟨B8,h8⟩:∃B,(k==8)=B:=⟨_,rfl⟩;have H8:Hid (B8=true↔k=8):=J (by rw[<-h8,ZEd]);clear h3 hlg;rcases hdm with hdm|hdm
 ·have HD:Hid (mn<=mx):=J hdm;have HY:Hid ((B3||B8)=true↔P):=J (by rw[HNEED.out,HLG.out,ZDI,H3.out,H8.out];exact⟨λe=>⟨e,.inr HD.out⟩,λe=>e.1⟩);cases B3<;>cases B8<;>cases Bm
  all_goals
   first
   |replace HY:Hid P:=J (HY.out.1 rfl)
   |replace HY:Hid (¬P):=J (λe=>Bool.noConfusion (HY.out.2 e))
   go_enter func110,ntmps110
   go_wp2_with (go_at_call 64;first|(refine Zc (C1.out _) ?_;clear C1)|(refine Zc (C2.out _) ?_;clear C2)|(refine Zc (C3.out _) ?_))
   go_quiet (fail)
   go_wp2;go_ret;first
   |exact HF.out true _ (Zcr HY.out) (by first|exact Ze _ _|exact⟨rfl,rfl,rfl,Zb _,λ_ _=>rfl⟩)
   |exact HF.out false _ (ZbC HY.out) (by first|exact Ze _ _|exact⟨rfl,rfl,rfl,Zb _,λ_ _=>rfl⟩)
 ·have HD:Hid (¬mn<=mx):=J hdm;have hdb:decide (mn<=mx)=false:=Zg hdm;have HY:Hid (((B3||B8)&&Bm)=true↔P):=J (by rw[HNEED.out,HLG.out,ZW,ZDI,H3.out,H8.out,HM.out];exact⟨λe=>⟨e.1,.inl e.2⟩,λe=>⟨e.1,e.2.resolve_right HD.out⟩⟩);cases B3<;>cases B8<;>cases Bm
  all_goals
   first
   |replace HY:Hid P:=J (HY.out.1 rfl)
   |replace HY:Hid (¬P):=J (λe=>Bool.noConfusion (HY.out.2 e))
   go_enter func110,ntmps110
   go_wp2_with (go_at_call 64;first|(refine Zc (C1.out _) ?_;clear C1)|(refine Zc (C2.out _) ?_;clear C2)|(refine Zc (C3.out _) ?_))
   go_quiet (fail)
   go_wp2;go_ret;first
   |exact HF.out true _ (Zcr HY.out) (by first|exact Ze _ _|exact⟨rfl,rfl,rfl,Zb _,λ_ _=>rfl⟩)
   |exact HF.out false _ (ZbC HY.out) (by first|exact Ze _ _|exact⟨rfl,rfl,rfl,Zb _,λ_ _=>rfl⟩)
end
end Go.Proofs.YtcdnilpdohknfaaGreatDoor
