import Derived.Test.YtcdnilpdohknfaaGreatDoorJ2
import Derived.Lib.ItoaNum
import Derived.Lib.ItoaMem
set_option linter.unusedVariables false
set_option linter.unusedSimpArgs false
set_option maxRecDepth 100000
set_option maxHeartbeats 16000000
namespace Go.Proofs.YtcdnilpdohknfaaGreatDoor
open Tryz
section
open Go.RowKit
theorem ZDc(w w1:World)(G:Nat)(x:Int)(h0:0<=x)(h7:x<6)(hG:G<w.heap.size)
  (hg:(w.alloc (.cells #[.string ⟨#[48]⟩,.string ⟨#[49]⟩,.string ⟨#[53]⟩,.string ⟨#[57]⟩,.string ⟨#[48,48]⟩,.string ⟨#[49,50]⟩] 9)).grownBy w1 (some G)):
  ∃s:ZB,w1.cell? ⟨w.heap.size,x.toNat,none⟩=some (.string s)/\s.size<=2:=by
 have hb:=hg.block w.heap.size (by simp) (λe=>by cases e;omega);rw[World.cell?_of_block (a:=⟨w.heap.size,x.toNat,none⟩) hb,ZO _ w.heap.size x.toNat _ 9 (0,0) (Zz w _)];have hx:x.toNat=0\/x.toNat=1\/x.toNat=2\/x.toNat=3\/x.toNat=4\/x.toNat=5:=by omega
 rcases hx with e|e|e|e|e|e<;>rw[e]<;>exact⟨_,rfl,by decide⟩
theorem ZC6(w w1:World)(G:Nat)(x:Int)(h0:0<=x)(h7:x<6)(hG:G<w.heap.size)
  (hg:(w.alloc (.cells #[.string ⟨#[]⟩,.string ⟨#[48]⟩,.string ⟨#[53]⟩,.string ⟨#[50,53]⟩,.string ⟨#[48,53,48]⟩,.string ⟨#[57,57,57]⟩] 9)).grownBy w1 (some G)):
  ∃s:ZB,w1.cell? ⟨w.heap.size,x.toNat,none⟩=some (.string s)/\s.size<=3:=by
 have hb:=hg.block w.heap.size (by simp) (λe=>by cases e;omega);rw[World.cell?_of_block (a:=⟨w.heap.size,x.toNat,none⟩) hb,ZO _ w.heap.size x.toNat _ 9 (0,0) (Zz w _)];have hx:x.toNat=0\/x.toNat=1\/x.toNat=2\/x.toNat=3\/x.toNat=4\/x.toNat=5:=by omega
 rcases hx with e|e|e|e|e|e<;>rw[e]<;>exact⟨_,rfl,by decide⟩
theorem sz1(b:UInt8):(⟨#[b]⟩:ZB).size=1:=rfl
theorem ZrI(G:Nat)(a:Option Addr)(n cap:Nat)(zs:List Int)(w:World)(h:Zfr w G a n cap zs):
  Calls prog 44 #[.pointer (some ⟨G,0,none⟩)] w λe w'=>∃s:ZB,s.size<=100/\e=.returned (.string s)/\ZG G a n cap zs w w':=by
 have HH:=J h;clear h;go_enter func44,ntmps44
 go_wp2_with fail
 refine(Za1 G a n cap zs 5 _ (by omega) (by omega) HH.out).mono ?_;rintro e w1 ⟨x,hx0,hx1,rfl,hd⟩;have HD:=J hd;clear hd;go_wp2
 go_loopw [3,4] (λvs vi wr=>∃(s:ZB) (k:Nat),vs=.string s/\vi=I k/\s.size+2*k<=8/\Hid (ZG G a n cap zs w wr)) (λ_ vi _=>(Zi vi).toNat)
 case atStart=>exact⟨⟨#[]⟩,x.toNat,rfl,by rw[show((x.toNat:Nat):Int)=x by omega],by simp[ByteArray.size];omega,HD⟩
 case round=>
  clear HD hx0 hx1;obtain⟨s,k,rfl,rfl,hk,HD⟩:=hrel;have hG:=ZdC HD.out.1;by_cases hlt:0<k
  ·go_wp2_with fail
   refine(Za1 G a n cap zs 6 _ (by omega) (by omega) (ZaY HD.out.1 _)).mono ?_;rintro e w2 ⟨y,hy0,hy1,rfl,hd⟩;obtain⟨t,ht,hts⟩:=ZDc wr w2 G y hy0 hy1 hG hd.2;have HD2:=J (Zaj HD.out (Zbi _ hd));clear hd;go_wp2
   go_roundw
   case rel=>exact⟨_,k-1,rfl,by go_num,by rw[Z5];omega,HD2⟩
   case measure=>simp[Zi];omega
  ·have hs8:s.size<=8:=by omega
   clear hk;go_wp2_with fail
   refine(Zdj G a n cap zs 2 _ (by omega) (by omega) HD.out.1).mono ?_;rintro e w2 ⟨b,rfl,hd⟩;have HD2:=J (Zaj HD.out hd);have hG2:=ZdC hd.1;clear hd;cases b
   ·go_wp2_with fail
    refine(Za1 G a n cap zs 6 _ (by omega) (by omega) HD2.out.1).mono ?_;rintro e w8 ⟨y8,hy0,hy1,rfl,hd⟩;have HD8:=J (Zaj HD2.out hd);clear hd;rcases(show y8=0\/y8=1\/y8=2\/3<=y8 by omega) with hy|hy|hy|hy
    ·subst hy;obtain⟨u,hu⟩:=ZX ((⟨#[45]⟩:ZB)++s);have hus:u.size<=30:=(by rw[<-hu,Z5,sz1];omega);go_wp2_with fail
     refine(Zdj G a n cap zs 40 _ (by omega) (by omega) HD8.out.1).mono ?_;rintro e w9 ⟨b9,rfl,hd⟩;have HD9:=J (Zaj HD8.out hd);clear hd;cases b9
     ·go_wp2;go_ret;exact⟨_,by omega,rfl,HD9.out⟩
     ·go_wp2
      go_loopw [3,5] (λvs vi wr=>∃(q:ZB) (j:Nat),vs=.string q/\vi=I j/\q.size<=30+j/\j<=60/\Hid (ZG G a n cap zs w wr)) (λ_ vi _=>60-(Zi vi).toNat)
      case atStart=>exact⟨_,0,rfl,rfl,by omega,by omega,HD9⟩
      case round=>
       obtain⟨q,j,rfl,rfl,hq,hj,HQ⟩:=hrel;by_cases hj6:j<60
       ·go_wp2
        go_roundw
        case rel=>exact⟨_,j+1,rfl,by go_num,by rw[Z5,sz1];omega,by omega,HQ⟩
        case measure=>simp[Zi];omega
       ·go_wp2;go_ret;exact⟨q,by omega,rfl,HQ.out⟩
    ·subst hy;obtain⟨u,hu⟩:=ZX ((⟨#[45]⟩:ZB)++s);have hus:u.size<=30:=(by rw[<-hu,Z5,sz1];omega);go_wp2_with fail
     refine(Zdj G a n cap zs 40 _ (by omega) (by omega) HD8.out.1).mono ?_;rintro e w9 ⟨b9,rfl,hd⟩;have HD9:=J (Zaj HD8.out hd);clear hd;cases b9
     ·go_wp2;go_ret;exact⟨_,by omega,rfl,HD9.out⟩
     ·go_wp2
      go_loopw [3,5] (λvs vi wr=>∃(q:ZB) (j:Nat),vs=.string q/\vi=I j/\q.size<=30+j/\j<=60/\Hid (ZG G a n cap zs w wr)) (λ_ vi _=>60-(Zi vi).toNat)
      case atStart=>exact⟨_,0,rfl,rfl,by omega,by omega,HD9⟩
      case round=>
       obtain⟨q,j,rfl,rfl,hq,hj,HQ⟩:=hrel;by_cases hj6:j<60
       ·go_wp2
        go_roundw
        case rel=>exact⟨_,j+1,rfl,by go_num,by rw[Z5,sz1];omega,by omega,HQ⟩
        case measure=>simp[Zi];omega
       ·go_wp2;go_ret;exact⟨q,by omega,rfl,HQ.out⟩
    ·subst hy;obtain⟨u,hu⟩:=ZX ((⟨#[43]⟩:ZB)++s);have hus:u.size<=30:=(by rw[<-hu,Z5,sz1];omega);go_wp2_with fail
     refine(Zdj G a n cap zs 40 _ (by omega) (by omega) HD8.out.1).mono ?_;rintro e w9 ⟨b9,rfl,hd⟩;have HD9:=J (Zaj HD8.out hd);clear hd;cases b9
     ·go_wp2;go_ret;exact⟨_,by omega,rfl,HD9.out⟩
     ·go_wp2
      go_loopw [3,5] (λvs vi wr=>∃(q:ZB) (j:Nat),vs=.string q/\vi=I j/\q.size<=30+j/\j<=60/\Hid (ZG G a n cap zs w wr)) (λ_ vi _=>60-(Zi vi).toNat)
      case atStart=>exact⟨_,0,rfl,rfl,by omega,by omega,HD9⟩
      case round=>
       obtain⟨q,j,rfl,rfl,hq,hj,HQ⟩:=hrel;by_cases hj6:j<60
       ·go_wp2
        go_roundw
        case rel=>exact⟨_,j+1,rfl,by go_num,by rw[Z5,sz1];omega,by omega,HQ⟩
        case measure=>simp[Zi];omega
       ·go_wp2;go_ret;exact⟨q,by omega,rfl,HQ.out⟩
    ·go_wp2_with fail
     refine(Zdj G a n cap zs 40 _ (by omega) (by omega) HD8.out.1).mono ?_;rintro e w9 ⟨b9,rfl,hd⟩;have HD9:=J (Zaj HD8.out hd);clear hd;cases b9
     ·go_wp2;go_ret;exact⟨_,by omega,rfl,HD9.out⟩
     ·go_wp2
      go_loopw [3,5] (λvs vi wr=>∃(q:ZB) (j:Nat),vs=.string q/\vi=I j/\q.size<=30+j/\j<=60/\Hid (ZG G a n cap zs w wr)) (λ_ vi _=>60-(Zi vi).toNat)
      case atStart=>exact⟨_,0,rfl,rfl,by omega,by omega,HD9⟩
      case round=>
       obtain⟨q,j,rfl,rfl,hq,hj,HQ⟩:=hrel;by_cases hj6:j<60
       ·go_wp2
        go_roundw
        case rel=>exact⟨_,j+1,rfl,by go_num,by rw[Z5,sz1];omega,by omega,HQ⟩
        case measure=>simp[Zi];omega
       ·go_wp2;go_ret;exact⟨q,by omega,rfl,HQ.out⟩
   ·go_wp2_with fail
    refine(Za1 G a n cap zs 6 _ (by omega) (by omega) (ZaY HD2.out.1 _)).mono ?_;rintro e w3 ⟨y,hy0,hy1,rfl,hd⟩;obtain⟨t,ht,hts⟩:=ZC6 w2 w3 G y hy0 hy1 hG2 hd.2;have HD3:=J (Zaj HD2.out (Zbi _ hd));obtain⟨z,hz⟩:=ZX (s++⟨#[46]⟩++t);have hzs:z.size<=20:=(by rw[<-hz,Z5,Z5,sz1];omega);clear hd;go_wp2_with fail
    refine(Za1 G a n cap zs 6 _ (by omega) (by omega) HD3.out.1).mono ?_;rintro e w8 ⟨y8,hy0,hy1,rfl,hd⟩;have HD8:=J (Zaj HD3.out hd);clear hd;rcases(show y8=0\/y8=1\/y8=2\/3<=y8 by omega) with hy|hy|hy|hy
    ·subst hy;obtain⟨u,hu⟩:=ZX ((⟨#[45]⟩:ZB)++z);have hus:u.size<=30:=(by rw[<-hu,Z5,sz1];omega);go_wp2_with fail
     refine(Zdj G a n cap zs 40 _ (by omega) (by omega) HD8.out.1).mono ?_;rintro e w9 ⟨b9,rfl,hd⟩;have HD9:=J (Zaj HD8.out hd);clear hd;cases b9
     ·go_wp2;go_ret;exact⟨_,by omega,rfl,HD9.out⟩
     ·go_wp2
      go_loopw [3,5] (λvs vi wr=>∃(q:ZB) (j:Nat),vs=.string q/\vi=I j/\q.size<=30+j/\j<=60/\Hid (ZG G a n cap zs w wr)) (λ_ vi _=>60-(Zi vi).toNat)
      case atStart=>exact⟨_,0,rfl,rfl,by omega,by omega,HD9⟩
      case round=>
       obtain⟨q,j,rfl,rfl,hq,hj,HQ⟩:=hrel;by_cases hj6:j<60
       ·go_wp2
        go_roundw
        case rel=>exact⟨_,j+1,rfl,by go_num,by rw[Z5,sz1];omega,by omega,HQ⟩
        case measure=>simp[Zi];omega
       ·go_wp2;go_ret;exact⟨q,by omega,rfl,HQ.out⟩
    ·subst hy;obtain⟨u,hu⟩:=ZX ((⟨#[45]⟩:ZB)++z);have hus:u.size<=30:=(by rw[<-hu,Z5,sz1];omega);go_wp2_with fail
     refine(Zdj G a n cap zs 40 _ (by omega) (by omega) HD8.out.1).mono ?_;rintro e w9 ⟨b9,rfl,hd⟩;have HD9:=J (Zaj HD8.out hd);clear hd;cases b9
     ·go_wp2;go_ret;exact⟨_,by omega,rfl,HD9.out⟩
     ·go_wp2
      go_loopw [3,5] (λvs vi wr=>∃(q:ZB) (j:Nat),vs=.string q/\vi=I j/\q.size<=30+j/\j<=60/\Hid (ZG G a n cap zs w wr)) (λ_ vi _=>60-(Zi vi).toNat)
      case atStart=>exact⟨_,0,rfl,rfl,by omega,by omega,HD9⟩
      case round=>
       obtain⟨q,j,rfl,rfl,hq,hj,HQ⟩:=hrel;by_cases hj6:j<60
       ·go_wp2
        go_roundw
        case rel=>exact⟨_,j+1,rfl,by go_num,by rw[Z5,sz1];omega,by omega,HQ⟩
        case measure=>simp[Zi];omega
       ·go_wp2;go_ret;exact⟨q,by omega,rfl,HQ.out⟩
    ·subst hy;obtain⟨u,hu⟩:=ZX ((⟨#[43]⟩:ZB)++z);have hus:u.size<=30:=(by rw[<-hu,Z5,sz1];omega);go_wp2_with fail
     refine(Zdj G a n cap zs 40 _ (by omega) (by omega) HD8.out.1).mono ?_;rintro e w9 ⟨b9,rfl,hd⟩;have HD9:=J (Zaj HD8.out hd);clear hd;cases b9
     ·go_wp2;go_ret;exact⟨_,by omega,rfl,HD9.out⟩
     ·go_wp2
      go_loopw [3,5] (λvs vi wr=>∃(q:ZB) (j:Nat),vs=.string q/\vi=I j/\q.size<=30+j/\j<=60/\Hid (ZG G a n cap zs w wr)) (λ_ vi _=>60-(Zi vi).toNat)
      case atStart=>exact⟨_,0,rfl,rfl,by omega,by omega,HD9⟩
      case round=>
       obtain⟨q,j,rfl,rfl,hq,hj,HQ⟩:=hrel;by_cases hj6:j<60
       ·go_wp2
        go_roundw
        case rel=>exact⟨_,j+1,rfl,by go_num,by rw[Z5,sz1];omega,by omega,HQ⟩
        case measure=>simp[Zi];omega
       ·go_wp2;go_ret;exact⟨q,by omega,rfl,HQ.out⟩
    ·go_wp2_with fail
     refine(Zdj G a n cap zs 40 _ (by omega) (by omega) HD8.out.1).mono ?_;rintro e w9 ⟨b9,rfl,hd⟩;have HD9:=J (Zaj HD8.out hd);clear hd;cases b9
     ·go_wp2;go_ret;exact⟨_,by omega,rfl,HD9.out⟩
     ·go_wp2
      go_loopw [3,5] (λvs vi wr=>∃(q:ZB) (j:Nat),vs=.string q/\vi=I j/\q.size<=30+j/\j<=60/\Hid (ZG G a n cap zs w wr)) (λ_ vi _=>60-(Zi vi).toNat)
      case atStart=>exact⟨_,0,rfl,rfl,by omega,by omega,HD9⟩
      case round=>
       obtain⟨q,j,rfl,rfl,hq,hj,HQ⟩:=hrel;by_cases hj6:j<60
       ·go_wp2
        go_roundw
        case rel=>exact⟨_,j+1,rfl,by go_num,by rw[Z5,sz1];omega,by omega,HQ⟩
        case measure=>simp[Zi];omega
       ·go_wp2;go_ret;exact⟨q,by omega,rfl,HQ.out⟩
def Z8(y mo d h mi s:Int)(g:Bool)(z:Int):Bool:=
 inB 1 y 9999&&(inB 1 mo 12&&(inB 1 d (dim y mo)&&(inB 0 h 23&&(inB 0 mi 59&&(inB 0 s 59&&(inB (-840) z 840&&(g||decide (z=0))))))))
theorem Zau{B:Nat}{w w1:World}(h:Below B w w1)(n:Nat):Below B w (w1.drewN n):=⟨h.os,h.tape,h.output,h.size,h.block⟩
theorem ZbN(y mo d h mi s:Int)(g:Bool)(z:Int)(w:World):Calls prog 76 #[.agg #[I y,I mo,I d,I h,I mi,I s,.bool g,I z]] w λe w'=>e=.returned (.bool (Z8 y mo d h mi s g z))/\ZL w w':=by
 cases t0:inB 1 y 9999
 ·go_enter func76,ntmps76
  go_wp2_with fail
  go_big_quiet (first|(go_at_call 30;first|exact ZA (ZaV _ _ _ _ (by assumption))|exact ZA (ZbF _ _ _ _ (by assumption)))|(go_at_call 78;exact ZA (Zhq _ _ _)))
  go_wp2;go_ret;exact⟨Zo (by simp[Z8,t0]),Zau ((Ze _ _).alloc (Zb _) _) _⟩
 ·skip
  cases t1:inB 1 mo 12
  ·go_enter func76,ntmps76
   go_wp2_with fail
   go_big_quiet (first|(go_at_call 30;first|exact ZA (ZaV _ _ _ _ (by assumption))|exact ZA (ZbF _ _ _ _ (by assumption)))|(go_at_call 78;exact ZA (Zhq _ _ _)))
   go_wp2;go_ret;exact⟨Zo (by simp[Z8,t0,t1]),Zau ((Ze _ _).alloc (Zb _) _) _⟩
  ·skip
   cases t2:inB 1 d (dim y mo)
   ·go_enter func76,ntmps76
    go_wp2_with fail
    go_big_quiet (first|(go_at_call 30;first|exact ZA (ZaV _ _ _ _ (by assumption))|exact ZA (ZbF _ _ _ _ (by assumption)))|(go_at_call 78;exact ZA (Zhq _ _ _)))
    go_wp2;go_ret;exact⟨Zo (by simp[Z8,t0,t1,t2]),Zau ((Ze _ _).alloc (Zb _) _) _⟩
   ·skip
    cases t3:inB 0 h 23
    ·go_enter func76,ntmps76
     go_wp2_with fail
     go_big_quiet (first|(go_at_call 30;first|exact ZA (ZaV _ _ _ _ (by assumption))|exact ZA (ZbF _ _ _ _ (by assumption)))|(go_at_call 78;exact ZA (Zhq _ _ _)))
     go_wp2;go_ret;exact⟨Zo (by simp[Z8,t0,t1,t2,t3]),Zau ((Ze _ _).alloc (Zb _) _) _⟩
    ·skip
     cases t4:inB 0 mi 59
     ·go_enter func76,ntmps76
      go_wp2_with fail
      go_big_quiet (first|(go_at_call 30;first|exact ZA (ZaV _ _ _ _ (by assumption))|exact ZA (ZbF _ _ _ _ (by assumption)))|(go_at_call 78;exact ZA (Zhq _ _ _)))
      go_wp2;go_ret;exact⟨Zo (by simp[Z8,t0,t1,t2,t3,t4]),Zau ((Ze _ _).alloc (Zb _) _) _⟩
     ·skip
      cases t5:inB 0 s 59
      ·go_enter func76,ntmps76
       go_wp2_with fail
       go_big_quiet (first|(go_at_call 30;first|exact ZA (ZaV _ _ _ _ (by assumption))|exact ZA (ZbF _ _ _ _ (by assumption)))|(go_at_call 78;exact ZA (Zhq _ _ _)))
       go_wp2;go_ret;exact⟨Zo (by simp[Z8,t0,t1,t2,t3,t4,t5]),Zau ((Ze _ _).alloc (Zb _) _) _⟩
      ·skip
       cases t6:inB (-840) z 840
       ·go_enter func76,ntmps76
        go_wp2_with fail
        go_big_quiet (first|(go_at_call 30;first|exact ZA (ZaV _ _ _ _ (by assumption))|exact ZA (ZbF _ _ _ _ (by assumption)))|(go_at_call 78;exact ZA (Zhq _ _ _)))
        go_wp2;go_ret;exact⟨Zo (by simp[Z8,t0,t1,t2,t3,t4,t5,t6]),Zau ((Ze _ _).alloc (Zb _) _) _⟩
       ·skip
        cases g
        ·rcases Decidable.em (z=0) with hz|hz
         all_goals
          try subst hz
          go_enter func76,ntmps76
          go_wp2_with fail
          go_big_quiet (first|(go_at_call 30;first|exact ZA (ZaV _ _ _ _ (by assumption))|exact ZA (ZbF _ _ _ _ (by assumption)))|(go_at_call 78;exact ZA (Zhq _ _ _)))
          go_wp2;go_ret;exact⟨Zo (by simp[Z8,t0,t1,t2,t3,t4,t5,t6, *]),Zau ((Ze _ _).alloc (Zb _) _) _⟩
        ·go_enter func76,ntmps76
         go_wp2_with fail
         go_big_quiet (first|(go_at_call 30;first|exact ZA (ZaV _ _ _ _ (by assumption))|exact ZA (ZbF _ _ _ _ (by assumption)))|(go_at_call 78;exact ZA (Zhq _ _ _)))
         go_wp2;go_ret;exact⟨Zo (by simp[Z8,t0,t1,t2,t3,t4,t5,t6]),Zau ((Ze _ _).alloc (Zb _) _) _⟩
theorem Zc3{g:Nat}{w:World}(h:Zjk g w)(n:Nat):Zjk g (w.drewN n):=h
theorem Zfe{g:Nat}{w:World}(h:Zjk g w)(o:Obj):Zjk g (w.alloc o):=Zdt h ((Ze _ _).alloc (Zb _) o)
theorem Zvj(z:Int)(w:World):Calls prog 209 #[I z] w λe w'=>e=.returned (.bool (inB (-840) z 840))/\w'=w:=by
 go_enter func209,ntmps209
 go_wp2_with (go_at_call 64;refine Zc (Zd5 _ _ _ _) ?_)
 go_ret;exact⟨rfl,rfl⟩
theorem Zfv(z:Int)(w:World)(h:inB (-840) z 840=true):Calls prog 209 #[I z] w λe w'=>e=.returned (.bool true)/\w'=w:=by
 have:=Zvj z w;rwa [h]at this
theorem ZfF(z:Int)(w:World)(h:inB (-840) z 840=false):Calls prog 209 #[I z] w λe w'=>e=.returned (.bool false)/\w'=w:=by
 have:=Zvj z w;rwa [h]at this
theorem ZrO(y mo d h mi s:Int)(g:Bool)(z:Int):Z8 y mo d h mi s g z=(inB 1 d (dim y mo)&&(inB 0 h 23&&(inB 0 mi 59&&(inB 0 s 59&&(inB (-840) z 840&&(g||decide (z=0))))))):=by
 by_cases e1:1<=y/\y<=9999
 ·by_cases e2:1<=mo/\mo<=12
  ·simp[Z8,Zfz e1,Zfz e2]
  ·have e:=Zgw (y:=y) (m:=mo) (by omega);have e3:inB 1 d (dim y mo)=false:=Zj0 (by rw[e];omega);simp only[Z8,e3,Zj0 e2,Bool.false_and,Bool.and_false]
 ·have e:=Zgw (y:=y) (m:=mo) (by omega);have e3:inB 1 d (dim y mo)=false:=Zj0 (by rw[e];omega);simp only[Z8,e3,Zj0 e1,Bool.false_and,Bool.and_false]
theorem Zcb(y mo d h mi s:Int)(g:Bool)(z:Int)(w:World)(ht:Zjk 3 w):Calls prog 170 #[.agg #[I y,I mo,I d,I h,I mi,I s,.bool g,I z]] w λe w'=>e=.returned (.bool (Z8 y mo d h mi s g z))/\ZL w w':=by
 have HT:=J (Zfe ht (.cells #[I y,I mo,I d,I h,I mi,I s,.bool g,I z] 78));have HD:=J (ZrO y mo d h mi s g z);clear ht;cases t2:inB 1 d (dim y mo)
 ·go_enter func170,ntmps170
  go_wp2_with fail
  go_big_quiet (first|(go_at_call 64;first|exact ZA (ZcJ _ _ _ _ (by assumption))|exact ZA (ZcN _ _ _ _ (by assumption)))|(go_at_call 208;exact ZA (ZlE _ _ _ (Zc3 HT.out _)))|(go_at_call 209;first|exact ZA (Zfv _ _ (by assumption))|exact ZA (ZfF _ _ (by assumption))))
  go_wp2;go_ret;exact⟨Zo (by rw[HD.out];simp[t2]),Zau ((Ze _ _).alloc (Zb _) _) _⟩
 ·skip
  cases t3:inB 0 h 23
  ·go_enter func170,ntmps170
   go_wp2_with fail
   go_big_quiet (first|(go_at_call 64;first|exact ZA (ZcJ _ _ _ _ (by assumption))|exact ZA (ZcN _ _ _ _ (by assumption)))|(go_at_call 208;exact ZA (ZlE _ _ _ (Zc3 HT.out _)))|(go_at_call 209;first|exact ZA (Zfv _ _ (by assumption))|exact ZA (ZfF _ _ (by assumption))))
   go_wp2;go_ret;exact⟨Zo (by rw[HD.out];simp[t2,t3]),Zau ((Ze _ _).alloc (Zb _) _) _⟩
  ·skip
   cases t4:inB 0 mi 59
   ·go_enter func170,ntmps170
    go_wp2_with fail
    go_big_quiet (first|(go_at_call 64;first|exact ZA (ZcJ _ _ _ _ (by assumption))|exact ZA (ZcN _ _ _ _ (by assumption)))|(go_at_call 208;exact ZA (ZlE _ _ _ (Zc3 HT.out _)))|(go_at_call 209;first|exact ZA (Zfv _ _ (by assumption))|exact ZA (ZfF _ _ (by assumption))))
    go_wp2;go_ret;exact⟨Zo (by rw[HD.out];simp[t2,t3,t4]),Zau ((Ze _ _).alloc (Zb _) _) _⟩
   ·skip
    cases t5:inB 0 s 59
    ·go_enter func170,ntmps170
     go_wp2_with fail
     go_big_quiet (first|(go_at_call 64;first|exact ZA (ZcJ _ _ _ _ (by assumption))|exact ZA (ZcN _ _ _ _ (by assumption)))|(go_at_call 208;exact ZA (ZlE _ _ _ (Zc3 HT.out _)))|(go_at_call 209;first|exact ZA (Zfv _ _ (by assumption))|exact ZA (ZfF _ _ (by assumption))))
     go_wp2;go_ret;exact⟨Zo (by rw[HD.out];simp[t2,t3,t4,t5]),Zau ((Ze _ _).alloc (Zb _) _) _⟩
    ·skip
     cases t6:inB (-840) z 840
     ·go_enter func170,ntmps170
      go_wp2_with fail
      go_big_quiet (first|(go_at_call 64;first|exact ZA (ZcJ _ _ _ _ (by assumption))|exact ZA (ZcN _ _ _ _ (by assumption)))|(go_at_call 208;exact ZA (ZlE _ _ _ (Zc3 HT.out _)))|(go_at_call 209;first|exact ZA (Zfv _ _ (by assumption))|exact ZA (ZfF _ _ (by assumption))))
      go_wp2;go_ret;exact⟨Zo (by rw[HD.out];simp[t2,t3,t4,t5,t6]),Zau ((Ze _ _).alloc (Zb _) _) _⟩
     ·skip
      cases g
      ·rcases Decidable.em (z=0) with hz|hz
       all_goals
        try subst hz
        go_enter func170,ntmps170
        go_wp2_with fail
        go_big_quiet (first|(go_at_call 64;first|exact ZA (ZcJ _ _ _ _ (by assumption))|exact ZA (ZcN _ _ _ _ (by assumption)))|(go_at_call 208;exact ZA (ZlE _ _ _ (Zc3 HT.out _)))|(go_at_call 209;first|exact ZA (Zfv _ _ (by assumption))|exact ZA (ZfF _ _ (by assumption))))
        go_wp2;go_ret;exact⟨Zo (by rw[HD.out];simp[t2,t3,t4,t5,t6, *]),Zau ((Ze _ _).alloc (Zb _) _) _⟩
      ·go_enter func170,ntmps170
       go_wp2_with fail
       go_big_quiet (first|(go_at_call 64;first|exact ZA (ZcJ _ _ _ _ (by assumption))|exact ZA (ZcN _ _ _ _ (by assumption)))|(go_at_call 208;exact ZA (ZlE _ _ _ (Zc3 HT.out _)))|(go_at_call 209;first|exact ZA (Zfv _ _ (by assumption))|exact ZA (ZfF _ _ (by assumption))))
       go_wp2;go_ret;exact⟨Zo (by rw[HD.out];simp[t2,t3,t4,t5,t6]),Zau ((Ze _ _).alloc (Zb _) _) _⟩
end
def ZrX(n:Nat):List UInt8:=[UInt8.ofNat (48+n/10%10),UInt8.ofNat (48+n%10)]
def Zio(n:Int):ZB:=⟨(ZrX n.toNat).toArray⟩
def ZyQ(k n:Nat):List UInt8:=List.replicate (k-(Lib.decDigits n).length) 48++Lib.decDigits n
theorem ZgW{n:Nat}(h:n<10):Lib.decDigits n=[UInt8.ofNat (48+n)]:=Lib.decDigits_one h
theorem ZdP{n:Nat}(h:¬n<10):Lib.decDigits n=Lib.decDigits (n/10)++[UInt8.ofNat (48+n%10)]:=by
 rw[Lib.decDigits,dif_neg h]
theorem ZCJ(n:Nat)(h:n<100):ZyQ 2 n=ZrX n:=by
 unfold ZyQ ZrX;by_cases h1:n<10
 ·rw[ZgW h1,show n/10%10=0 by omega,show n%10=n by omega];rfl
 ·rw[ZdP h1,ZgW (show n/10<10 by omega),show n/10%10=n/10 by omega];rfl
theorem ZCp(n:Nat)(h:n<10000):ZyQ 4 n=ZrX (n/100)++ZrX (n%100):=by
 unfold ZyQ ZrX;by_cases h1:n<10
 ·rw[ZgW h1,show n/100/10%10=0 by omega,show n/100%10=0 by omega,show n%100/10%10=0 by omega,show n%100%10=n by omega];rfl
 ·by_cases h2:n<100
  ·rw[ZdP h1,ZgW (show n/10<10 by omega),show n/100/10%10=0 by omega,show n/100%10=0 by omega,show n%100/10%10=n/10 by omega,show n%100%10=n%10 by omega];rfl
  ·by_cases h3:n<1000
   ·rw[ZdP h1,ZdP (show ¬n/10<10 by omega),ZgW (show n/10/10<10 by omega),show n/100/10%10=0 by omega,show n/100%10=n/10/10 by omega,show n%100/10%10=n/10%10 by omega,show n%100%10=n%10 by omega];rfl
   ·rw[ZdP h1,ZdP (show ¬n/10<10 by omega),ZdP (show ¬n/10/10<10 by omega),ZgW (show n/10/10/10<10 by omega),show n/100/10%10=n/10/10/10 by omega,show n/100%10=n/10/10%10 by omega,show n%100/10%10=n/10%10 by omega,show n%100%10=n%10 by omega];rfl
def Zg7(c:UInt8):ZB:=⟨#[c]⟩
def ZbS(h m:Int):ZB:=Zio h++(Zg7 58++Zio m)
def Zcq(g:Bool)(z:Int):ZB:=if g=false then ⟨#[]⟩ else if z=0 then Zg7 90 else if z<0 then Zg7 45++ZbS (-z/60) (-z%60) else Zg7 43++ZbS (z/60) (z%60)
def Zg8(y:Int):ZB:=Zio (y/100)++Zio (y%100)
def Zs2(y mo d:Int):ZB:=Zg8 y++(Zg7 45++(Zio mo++(Zg7 45++Zio d)))
def dtB(y mo d h mi s:Int)(g:Bool)(z:Int):ZB:=if Z8 y mo d h mi s g z=true then Zs2 y mo d++(Zg7 84++(ZbS h mi++(Zg7 58++(Zio s++Zcq g z)))) else ⟨#[]⟩
section
open Go.RowKit
theorem Za4{w w1:World}{c:Array Value}{t:TypeId}(h:Below (w.alloc (.cells c t)).heap.size (w.alloc (.cells c t)) w1):ZL w w1:=
 ((Ze w.heap.size w).alloc (Zb _) _).trans (h.mono (by simp))
theorem Zp{w w1 w2:World}(h:ZL w w1)(k:ZL w1 w2):ZL w w2:=h.trans (k.mono h.size)
theorem ZbU(w:World)(o:Obj):ZL w (w.alloc o):=(Ze _ _).alloc (Zb _) o
def ZpL(w:World)(G:Nat)(y mo d h mi s:Int)(g:Bool)(z:Int):Prop:=
 G<w.heap.size/\w.cell? ⟨G,0,none⟩=some (I y)/\w.cell? ⟨G,1,none⟩=some (I mo)/\w.cell? ⟨G,2,none⟩=some (I d)/\w.cell? ⟨G,3,none⟩=some (I h)/\w.cell? ⟨G,4,none⟩=some (I mi)/\w.cell? ⟨G,5,none⟩=some (I s)/\w.cell? ⟨G,6,none⟩=some (.bool g)/\w.cell? ⟨G,7,none⟩=some (I z)
theorem Zcl(w:World)(y mo d h mi s:Int)(g:Bool)(z:Int)(t:TypeId):ZpL (w.alloc (.cells #[I y,I mo,I d,I h,I mi,I s,.bool g,I z] t)) w.heap.size y mo d h mi s g z:=by
 have e:∀i,(w.alloc (.cells #[I y,I mo,I d,I h,I mi,I s,.bool g,I z] t)).cell? ⟨w.heap.size,i,none⟩=(#[I y,I mo,I d,I h,I mi,I s,.bool g,I z]:Array Value)[i]?:=λi=>by
  rw[ZO _ w.heap.size i _ t (0,0) (Zz w _)]
 exact⟨by simp,e 0,e 1,e 2,e 3,e 4,e 5,e 6,e 7⟩
theorem ZbI{w w1:World}{G:Nat}{y mo d h mi s:Int}{g:Bool}{z:Int}(hx:ZpL w G y mo d h mi s g z)(k:ZL w w1):ZpL w1 G y mo d h mi s g z:=by
 obtain⟨h0,c0,c1,c2,c3,c4,c5,c6,c7⟩:=hx;exact⟨ZDy h0 k.size,(k.cell (p:=⟨G,0,none⟩) h0).trans c0,(k.cell (p:=⟨G,1,none⟩) h0).trans c1,(k.cell (p:=⟨G,2,none⟩) h0).trans c2,(k.cell (p:=⟨G,3,none⟩) h0).trans c3,(k.cell (p:=⟨G,4,none⟩) h0).trans c4,(k.cell (p:=⟨G,5,none⟩) h0).trans c5,(k.cell (p:=⟨G,6,none⟩) h0).trans c6,(k.cell (p:=⟨G,7,none⟩) h0).trans c7⟩
theorem ZhA{w w1:World}{G:Nat}(K:Nat){cs:Array Value}{T:TypeId}{x:Int}{N:Nat}(hg:(w.alloc (.cells cs T)).grownBy w1 (some G))(h0:0<=x)(hx:x<N)(hN:cs.size=N)(hG:G<w.heap.size)(hK:∀k,k<N->∃s:ZB,cs[k]?=some (.string s)/\s.size<=K):∃s:ZB,w1.cell? ⟨w.heap.size,x.toNat,none⟩=some (.string s)/\s.size<=K:=by
 have hb:=hg.block w.heap.size (by simp) (λe=>by cases e;omega);rw[World.cell?_of_block (a:=⟨w.heap.size,x.toNat,none⟩) hb,ZO _ w.heap.size x.toNat _ T (0,0) (Zz w _)];exact hK x.toNat (by omega)
def bsR:Nat->Nat
 |0=>10
 |d+1=>2*bsR d+10
theorem Zv3:∀d,10<=bsR d
 |0=>Zb _
 |d+1=>by have:=Zv3 d;rw[bsR];omega
theorem ZzZ:∀d,d<=3->bsR d<=150
 |0,_=>by decide
 |1,_=>by decide
 |2,_=>by decide
 |3,_=>by decide
def RxD(G:Nat)(a:Option Addr)(n cap:Nat)(zs:List Int)(d:Nat):Prop:=∀w,Zfr w G a n cap zs->Calls prog 74 #[.pointer (some ⟨G,0,none⟩),I (d:Int)] w λe w'=>∃s:ZB,s.size<=bsR d/\e=.returned (.string s)/\ZG G a n cap zs w w'
theorem ZAV(G:Nat)(a:Option Addr)(n cap:Nat)(zs:List Int)(d:Nat)(hd3:d<=3)(ih:∀q,d=q+1->RxD G a n cap zs q):RxD G a n cap zs d:=by
 intro w h;have HH:=J h;have hG:=ZdC h;have hb10:=Zv3 d;clear h;go_enter func74,ntmps74
 go_wp2_with fail
 refine(Za1 G a n cap zs 9 _ (by omega) (by omega) HH.out).mono ?_;rintro e w1 ⟨x,hx0,hx1,rfl,hd⟩;have R1:=J hd.1;have D1:=J hd;have hG1:=ZdC hd.1;clear hd;by_cases e0:x=0\/x=1
 ·rcases e0 with rfl|rfl
  all_goals
   go_wp2_with fail
   refine(Za1 G a n cap zs 6 _ (by omega) (by omega) (ZaY R1.out _)).mono ?_;rintro e w2 ⟨y,hy0,hy1,rfl,hd2⟩;obtain⟨s,hs,hs1⟩:=ZhA 10 hd2.2 hy0 hy1 rfl hG1 (λk hk=>by
    have hk':k<6:=hk;rcases(show k=0\/k=1\/k=2\/k=3\/k=4\/k=5 by omega) with e|e|e|e|e|e<;>subst e<;>exact⟨_,rfl,by decide⟩)
   have D2:=J (Zaj D1.out (Zbi _ hd2));clear hd2;go_wp2;go_ret;exact⟨s,by omega,rfl,D2.out⟩
 ·have b0:(x==0)=false:=by simp;omega
  have b1:(x==1)=false:=by simp;omega
  by_cases e2:x=2
  ·subst e2;go_wp2_with fail
   refine(Za1 G a n cap zs 9 _ (by omega) (by omega) (ZaY R1.out _)).mono ?_;rintro e w2 ⟨y,hy0,hy1,rfl,hd2⟩;obtain⟨s,hs,hs1⟩:=ZhA 10 hd2.2 hy0 hy1 rfl hG1 (λk hk=>by
    have hk':k<9:=hk;rcases(show k=0\/k=1\/k=2\/k=3\/k=4\/k=5\/k=6\/k=7\/k=8 by omega) with e|e|e|e|e|e|e|e|e<;>subst e<;>exact⟨_,rfl,by decide⟩)
   have D2:=J (Zaj D1.out (Zbi _ hd2));clear hd2;go_wp2;go_ret;exact⟨s,by omega,rfl,D2.out⟩
  ·have b2:(x==2)=false:=by simp;omega
   clear e0 e2;cases d with
   |zero=>
    go_wp2;go_ret;exact⟨⟨#[97]⟩,by decide,rfl,D1.out⟩
   |succ q=>
    have IH:=J (ih q rfl);have hq3:=ZzZ q (by omega);have bd:(((q+1:Nat):Int)==0)=false:=(by simp;omega);have bd2:((q:Int)+1==0)=false:=(by simp;omega);have hw:IntKind.i64.wrap (((q+1:Nat):Int)-1)=(q:Int):=(by rw[ZY];omega);have hw2:IntKind.i64.wrap ((q:Int)+1-1)=(q:Int):=(by rw[ZY];omega);have hw3:IntKind.i64.wrap (q:Int)=(q:Int):=(by rw[ZY];omega);have z40:(⟨#[40]⟩:ZB).size=1:=rfl;have z41:(⟨#[41]⟩:ZB).size=1:=rfl;have z124:(⟨#[124]⟩:ZB).size=1:=rfl;have z12:(⟨#[124,41]⟩:ZB).size=2:=rfl;have EB:Hid (bsR (q+1)=2*bsR q+10):=J rfl;clear ih hb10;go_wp2_with fail
    refine(Za1 G a n cap zs 5 _ (by omega) (by omega) R1.out).mono ?_;rintro e w2 ⟨y,hy0,hy1,rfl,hd2⟩;have R2:=J hd2.1;have D2:=J (Zaj D1.out hd2);clear hd2;by_cases f0:y=0
    ·subst f0;go_wp2_with fail
     refine(IH.out _ R2.out).mono ?_;rintro e w3 ⟨s1,hs1,rfl,hd3'⟩;have R3:=J hd3'.1;have D3:=J (Zaj D2.out hd3');clear hd3';go_wp2_with fail
     refine(IH.out _ R3.out).mono ?_;rintro e w4 ⟨s2,hs2,rfl,hd4⟩;have D4:=J (Zaj D3.out hd4);clear hd4;go_wp2;go_ret;exact⟨_,by have:=EB.out;simp only[Z5];omega,rfl,D4.out⟩
    ·have c0:(y==0)=false:=(by simp;omega);by_cases f1:y=1
     ·subst f1;go_wp2_with fail
      refine(IH.out _ R2.out).mono ?_;rintro e w3 ⟨s1,hs1,rfl,hd3'⟩;have R3:=J hd3'.1;have D3:=J (Zaj D2.out hd3');have hG3:=ZdC hd3'.1;clear hd3';go_wp2_with fail
      refine(Za1 G a n cap zs 7 _ (by omega) (by omega) (ZaY R3.out _)).mono ?_;rintro e w4 ⟨z,hz0,hz1,rfl,hd4⟩;obtain⟨s,hs,hs2⟩:=ZhA 5 hd4.2 hz0 hz1 rfl hG3 (λk hk=>by
       have hk':k<7:=hk;rcases(show k=0\/k=1\/k=2\/k=3\/k=4\/k=5\/k=6 by omega) with e|e|e|e|e|e|e<;>subst e<;>exact⟨_,rfl,by decide⟩)
      have D4:=J (Zaj D3.out (Zbi _ hd4));clear hd4;go_wp2;go_ret;exact⟨_,by have:=EB.out;simp only[Z5];omega,rfl,D4.out⟩
     ·have c1:(y==1)=false:=(by simp;omega);by_cases f2:y=2
      ·subst f2;go_wp2_with fail
       refine(IH.out _ R2.out).mono ?_;rintro e w3 ⟨s1,hs1,rfl,hd3'⟩;have D3:=J (Zaj D2.out hd3');clear hd3';go_wp2;go_ret;exact⟨_,by have:=EB.out;simp only[Z5];omega,rfl,D3.out⟩
      ·have c2:(y==2)=false:=(by simp;omega);go_wp2_with fail
       refine(IH.out _ R2.out).mono ?_;rintro e w3 ⟨s1,hs1,rfl,hd3'⟩;have R3:=J hd3'.1;have D3:=J (Zaj D2.out hd3');clear hd3';go_wp2_with fail
       refine(IH.out _ R3.out).mono ?_;rintro e w4 ⟨s2,hs2,rfl,hd4⟩;have D4:=J (Zaj D3.out hd4);clear hd4;go_wp2;go_ret;exact⟨_,by have:=EB.out;simp only[Z5];omega,rfl,D4.out⟩
theorem ZCX(G:Nat)(a:Option Addr)(n cap:Nat)(zs:List Int):∀d,d<=3->RxD G a n cap zs d
 |0,_=>ZAV G a n cap zs 0 (by omega) (λq h=>by omega)
 |d+1,h=>ZAV G a n cap zs (d+1) h (λq hq=>by obtain rfl:d=q:=(by omega);exact ZCX G a n cap zs d (by omega))
end
section
open Go.RowKit Go.Joins
theorem ZBi{l h:Int}(e:chB l=false):rgB l h=false:=by simp[rgB,e]
theorem ZA2{l h:Int}(e:chB h=false):rgB l h=false:=by simp[rgB,e]
theorem ZAR{l h:Int}(e:h<l):rgB l h=false:=by
 have e':¬l<=h:=by omega
 simp[rgB,e']
theorem ZzU{l h:Int}(e1:chB l=true)(e2:chB h=true)(e:l<=h):rgB l h=true:=by simp[rgB,e1,e2,e]
theorem Za8(w:World)(q:Nat):ZL w (w.drewN q):=by
 induction q with
 |zero=>exact Ze _ _
 |succ q ih=>exact ih.drew
theorem ZuW(a:Option Addr)(n c:Nat)(L H:Nat->Int)(w:World)(hn:n<=maxLen)(hr:ZdV w a n L H w.heap.size):
  Calls prog 261 #[.slice a n c] w λe w'=>e=.returned (.bool (ZlR n L H))/\ZL w w':=by
 unfold maxLen at hn;have HR:=J hr;clear hr;by_cases h12:1<=n/\n<=12
 ·obtain⟨g1,g2⟩:=h12;go_enter func261,ntmps261
  go_wp2
  go_loopw [15] (λi wr=>∃k:Nat,k<=n/\i=I k/\ZL w wr/\Hid (∀j,j<k->rgB (L j) (H j)=true)) (λi _=>n-(Zi i).toNat)
  case atStart=>exact⟨0,Zx _,rfl,Ze _ _,λj h=>by omega⟩
  case round=>
   obtain⟨k,hk,rfl,hb,HM⟩:=hrel;by_cases hlt:k<n
   ·obtain⟨b,off,rfl,hbs,hc⟩:=HR.out (by omega);have hc1:wr.cell? ⟨b,off+k*2,none⟩=some (I (L k)):=(hb.cell hbs).trans (hc k hlt).1;have hc2:wr.cell? ⟨b,off+k*2+1,none⟩=some (I (H k)):=(hb.cell hbs).trans (hc k hlt).2;have HB:=J hb;clear hc hb;cases el:chB (L k)
    ·go_wp2_with (go_at_call_of 253 (L k);refine Zc (ZxM _ _ el) ?_)
     go_ret;exact⟨Zo (by simp[ZlR,Zgm hlt (ZBi el)]),HB.out.alloc HB.out.size _⟩
    ·cases eh:chB (H k)
     ·go_wp2_with (first|(go_at_call_of 253 (L k);refine Zc (ZoO _ _ el) ?_)|(go_at_call_of 253 (H k);refine Zc (ZxM _ _ eh) ?_))
      go_ret;exact⟨Zo (by simp[ZlR,Zgm hlt (ZA2 (l:=L k) eh)]),HB.out.alloc HB.out.size _⟩
     ·by_cases ho:L k<=H k
      ·go_wp2_with (first|(go_at_call_of 253 (L k);refine Zc (ZoO _ _ el) ?_)|(go_at_call_of 253 (H k);refine Zc (ZoO _ _ eh) ?_))
       go_roundw
       case rel=>
        refine⟨k+1,by omega,by go_num,HB.out.alloc HB.out.size _,λj hj=>?_⟩;by_cases e:j=k
        ·subst e;exact ZzU el eh ho
        ·exact HM.out j (by omega)
       case measure=>simp[Zi];omega
      ·go_wp2_with (first|(go_at_call_of 253 (L k);refine Zc (ZoO _ _ el) ?_)|(go_at_call_of 253 (H k);refine Zc (ZoO _ _ eh) ?_))
       go_ret;exact⟨Zo (by simp[ZlR,Zgm hlt (ZAR (by omega))]),HB.out.alloc HB.out.size _⟩
   ·go_wp2;go_ret;exact⟨Zo (by rw[ZlR,ZnO (λj h=>HM.out j (by omega)),Zh (⟨g1,g2⟩:1<=n/\n<=12)];rfl),hb⟩
 ·have e:ZlR n L H=false:=by simp only[ZlR,Zg h12,Bool.false_and]
  rw[e];go_enter func261,ntmps261
  by_cases g:n=0
  ·go_wp2;go_ret;exact⟨rfl,Ze _ _⟩
  ·have g2:12<n:=by omega
   have g3:(12:Int)<(n:Int):=by omega
   go_wp2;go_ret;exact⟨rfl,Ze _ _⟩
theorem Zw7(nt:Bool)(a:Option Addr)(n c:Nat)(A B mn mx:Int)(L H:Nat->Int)(w:World)(hn:n<=maxLen)(hr:ZdV w a n L H w.heap.size):Calls prog 223 #[.agg #[I 2,.bool nt,.slice a n c,I A,I B,I mn,I mx]] w λe w'=>e=.returned (.bool (ZR 2 nt n L H A B mn mx))/\ZL w w':=by
 have HN:=J hn;have HR:=J hr;unfold maxLen at hn;clear hr;go_enter func223,ntmps223
 go_wp2_with (go_at_call 261;refine ZM (ZuW _ _ _ L H _ HN.out (Zb9 (Zck HR.out ((Ze _ _).alloc (Zb _) _)) (by simp))) ?_;rintro w2 hb2;have HB2:=J (ZdA hb2);clear hb2)
 all_goals
  go_ret;exact⟨Zo (by simp_all [ZR]),HB2.out⟩
theorem ZBY(kd:Int)(nt:Bool)(a:Option Addr)(n c:Nat)(A B mn mx:Int)(L H:Nat->Int)(r:Int)(w:World)(hn:n<=maxLen)(hr:ZdV w a n L H w.heap.size):Calls prog 215 #[.agg #[I kd,.bool nt,.slice a n c,I A,I B,I mn,I mx],I r] w λe w'=>e=.returned (.bool (chB r&&(Zoi n L H r != nt)))/\ZL w w':=by
 have HR:=J hr;unfold maxLen at hn;clear hr;cases hch:chB r
 ·go_enter func215,ntmps215
  go_wp2_with (go_at_call 253;refine Zc (ZxM _ _ hch) ?_)
  go_ret;exact⟨Zo (by simp),(Ze _ _).alloc (Zb _) _⟩
 ·go_enter func215,ntmps215
  go_wp2_with (go_at_call 253;refine Zc (ZoO _ _ hch) ?_)
  go_loopw [13] (λi wr=>∃k:Nat,k<=n/\i=I k/\ZL w wr/\ZeG wr w.heap.size kd nt a n c A B mn mx/\Hid (Zoi k L H r=false)) (λi _=>n-(Zi i).toNat)
  case atStart=>exact⟨0,Zx _,rfl,(Ze _ _).alloc (Zb _) _,Ze3 _ _ _ _ _ _ _ _ _ _ _,ZsC L H r⟩
  case round=>
   obtain⟨k,hk,rfl,hb,hN,HM⟩:=hrel;obtain⟨a0,a1,a2,a3,a4,a5,a6⟩:=Zav hN;have HNN:=J hN;clear hN;by_cases hlt:k<n
   ·obtain⟨b,off,rfl,hbs,hc⟩:=HR.out (by omega);have hc1:wr.cell? ⟨b,off+k*2,none⟩=some (I (L k)):=(hb.cell hbs).trans (hc k hlt).1;have hc2:wr.cell? ⟨b,off+k*2+1,none⟩=some (I (H k)):=(hb.cell hbs).trans (hc k hlt).2;have HB:=J hb;have hlt2:w.heap.size<wr.heap.size:=Zly HNN.out;clear hc hb;by_cases hh:L k<=r/\r<=H k
    ·go_wp2_with (go_at_call 64;refine Zc (ZpB _ _ _ _ hh) ?_)
     go_ret;exact⟨Zo (by rw[Zt8 hlt (Zh hh)];cases nt<;>rfl),HB.out.alloc HB.out.size _⟩
    ·go_wp2_with (go_at_call 64;refine Zc (ZmF _ _ _ _ hh) ?_)
     go_roundw
     case rel=>
      refine⟨k+1,by omega,by go_num,HB.out.alloc HB.out.size _,Zdq HNN.out ((Ze _ _).alloc (Zb _) _),?_⟩;show Zoi (k+1) L H r=false;rw[Zf6,HM.out,Zza,Zg hh];rfl
     case measure=>simp[Zi];omega
   ·have hkn:k=n:=(by omega);subst hkn;go_wp2;go_ret;exact⟨Zo (by rw[HM.out];cases nt<;>rfl),hb⟩
theorem ZtX(kd:Int)(nt:Bool)(a:Option Addr)(n c:Nat)(A B mn mx:Int)(L H:Nat->Int)(w:World)(hn:n<=maxLen)(hr:ZdV w a n L H w.heap.size):Calls prog 223 #[.agg #[I kd,.bool nt,.slice a n c,I A,I B,I mn,I mx]] w λe w'=>e=.returned (.bool (ZR kd nt n L H A B mn mx))/\ZL w w':=by
 by_cases h1:kd=1
 ·subst h1;exact Zyy nt a n c A B mn mx L H w hn
 by_cases h2:kd=2
 ·subst h2;exact Zw7 nt a n c A B mn mx L H w hn hr
 by_cases h3:kd=3
 ·subst h3;exact ZxU nt a n c A B mn mx L H w hn
 by_cases h4:kd=4
 ·subst h4;exact Zy6 nt a n c A B mn mx L H w hn
 by_cases h5:kd=5
 ·subst h5;exact Zyq nt a n c A B mn mx L H w hn
 exact Zy4 nt a n c A B mn mx L H w hn kd ⟨h1,h2,h3,h4,h5⟩
theorem Zx9(nt:Bool)(a:Option Addr)(n c:Nat)(A B mn mx:Int)(L H:Nat->Int)(w:World)(hn:n<=maxLen)(hr:ZdV w a n L H w.heap.size):Calls prog 182 #[.agg #[I 2,.bool nt,.slice a n c,I A,I B,I mn,I mx]] w λe w'=>e=.returned (.bool (ZR 2 nt n L H A B mn mx))/\ZL w w':=by
 have HR:=J hr;unfold maxLen at hn;clear hr;by_cases hp:(1<=n/\n<=12)/\A=0/\B=0/\mn=0/\mx=0
 ·obtain⟨⟨g1,g2⟩,rfl,rfl,rfl,rfl⟩:=hp;have g3:(1:Int)<=n:=by omega
  have g4:(n:Int)<=12:=by omega
  go_enter func182,ntmps182
  go_wp2
  go_loopw [3] (λi wr=>∃k:Nat,k<=n/\i=I k/\ZL w wr/\ZeG wr w.heap.size 2 nt a n c 0 0 0 0/\Hid (∀j,j<k->rgB (L j) (H j)=true)) (λi _=>n-(Zi i).toNat)
  case atStart=>exact⟨0,Zx _,rfl,(Ze _ _).alloc (Zb _) _,Ze3 _ _ _ _ _ _ _ _ _ _ _,λj h=>by omega⟩
  case round=>
   obtain⟨k,hk,rfl,hb,hN,HM⟩:=hrel;obtain⟨a0,a1,a2,a3,a4,a5,a6⟩:=Zav hN;have HNN:=J hN;clear hN;by_cases hlt:k<n
   ·obtain⟨b,off,rfl,hbs,hc⟩:=HR.out (by omega);have hc1:wr.cell? ⟨b,off+k*2,none⟩=some (I (L k)):=(hb.cell hbs).trans (hc k hlt).1;have hc2:wr.cell? ⟨b,off+k*2+1,none⟩=some (I (H k)):=(hb.cell hbs).trans (hc k hlt).2;have HB:=J hb;have hi:(k:Int)<(n:Int):=(by omega);have hi0:(0:Int)<=(k:Int):=(by omega);clear hc hb;cases el:chB (L k)
    ·go_wp2;go_big_quiet (first|(go_at_call_of 135 (L k);refine ZA (ZxX _ _ el)))
     go_wp2;go_ret;exact⟨Zo (by simp[ZR,ZlR,Zgm hlt (ZBi el)]),HB.out.trans ((Za8 _ _).mono HB.out.size)⟩
    ·cases eh:chB (H k)
     ·go_wp2;go_big_quiet (first|(go_at_call_of 135 (L k);refine ZA (ZoC _ _ el))|(go_at_call_of 135 (H k);refine ZA (ZxX _ _ eh)))
      go_wp2;go_ret;exact⟨Zo (by simp[ZR,ZlR,Zgm hlt (ZA2 (l:=L k) eh)]),HB.out.trans ((Za8 _ _).mono HB.out.size)⟩
     ·by_cases ho:L k<=H k
      ·go_wp2;go_big_quiet (first|(go_at_call_of 135 (L k);refine ZA (ZoC _ _ el))|(go_at_call_of 135 (H k);refine ZA (ZoC _ _ eh)))
       go_wp2
       go_roundw
       case rel=>
        refine⟨k+1,by omega,by go_num,HB.out.trans ((Za8 _ _).mono HB.out.size),Zdq HNN.out (Za8 _ _),λj hj=>?_⟩;by_cases e:j=k
        ·subst e;exact ZzU el eh ho
        ·exact HM.out j (by omega)
       case measure=>simp[Zi];omega
      ·go_wp2;go_big_quiet (first|(go_at_call_of 135 (L k);refine ZA (ZoC _ _ el))|(go_at_call_of 135 (H k);refine ZA (ZoC _ _ eh)))
       go_wp2;go_ret;exact⟨Zo (by simp[ZR,ZlR,Zgm hlt (ZAR (by omega))]),HB.out.trans ((Za8 _ _).mono HB.out.size)⟩
   ·have e:ZlR n L H=true:=(by rw[ZlR,ZnO (λj h=>HM.out j (by omega)),Zh (⟨g1,g2⟩:1<=n/\n<=12)];rfl);have E:=J e;clear e;go_wp2;go_ret;exact⟨Zo (by simp[ZR,E.out]),hb⟩
 ·have e:ZR 2 nt n L H A B mn mx=false:=by
   by_cases h12:1<=n/\n<=12
   ·simp only[ZR];simp;intro _ hA hB hmn hmx;exact hp ⟨h12,hA,hB,hmn,hmx⟩
   ·simp[ZR,ZlR,h12]
  have E:=J e;have HP:=J hp;clear e hp;go_enter func182,ntmps182
  go_wp2;all_goals first
   |(go_ret;exact⟨Zo E.out.symm,(Ze _ _).alloc (Zb _) _⟩)
   |exact absurd (⟨⟨by omega,by omega⟩,by omega,by omega,by omega,by simp_all⟩) HP.out
theorem Zec(kd:Int)(nt:Bool)(a:Option Addr)(n c:Nat)(A B mn mx:Int)(L H:Nat->Int)(w:World)(hn:n<=maxLen)(hr:ZdV w a n L H w.heap.size):Calls prog 182 #[.agg #[I kd,.bool nt,.slice a n c,I A,I B,I mn,I mx]] w λe w'=>e=.returned (.bool (ZR kd nt n L H A B mn mx))/\ZL w w':=by
 by_cases h1:kd=1
 ·subst h1;exact Zx2 nt a n c A B mn mx L H w hn
 by_cases h2:kd=2
 ·subst h2;exact Zx9 nt a n c A B mn mx L H w hn hr
 by_cases h3:kd=3
 ·subst h3;exact Zx0 nt a n c A B mn mx L H w hn
 by_cases h4:kd=4
 ·subst h4;exact ZwF nt a n c A B mn mx L H w hn
 by_cases h5:kd=5
 ·subst h5;exact Zxe nt a n c A B mn mx L H w hn
 exact Zyn nt a n c A B mn mx L H w hn kd ⟨h1,h2,h3,h4,h5⟩
theorem ZnU{w w2:World}{kd:Int}{nt:Bool}{a:Option Addr}{n c:Nat}{A B mn mx:Int}{T:TypeId}
  (k:Below (w.alloc (.cells #[I kd,.bool nt,.slice a n c,I A,I B,I mn,I mx] T)).heap.size (w.alloc (.cells #[I kd,.bool nt,.slice a n c,I A,I B,I mn,I mx] T)) w2):
  ZeG w2 w.heap.size kd nt a n c A B mn mx/\ZL w w2:=⟨Zdq (Ze3 _ _ _ _ _ _ _ _ _ _ _) k,ZdA k⟩
theorem Zy5(kd:Int)(nt:Bool)(a:Option Addr)(n c:Nat)(A B mn mx:Int)(L H:Nat->Int)(r:Int)(w:World)(hn:n<=maxLen)(hr:ZdV w a n L H w.heap.size):Calls prog 185 #[.agg #[I kd,.bool nt,.slice a n c,I A,I B,I mn,I mx],I r] w λe w'=>e=.returned (.bool (Zvm kd nt n L H A B mn mx r))/\ZL w w':=by
 have HN:=J hn;have HR:=J hr;unfold maxLen at hn;clear hr;by_cases hk:kd=2
 ·subst hk;cases hno:ZR 2 nt n L H A B mn mx
  ·go_enter func185,ntmps185
   go_wp2_with (go_at_call 182;refine ZM (Zec _ _ _ _ _ _ _ _ _ L H _ HN.out (Zb9 (Zck HR.out ((Ze _ _).alloc (Zb _) _)) (by simp))) ?_;rintro w2 hb2;rw[hno];have HB2:=J (ZdA hb2);clear hb2)
   go_ret;exact⟨Zo (by simp[Zvm,hno]),HB2.out⟩
  ·cases hch:chB r
   ·go_enter func185,ntmps185
    go_wp2_with (first|(go_at_call 182;refine ZM (Zec _ _ _ _ _ _ _ _ _ L H _ HN.out (Zb9 (Zck HR.out ((Ze _ _).alloc (Zb _) _)) (by simp))) ?_;rintro w2 hb2;rw[hno];have HB2:=J (ZdA hb2);clear hb2)|(go_at_call 135;refine Zc (ZxX _ _ hch) ?_))
    go_ret;exact⟨Zo (by simp[Zvm,hno,hch]),HB2.out⟩
   ·have hv:Zvm 2 nt n L H A B mn mx r=(Zoi n L H r != nt):=(by simp[Zvm,hno,hch]);have HV:=J hv;clear hv;go_enter func185,ntmps185
    go_wp2_with (first|(go_at_call 182;refine ZM (Zec _ _ _ _ _ _ _ _ _ L H _ HN.out (Zb9 (Zck HR.out ((Ze _ _).alloc (Zb _) _)) (by simp))) ?_;rintro w2 hb2;rw[hno];have HX2:=J (ZnU hb2);clear hb2)|(go_at_call 135;refine Zc (ZoC _ _ hch) ?_))
    go_loopw [5,6] (λv i wr=>∃k:Nat,k<=n/\i=I k/\v=.bool (Zoi k L H r)/\ZL w wr/\ZeG wr w.heap.size 2 nt a n c A B mn mx) (λ_ i _=>n-(Zi i).toNat)
    case atStart=>exact⟨0,Zx _,rfl,rfl,HX2.out.2,HX2.out.1⟩
    case round=>
     obtain⟨k,hk,rfl,rfl,hb,hN⟩:=hrel;obtain⟨a0,a1,a2,a3,a4,a5,a6⟩:=Zav hN;have HNN:=J hN;clear hN;by_cases hlt:k<n
     ·obtain⟨b,off,rfl,hbs,hc⟩:=HR.out (by omega);have hc1:wr.cell? ⟨b,off+k*2,none⟩=some (I (L k)):=(hb.cell hbs).trans (hc k hlt).1;have hc2:wr.cell? ⟨b,off+k*2+1,none⟩=some (I (H k)):=(hb.cell hbs).trans (hc k hlt).2;have HB:=J hb;have hi:(k:Int)<(n:Int):=(by omega);have hi0:(0:Int)<=(k:Int):=(by omega);clear hc hb;cases hA:Zoi k L H r
      ·by_cases hh:L k<=r/\r<=H k
       ·go_wp2;go_big_quiet (first|(go_at_call 30;refine ZA (Ztg _ _ _ _ hh)))
        go_wp2
        go_roundw
        case rel=>exact⟨k+1,by omega,by go_num,by rw[Zf6,hA,Zza,Zh hh];rfl,HB.out.trans ((Za8 _ _).mono HB.out.size),Zdq HNN.out (Za8 _ _)⟩
        case measure=>simp[Zi];omega
       ·go_wp2;go_big_quiet (first|(go_at_call 30;refine ZA (ZqR _ _ _ _ hh)))
        go_wp2
        go_roundw
        case rel=>exact⟨k+1,by omega,by go_num,by rw[Zf6,hA,Zza,Zg hh];rfl,HB.out.trans ((Za8 _ _).mono HB.out.size),Zdq HNN.out (Za8 _ _)⟩
        case measure=>simp[Zi];omega
      ·go_wp2;go_big_quiet (fail)
       go_wp2
       go_roundw
       case rel=>exact⟨k+1,by omega,by go_num,by rw[Zf6,hA];rfl,HB.out.trans ((Za8 _ _).mono HB.out.size),Zdq HNN.out (Za8 _ _)⟩
       case measure=>simp[Zi];omega
     ·have hkn:k=n:=(by omega);subst hkn;go_wp2;go_ret;exact⟨Zo HV.out.symm,hb⟩
 ·have e2:(kd != 2)=true:=by simpa using hk
  go_enter func185,ntmps185
  go_wp2;go_ret;exact⟨Zo (by simp[Zvm,hk]),(Ze _ _).alloc (Zb _) _⟩
end
section
open Go.RowKit
theorem Zao(s:ZB)(a b:Nat)(h:b<=s.size):(s.extract a b).size=b-a:=by simp;omega
theorem ZcD(s:ZB)(a b j:Nat)(h:a+j<b)(hb:b<=s.size):at8 (s.extract a b) j=at8 s (a+j):=by
 have h1:j<(s.extract a b).size:=by rw[Zao s a b hb];omega
 rw[ZaX _ j h1,ZaX _ (a+j) (by omega)];congr 2;exact ByteArray.getElem_extract _
def Zis(t:ZB):Nat->Int
 |0=>0
 |k+1=>Zis t k*10+(at8 t k-48)
def Zj(t:ZB):Int:=Zis t t.size
theorem ZrV{t:ZB}(h:Zr t=true){j:Nat}(hj:j<t.size):48<=at8 t j/\at8 t j<=57:=by
 have:=Zfg t h j hj;rw[<-ZaX t j hj]at this;simpa[Z0] using this
def pw:Nat->Int
 |0=>1
 |k+1=>10*pw k
theorem ZAI{k:Nat}(h:k<=4):pw k<=10000:=by
 obtain rfl|rfl|rfl|rfl|rfl:k=0\/k=1\/k=2\/k=3\/k=4:=by omega
 all_goals decide
theorem Zj8{t:ZB}(h:Zr t=true):∀k,k<=t.size->0<=Zis t k/\Zis t k+1<=pw k
 |0,_=>by simp[Zis,pw]
 |k+1,hk=>by
  have:=Zj8 h k (by omega);have:=ZrV h (j:=k) (by omega);simp only[Zis,pw];omega
theorem Zlf{t u:ZB}:∀k,(∀j,j<k->at8 t j=at8 u j)->Zis t k=Zis u k
 |0,_=>rfl
 |k+1,h=>by simp only[Zis];rw[Zlf k (λj hj=>h j (by omega)),h k (by omega)]
theorem Zqu{t u:ZB}(hs:t.size=u.size)(h:∀j,j<t.size->at8 t j=at8 u j):Zr t=Zr u:=by
 unfold Zr;rw[hs];rw[Bool.eq_iff_iff,ZDP,ZDP];constructor
 ·intro q j hj;have:=q j hj;rw[h j (by simp at hj;omega)]at this;exact this
 ·intro q j hj;have:=q j hj;rw[<-h j (by simp at hj;omega)]at this;exact this
def shB(s p:ZB):Bool:=decide (s.size=p.size)&&(List.range p.size).all λj=>if at8 p j=48 then Z0 (at8 s j) else decide (at8 s j=at8 p j)
theorem Zjq{s p:ZB}(h:¬s.size=p.size):shB s p=false:=by simp[shB,h]
theorem ZsQ{s p:ZB}(k:Nat)(hk:k<p.size)(h:(if at8 p k=48 then Z0 (at8 s k) else decide (at8 s k=at8 p k))=false):shB s p=false:=by
 have:((List.range p.size).all λj=>if at8 p j=48 then Z0 (at8 s j) else decide (at8 s j=at8 p j))=false:=by
  rw[List.all_eq_false];exact⟨k,by simpa using hk,by rw[h];simp⟩
 simp[shB,this]
theorem ZhP{s p:ZB}(hs:s.size=p.size)(h:∀k,k<p.size->(if at8 p k=48 then Z0 (at8 s k) else decide (at8 s k=at8 p k))=true):shB s p=true:=by
 have:((List.range p.size).all λj=>if at8 p j=48 then Z0 (at8 s j) else decide (at8 s j=at8 p j))=true:=by
  rw[ZDP];intro j hj;exact h j (by simpa using hj)
 simp[shB,this,hs]
theorem ZlD{s p:ZB}(h:shB s p=true):s.size=p.size/\∀k,k<p.size->(if at8 p k=48 then Z0 (at8 s k) else decide (at8 s k=at8 p k))=true:=by
 simp only[shB,ZW,Z6,ZDP]at h;exact⟨h.1,λk hk=>h.2 k (by simpa using hk)⟩
def Zf(s:ZB)(a m:Nat):Int:=if s.size<a+m then -1 else if Zr (s.extract a (a+m))=true then Zj (s.extract a (a+m)) else -1
def p5:ZB:=⟨#[48,48,58,48,48]⟩
def p19:ZB:=⟨#[48,48,48,48,45,48,48,45,48,48,84,48,48,58,48,48,58,48,48]⟩
def zI(t:ZB):Bool×Int×Bool:=
 if t.size=0 then (false,0,true) else if t=⟨#[90]⟩ then (true,0,true)
 else if (at8 t 0=43\/at8 t 0=45)/\shB (t.extract 1 t.size) p5=true then
  if 59<Zj ((t.extract 1 t.size).extract 3 5) then (false,0,false)
  else (true,if at8 t 0=45 then -(Zj ((t.extract 1 t.size).extract 0 2)*60+Zj ((t.extract 1 t.size).extract 3 5)) else Zj ((t.extract 1 t.size).extract 0 2)*60+Zj ((t.extract 1 t.size).extract 3 5),true)
 else (false,0,false)
theorem sh5{r:ZB}(h:shB r p5=true):r.size=5/\Zr (r.extract 0 2)=true/\Zr (r.extract 3 5)=true/\at8 r 2=58:=by
 obtain⟨hs,hk⟩:=ZlD h;have hs5:r.size=5:=hs;have d:∀k,k<5->at8 p5 k=48->Z0 (at8 r k)=true:=λk hk5 e=>by have:=hk k hk5;rw[Zd e]at this;exact this
 have hd:∀a b,b<=5->(∀j,a+j<b->at8 p5 (a+j)=48)->Zr (r.extract a b)=true:=λa b hb q=>by
  apply Zdr;intro j hj;rw[Zao r a b (by omega)]at hj;rw[<-ZaX _ j (by rw[Zao r a b (by omega)];exact hj),ZcD r a b j (by omega) (by omega)];exact d (a+j) (by omega) (q j (by omega))
 refine⟨hs5,hd 0 2 (by omega) ?_,hd 3 5 (by omega) ?_,?_⟩
 ·intro j hj;obtain rfl|rfl:j=0\/j=1:=by omega
  all_goals rfl
 ·intro j hj;obtain rfl|rfl:j=0\/j=1:=by omega
  all_goals rfl
 ·have:=hk 2 (by decide);rw[Za (by decide)]at this;exact ZDY this
theorem Zjl{t:ZB}(h:Zr t=true)(hs:t.size=2):0<=Zj t/\Zj t<=99:=by
 have:=Zj8 h 2 (by omega);rw[Zj,hs];have e:pw 2=100:=by decide
 omega
def dby(y:Int):Int:=365*(y-1)+(y-1)/4-(y-1)/100+(y-1)/400
theorem Zsg{y:Int}(h1:1<=y)(h2:y<=10000):0<=dby y/\dby y<=3652059:=by unfold dby;omega
def ZpH(y:Int):Nat->Int
 |0=>0
 |k+1=>ZpH y k+dim y (k+1)
theorem ZmC{y:Int}(hy:1<=y/\y<=9999)(k:Nat)(hk:k<=12):0<=ZpH y k/\ZpH y k<=31*k:=by
 induction k with
 |zero=>simp[ZpH]
 |succ k ih=>
  have:=ih (by omega);have h1:=Zsy (y:=y) (m:=(k:Int)+1) hy (by omega);have h2:=(ZfJ y ((k:Int)+1)).2;simp only[ZpH];omega
def ZtO(y mo d h mi s:Int):Int:=86400*(dby y+d-1+ZpH y (mo-1).toNat)+3600*h+60*mi+s
def Ze4(y mo d h mi s:Int)(z:Int):Int:=ZtO y mo d h mi s-60*z
structure Rt (y mo d h mi s:Int) (g:Bool) (z:Int):Prop where
 y1:1<=y
 y2:y<=9999
 m1:1<=mo
 m2:mo<=12
 d1:1<=d
 d2:d<=dim y mo
 h1:0<=h
 h2:h<=23
 n1:0<=mi
 n2:mi<=59
 s1:0<=s
 s2:s<=59
 z1 : -840<=z
 z2:z<=840
 gz:g=true\/z=0
theorem Zpf{y mo d h mi s:Int}{g:Bool}{z:Int}(hx:Z8 y mo d h mi s g z=true):Rt y mo d h mi s g z:=by
 simp only[Z8,ZW,ZDI,Z6]at hx;obtain⟨a,b,c,e,f,k,l,m⟩:=hx;have a:=Zc0 a;have b:=Zc0 b;have c:=Zc0 c;have e:=Zc0 e;have f:=Zc0 f;have k:=Zc0 k;have l:=Zc0 l;exact⟨a.1,a.2,b.1,b.2,c.1,c.2,e.1,e.2,f.1,f.2,k.1,k.2,l.1,l.2,m⟩
theorem Zut{y mo d h mi s:Int}{g:Bool}{z:Int}(r:Rt y mo d h mi s g z):Z8 y mo d h mi s g z=true:=by
 simp only[Z8,ZW,ZDI,Z6];exact⟨Zfz ⟨r.y1,r.y2⟩,Zfz ⟨r.m1,r.m2⟩,Zfz ⟨r.d1,r.d2⟩,Zfz ⟨r.h1,r.h2⟩,Zfz ⟨r.n1,r.n2⟩,Zfz ⟨r.s1,r.s2⟩,Zfz ⟨r.z1,r.z2⟩,r.gz⟩
theorem ZsK{y mo d h mi s:Int}{g:Bool}{z:Int}(r:Rt y mo d h mi s g z):0<=ZtO y mo d h mi s/\ZtO y mo d h mi s<=86400*(3652059+31+372)+86400:=by
 have a:=Zsg r.y1 (by have:=r.y2;omega);have b:=ZmC ⟨r.y1,r.y2⟩ (mo-1).toNat (by have:=r.m2;omega);have c:=(ZfJ y mo).2;obtain⟨_,_,_,_,_,_,_,_,_,_,_,_,_,_,_⟩:=r;unfold ZtO;omega
theorem Zko{y mo d h mi s:Int}{g:Bool}{z:Int}(r:Rt y mo d h mi s g z): -60000<=Ze4 y mo d h mi s z/\Ze4 y mo d h mi s z<=400000000000:=by
 have:=ZsK r;obtain⟨_,_,_,_,_,_,_,_,_,_,_,_,_,_,_⟩:=r;unfold Ze4;omega
end
section
open Go.RowKit Go.Joins
def Zgl(w:World)(B:Nat)(y mo d h mi s:Int)(g:Bool)(z:Int):Prop:=∃T,w.heap[B]?=some (.cells #[I y,I mo,I d,I h,I mi,I s,.bool g,I z] T (0,0))
theorem Zti{w:World}{B:Nat}{y mo d h mi s:Int}{g:Bool}{z:Int}(hx:Zgl w B y mo d h mi s g z):B<w.heap.size:=by
 obtain⟨T,hx⟩:=hx;exact(Array.getElem?_eq_some_iff.1 hx).1
theorem Zds(w:World)(y mo d h mi s:Int)(g:Bool)(z:Int)(T:TypeId):Zgl (w.alloc (.cells #[I y,I mo,I d,I h,I mi,I s,.bool g,I z] T)) w.heap.size y mo d h mi s g z:=⟨T,Zz w _⟩
theorem ZcQ{w w1:World}{B:Nat}{y mo d h mi s:Int}{g:Bool}{z:Int}(hx:Zgl w B y mo d h mi s g z)(k:ZL w w1):Zgl w1 B y mo d h mi s g z:=by
 have hl:=Zti hx;obtain⟨T,hx⟩:=hx;exact⟨T,(k.block B hl).trans hx⟩
theorem Zl9{w:World}{B:Nat}{y mo d h mi s:Int}{g:Bool}{z:Int}(hx:Zgl w B y mo d h mi s g z)(o:Obj):Zgl (w.alloc o) B y mo d h mi s g z:=ZcQ hx ((Ze _ _).alloc (Zb _) _)
theorem Zai{w:World}{B:Nat}{y mo d h mi s:Int}{g:Bool}{z:Int}(hx:Zgl w B y mo d h mi s g z):
  (w.cell? ⟨B,0,none⟩=some (I y)/\w.cell? ⟨B,1,none⟩=some (I mo)/\w.cell? ⟨B,2,none⟩=some (I d)/\w.cell? ⟨B,3,none⟩=some (I h)/\w.cell? ⟨B,4,none⟩=some (I mi)/\w.cell? ⟨B,5,none⟩=some (I s)/\w.cell? ⟨B,6,none⟩=some (.bool g)/\w.cell? ⟨B,7,none⟩=some (I z))/\(w.frozen? ⟨B,0,none⟩=false/\w.frozen? ⟨B,1,none⟩=false/\w.frozen? ⟨B,2,none⟩=false/\w.frozen? ⟨B,3,none⟩=false/\w.frozen? ⟨B,4,none⟩=false/\w.frozen? ⟨B,5,none⟩=false/\w.frozen? ⟨B,6,none⟩=false/\w.frozen? ⟨B,7,none⟩=false):=by
 obtain⟨T,hx⟩:=hx;exact⟨⟨by rw[ZO w B 0 _ T (0,0) hx];rfl,by rw[ZO w B 1 _ T (0,0) hx];rfl,by rw[ZO w B 2 _ T (0,0) hx];rfl,by rw[ZO w B 3 _ T (0,0) hx];rfl,by rw[ZO w B 4 _ T (0,0) hx];rfl,by rw[ZO w B 5 _ T (0,0) hx];rfl,by rw[ZO w B 6 _ T (0,0) hx];rfl,by rw[ZO w B 7 _ T (0,0) hx];rfl⟩,ZEm w B 0 _ T hx,ZEm w B 1 _ T hx,ZEm w B 2 _ T hx,ZEm w B 3 _ T hx,ZEm w B 4 _ T hx,ZEm w B 5 _ T hx,ZEm w B 6 _ T hx,ZEm w B 7 _ T hx⟩
theorem Zbd{w:World}{B:Nat}{y0 mo0 d0 e0 mi0 s0:Int}{g0:Bool}{z0:Int}(hx:Zgl w B y0 mo0 d0 e0 mi0 s0 g0 z0)(y mo d h mi s:Int)(g:Bool)(z:Int):
  Zgl ((((((((w.setCell ⟨B,0,none⟩ (I y)).setCell ⟨B,1,none⟩ (I mo)).setCell ⟨B,2,none⟩ (I d)).setCell ⟨B,3,none⟩ (I h)).setCell ⟨B,4,none⟩ (I mi)).setCell ⟨B,5,none⟩ (I s)).setCell ⟨B,6,none⟩ (.bool g)).setCell ⟨B,7,none⟩ (I z)) B y mo d h mi s g z:=by
 obtain⟨T,h0⟩:=hx;have h1:=block_setCell (i:=0) h0 (I y);have h2:=block_setCell (i:=1) h1 (I mo);have h3:=block_setCell (i:=2) h2 (I d);have h4:=block_setCell (i:=3) h3 (I h);have h5:=block_setCell (i:=4) h4 (I mi);have h6:=block_setCell (i:=5) h5 (I s);have h7:=block_setCell (i:=6) h6 (.bool g);have h8:=block_setCell (i:=7) h7 (I z);exact⟨T,by simpa using h8⟩
theorem Za2{w w1:World}{B:Nat}(hx:ZL w w1)(hB:w.heap.size<=B)(x0 x1 x2 x3 x4 x5 x6 x7:Value):ZL w ((((((((w1.setCell ⟨B,0,none⟩ (x0)).setCell ⟨B,1,none⟩ (x1)).setCell ⟨B,2,none⟩ (x2)).setCell ⟨B,3,none⟩ (x3)).setCell ⟨B,4,none⟩ (x4)).setCell ⟨B,5,none⟩ (x5)).setCell ⟨B,6,none⟩ (x6)).setCell ⟨B,7,none⟩ (x7)):=
 (((((((hx.setCell hB _).setCell hB _).setCell hB _).setCell hB _).setCell hB _).setCell hB _).setCell hB _).setCell hB _
end
end Go.Proofs.YtcdnilpdohknfaaGreatDoor
