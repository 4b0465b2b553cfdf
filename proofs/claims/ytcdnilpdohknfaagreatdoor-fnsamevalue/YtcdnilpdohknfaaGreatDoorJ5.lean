import Derived.Test.YtcdnilpdohknfaaGreatDoorJ2
import Derived.Deep.WholeRow
set_option linter.unusedVariables false
set_option linter.unusedSimpArgs false
set_option maxRecDepth 100000
set_option maxHeartbeats 16000000
namespace Go.Proofs.YtcdnilpdohknfaaGreatDoor
open Tryz
section
open Go.RowKit
theorem ZfS{G:Nat}{a:Option Addr}{n cap:Nat}{zs:List Int}{w:World}(h:Zfr w G a n cap zs):ZG G a n cap zs w w:=⟨h,ZiJ w _⟩
theorem ZcR(w w1:World)(G:Nat)(x:Int)(h0:0<=x)(h7:x<4)(hG:G<w.heap.size){p q r s:Int}{T:TypeId}
  (hg:(w.alloc (.cells #[I p,I q,I r,I s] T)).grownBy w1 (some G)):
  ∃y:Int,w1.cell? ⟨w.heap.size,x.toNat,none⟩=some (I y):=by
 have hb:=hg.block w.heap.size (by simp) (λe=>by cases e;omega);rw[World.cell?_of_block (a:=⟨w.heap.size,x.toNat,none⟩) hb,ZO _ w.heap.size x.toNat _ T (0,0) (Zz w _)];have hx:x.toNat=0\/x.toNat=1\/x.toNat=2\/x.toNat=3:=by omega
 rcases hx with e|e|e|e<;>rw[e]<;>exact⟨_,rfl⟩
theorem Zdw(G:Nat)(a:Option Addr)(n cap:Nat)(zs:List Int)(w:World)(h:Zfr w G a n cap zs):
  Calls prog 75 #[.pointer (some ⟨G,0,none⟩)] w λe w'=>∃x:Int,e=.returned (.int .u64 x)/\ZG G a n cap zs w w':=by
 have HH:=J h;clear h;go_enter func75,ntmps75
 go_wp2
 go_loopw [3,4] (λvx vi wr=>∃(x:Int) (k:Nat),vx=.int .u64 x/\vi=I k/\k<=8/\Hid (ZG G a n cap zs w wr)) (λ_ vi _=>8-(Zi vi).toNat)
 case atStart=>exact⟨0,0,rfl,rfl,by omega,J (ZfS HH.out)⟩
 case round=>
  obtain⟨x,k,rfl,rfl,hk,HD⟩:=hrel;by_cases hlt:k<8
  ·go_wp2_with fail
   refine(Zwf G a n cap zs _ HD.out.1).mono ?_;rintro e w2 ⟨y,hy0,hy1,rfl,hd⟩;have HD2:=J (Zaj HD.out hd);clear hd;go_wp2
   go_roundw
   case rel=>exact⟨_,k+1,rfl,by go_num,by omega,HD2⟩
   case measure=>simp[Zi];omega
  ·go_wp2;go_ret;exact⟨x,rfl,HD.out⟩
theorem Zmn(G:Nat)(a:Option Addr)(n cap:Nat)(zs:List Int)(w:World)(h:Zfr w G a n cap zs):
  Calls prog 43 #[.pointer (some ⟨G,0,none⟩),I 1,I 31] w λe w'=>∃x:Int,e=.returned (I x)/\ZG G a n cap zs w w':=by
 have HH:=J h;clear h;go_enter func43,ntmps43
 go_wp2_with fail
 refine(Za1 G a n cap zs 8 _ (by omega) (by omega) HH.out).mono ?_;rintro e w1 ⟨x,hx0,hx1,rfl,hd⟩;have HD:=J hd;clear hd;rcases(show x=0\/x=1\/2<=x by omega) with hx|hx|hx
 ·subst hx;go_wp2;go_ret;exact⟨_,rfl,HD.out⟩
 ·subst hx;go_wp2;go_ret;exact⟨_,rfl,HD.out⟩
 ·go_wp2_with fail
  refine(Zdw G a n cap zs _ HD.out.1).mono ?_;rintro e w2 ⟨y,rfl,hd⟩;have HD2:=J (Zaj HD.out hd);clear hd;go_wp2;go_ret;exact⟨_,rfl,HD2.out⟩
theorem ZiX(G:Nat)(a:Option Addr)(n cap:Nat)(zs:List Int)(w:World)(h:Zfr w G a n cap zs):
  Calls prog 24 #[.pointer (some ⟨G,0,none⟩),I 1,I 31] w λe w'=>∃x:Int,e=.returned (I x)/\ZG G a n cap zs w w':=by
 have HH:=J h;clear h;go_enter func24,ntmps24
 go_wp2_with fail
 refine(Zdj G a n cap zs 24 _ (by omega) (by omega) HH.out).mono ?_;rintro e w1 ⟨b,rfl,hd⟩;have HD:=J hd;have hG:=ZdC hd.1;clear hd;cases b
 ·go_wp2_with fail
  refine(Zmn G a n cap zs _ HD.out.1).mono ?_;rintro e w2 ⟨y,rfl,hd⟩;have HD2:=J (Zaj HD.out hd);clear hd;go_wp2;go_ret;exact⟨_,rfl,HD2.out⟩
 ·go_wp2_with fail
  refine(Za1 G a n cap zs 4 _ (by omega) (by omega) (ZaY HD.out.1 _)).mono ?_;rintro e w2 ⟨x,hx0,hx1,rfl,hd⟩;obtain⟨y,hy⟩:=ZcR w1 w2 G x hx0 hx1 hG hd.2;have HD2:=J (Zaj HD.out (Zbi _ hd));clear hd;go_wp2;go_ret;exact⟨y,rfl,HD2.out⟩
theorem Zkn(G:Nat)(a:Option Addr)(n cap:Nat)(zs:List Int)(w:World)(h:Zfr w G a n cap zs):
  Calls prog 43 #[.pointer (some ⟨G,0,none⟩),I 1,I 9999] w λe w'=>∃x:Int,e=.returned (I x)/\ZG G a n cap zs w w':=by
 have HH:=J h;clear h;go_enter func43,ntmps43
 go_wp2_with fail
 refine(Za1 G a n cap zs 8 _ (by omega) (by omega) HH.out).mono ?_;rintro e w1 ⟨x,hx0,hx1,rfl,hd⟩;have HD:=J hd;clear hd;rcases(show x=0\/x=1\/2<=x by omega) with hx|hx|hx
 ·subst hx;go_wp2;go_ret;exact⟨_,rfl,HD.out⟩
 ·subst hx;go_wp2;go_ret;exact⟨_,rfl,HD.out⟩
 ·go_wp2_with fail
  refine(Zdw G a n cap zs _ HD.out.1).mono ?_;rintro e w2 ⟨y,rfl,hd⟩;have HD2:=J (Zaj HD.out hd);clear hd;go_wp2;go_ret;exact⟨_,rfl,HD2.out⟩
theorem ZgQ(G:Nat)(a:Option Addr)(n cap:Nat)(zs:List Int)(w:World)(h:Zfr w G a n cap zs):
  Calls prog 24 #[.pointer (some ⟨G,0,none⟩),I 1,I 9999] w λe w'=>∃x:Int,e=.returned (I x)/\ZG G a n cap zs w w':=by
 have HH:=J h;clear h;go_enter func24,ntmps24
 go_wp2_with fail
 refine(Zdj G a n cap zs 24 _ (by omega) (by omega) HH.out).mono ?_;rintro e w1 ⟨b,rfl,hd⟩;have HD:=J hd;have hG:=ZdC hd.1;clear hd;cases b
 ·go_wp2_with fail
  refine(Zkn G a n cap zs _ HD.out.1).mono ?_;rintro e w2 ⟨y,rfl,hd⟩;have HD2:=J (Zaj HD.out hd);clear hd;go_wp2;go_ret;exact⟨_,rfl,HD2.out⟩
 ·go_wp2_with fail
  refine(Za1 G a n cap zs 4 _ (by omega) (by omega) (ZaY HD.out.1 _)).mono ?_;rintro e w2 ⟨x,hx0,hx1,rfl,hd⟩;obtain⟨y,hy⟩:=ZcR w1 w2 G x hx0 hx1 hG hd.2;have HD2:=J (Zaj HD.out (Zbi _ hd));clear hd;go_wp2;go_ret;exact⟨y,rfl,HD2.out⟩
theorem Zhv(G:Nat)(a:Option Addr)(n cap:Nat)(zs:List Int)(w:World)(h:Zfr w G a n cap zs):
  Calls prog 43 #[.pointer (some ⟨G,0,none⟩),I (-840),I 840] w λe w'=>∃x:Int,e=.returned (I x)/\ZG G a n cap zs w w':=by
 have HH:=J h;clear h;go_enter func43,ntmps43
 go_wp2_with fail
 refine(Za1 G a n cap zs 8 _ (by omega) (by omega) HH.out).mono ?_;rintro e w1 ⟨x,hx0,hx1,rfl,hd⟩;have HD:=J hd;clear hd;rcases(show x=0\/x=1\/2<=x by omega) with hx|hx|hx
 ·subst hx;go_wp2;go_ret;exact⟨_,rfl,HD.out⟩
 ·subst hx;go_wp2;go_ret;exact⟨_,rfl,HD.out⟩
 ·go_wp2_with fail
  refine(Zdw G a n cap zs _ HD.out.1).mono ?_;rintro e w2 ⟨y,rfl,hd⟩;have HD2:=J (Zaj HD.out hd);clear hd;go_wp2;go_ret;exact⟨_,rfl,HD2.out⟩
theorem Zfp(G:Nat)(a:Option Addr)(n cap:Nat)(zs:List Int)(w:World)(h:Zfr w G a n cap zs):
  Calls prog 24 #[.pointer (some ⟨G,0,none⟩),I (-840),I 840] w λe w'=>∃x:Int,e=.returned (I x)/\ZG G a n cap zs w w':=by
 have HH:=J h;clear h;go_enter func24,ntmps24
 go_wp2_with fail
 refine(Zdj G a n cap zs 24 _ (by omega) (by omega) HH.out).mono ?_;rintro e w1 ⟨b,rfl,hd⟩;have HD:=J hd;have hG:=ZdC hd.1;clear hd;cases b
 ·go_wp2_with fail
  refine(Zhv G a n cap zs _ HD.out.1).mono ?_;rintro e w2 ⟨y,rfl,hd⟩;have HD2:=J (Zaj HD.out hd);clear hd;go_wp2;go_ret;exact⟨_,rfl,HD2.out⟩
 ·go_wp2_with fail
  refine(Za1 G a n cap zs 4 _ (by omega) (by omega) (ZaY HD.out.1 _)).mono ?_;rintro e w2 ⟨x,hx0,hx1,rfl,hd⟩;obtain⟨y,hy⟩:=ZcR w1 w2 G x hx0 hx1 hG hd.2;have HD2:=J (Zaj HD.out (Zbi _ hd));clear hd;go_wp2;go_ret;exact⟨y,rfl,HD2.out⟩
section
variable {w w':World} {R:Nat} {a b c:Int} {f s:Value}
theorem Zc5(h:Rep w R a b c f s):w.cell? ⟨R,0,none⟩=some (.int .u32 a)/\w.cell? ⟨R,1,none⟩=some (.int .i32 b)/\w.cell? ⟨R,2,none⟩=some (.int .u32 c)/\w.cell? ⟨R,3,none⟩=some f/\w.cell? ⟨R,4,none⟩=some s:=by
 have e:∀i,w.cell? ⟨R,i,none⟩=(#[.int .u32 a,.int .i32 b,.int .u32 c,f,s]:Array Value)[i]?:=λi=>by rw[ZO w R i _ _ (0,0) h]
 exact⟨e 0,e 1,e 2,e 3,e 4⟩
theorem Zd1(h:Rep w R a b c f s)(i:Nat):w.frozen? ⟨R,i,none⟩=false:=ZEm w R i _ _ h
end
def Zyl(i:Nat)(j:Nat):Int:=if j<i then (j:Int) else 0
def ZlP(q:Nat)(j:Nat):Int:=if 1<=q/\j=13 then 32 else if 2<=q/\j=10 then 32 else if 3<=q/\j=9 then 32 else (j:Int)
theorem ZpN(i j:Nat):Zyl (i+1) j=if j=i then (i:Int) else Zyl i j:=by
 unfold Zyl;by_cases e:j=i
 ·subst e;simp
 ·rw[Za e];have:(j<i+1)↔(j<i):=by omega
  simp only[this]
def Tab(w:World)(G:Nat)(f:Nat->Int):Prop:=∃cs:Array Value,w.heap[G]?=some (.cells cs 173 (0,0))/\cs.size=256/\∀j,j<256->cs[j]?=some (.int .u8 (f j))
section
variable {w:World} {G:Nat} {f g:Nat->Int}
theorem Ze2(h:Tab w G f)(j:Nat)(hj:j<256):w.cell? ⟨G,j,none⟩=some (.int .u8 (f j)):=by
 obtain⟨cs,h1,h2,h3⟩:=h;rw[ZO w G j _ _ (0,0) h1];exact h3 j hj
theorem Zfb(h:Tab w G f)(j:Nat):w.frozen? ⟨G,j,none⟩=false:=by
 obtain⟨cs,h1,-⟩:=h;exact ZEm w G j _ _ h1
theorem Zjr(h:Tab w G f)(i:Nat)(x:Int)(hi:i<256)(hg:∀j,j<256->g j=if j=i then x else f j):Tab (w.setCell ⟨G,i,none⟩ (.int .u8 x)) G g:=by
 obtain⟨cs,h1,h2,h3⟩:=h;refine⟨_,ZEk w G i _ _ (.int .u8 x) h1,by simp[h2],λj hj=>?_⟩;rw[hg j hj];by_cases e:j=i
 ·subst e;rw[Zd rfl];simp[h2,hi]
 ·rw[Za e];have h9:=h3 j hj;rw[Array.getElem?_setIfInBounds_ne (λh:i=j=>e h.symm)];exact h9
theorem Zsc(h:Tab w G f):G<w.heap.size:=by
 obtain⟨cs,h1,-⟩:=h;exact(Array.getElem?_eq_some_iff.1 h1).1
theorem Zsp(h:Tab w G f)(hg:∀j,j<256->g j=f j):Tab w G g:=by
 obtain⟨cs,h1,h2,h3⟩:=h;exact⟨cs,h1,h2,λj hj=>by rw[hg j hj];exact h3 j hj⟩
end
theorem Zt9(w:World)(cs:Array Value)(h1:cs.size=256)(h2:∀j,j<256->cs[j]?=some (.int .u8 0)):Tab (w.alloc (.cells cs 173)) w.heap.size (Zyl 0):=⟨cs,Zz w _,h1,λj hj=>by rw[h2 j hj];rfl⟩
def zB:Array Value:=Array.replicate 256 (.int .u8 0)
theorem Zq1:(prog.info? 173).map (λi=>(i.zero,i.size))=some (some (.agg zB),256):=by kernel_rfl
theorem ZyA:∀w,(zeroValue 173).run prog w=.ok (.agg zB) w:=(zero_of_info Zq1).1
theorem ZqQ:zB.size=256:=by simp[zB]
theorem ZCk(j:Nat)(h:j<256):zB[j]?=some (.int .u8 0):=by simp[zB,Array.getElem?_replicate,h]
theorem ZzW:zB.all (·.oneCell')=true:=by kernel_rfl
theorem ZyR(R g cap:Nat)(B:Nat)(w:World)(hR:Rep w R 0 1 0 .nilIface (.slice (some ⟨g,0,none⟩) 6 cap))(ho:w.ownsRow B 9 1 (.slice (some ⟨g,0,none⟩) 6 cap) 6 ZpJ):
  Calls prog 116 #[.pointer (some ⟨R,0,none⟩)] w λe w'=>e=.returned (.iface 174 (.pointer (some ⟨w.heap.size,0,none⟩)))/\Tab w' w.heap.size (ZlP 3)/\ZL w w':=by
 obtain⟨r0,r1,r2,r3,r4⟩:=Zc5 hR;have hg:=(ho.lt g rfl).2;have c0:w.cell? ⟨g,0,none⟩=some (.string ⟨#[9]⟩):=ho.cellAt 0 (by omega);have c1:w.cell? ⟨g,1,none⟩=some (.string ⟨#[32]⟩):=ho.cellAt 1 (by omega);have c2:w.cell? ⟨g,2,none⟩=some (.string ⟨#[10]⟩):=ho.cellAt 2 (by omega);have c3:w.cell? ⟨g,3,none⟩=some (.string ⟨#[32]⟩):=ho.cellAt 3 (by omega);have c4:w.cell? ⟨g,4,none⟩=some (.string ⟨#[13]⟩):=ho.cellAt 4 (by omega);have c5:w.cell? ⟨g,5,none⟩=some (.string ⟨#[32]⟩):=ho.cellAt 5 (by omega);clear hR ho;go_enter func116,ntmps116
 go_wp2_with fail
 go_loopw [4,5] (λv4 v5 wr=>∃i:Nat,i<=3/\v4=.bool true/\v5=I (2*(i:Int))/\wr=w) (λ_ v5 _=>6-(Zi v5).toNat)
 case atStart=>exact⟨0,by omega,rfl,rfl,rfl⟩
 case round=>
  obtain⟨i,hi,rfl,rfl,hw⟩:=hrel;rw[hw];clear hw;by_cases hlt:i<3
  ·rcases(show i=0\/i=1\/i=2 by omega) with e|e|e
   all_goals
    subst e;go_wp2
    go_roundw
    case rel=>first|exact⟨1,by omega,rfl,rfl,by first|rfl|trivial⟩|exact⟨2,by omega,rfl,rfl,by first|rfl|trivial⟩|exact⟨3,by omega,rfl,rfl,by first|rfl|trivial⟩
    case measure=>simp[Zi]
  ·have e:i=3:=by omega
   subst e;have hz:=ZyA;have hsz:(prog.info? 173).map (·.size)=some zB.size:=by rw[ZqQ];exact(zero_of_info Zq1).2
   have HT0:=J (Zt9 w zB ZqQ ZCk);have HB0:Hid (ZL w (w.alloc (.cells zB 173))):=J ((Ze _ _).alloc (Zb _) _);have HC:=J (And.intro hg (And.intro c0 (And.intro c1 (And.intro c2 (And.intro c3 (And.intro c4 c5))))));clear c0 c1 c2 c3 c4 c5 hg r0 r1 r2 r3 r4;go_wp2_with (refine wpList_store_row rfl 173 _ _ rfl w.heap.size zB rfl rfl 173 _ (Zz w _) hsz rfl ZzW ?_;rw[World.setRow_alloc_new])
   go_loopw [7,61] (λv7 v61 wx=>∃i:Nat,i<=256/\v61=I i/\Hid (Tab wx w.heap.size (Zyl i))/\Hid (ZL w wx)) (λ_ v61 _=>256-(Zi v61).toNat)
   case atStart=>exact⟨0,by omega,rfl,HT0,HB0⟩
   case round=>
    clear HT0 HB0;obtain⟨i,hi,rfl,HT,HB⟩:=hrel;by_cases hlt:i<256
    ·have hii:(i:Int)<256:=(by omega);have ci:=Ze2 HT.out i hlt;have fi:=Zfb HT.out i;have hw8:IntKind.u8.wrap (i:Int)=(i:Int):=by
      unfold IntKind.wrap;rw[show IntKind.u8.signed=false from rfl,show IntKind.u8.bits=8 from rfl];simp;omega
     have HT2:=J (Zjr (g:=Zyl (i+1)) HT.out i (i:Int) hlt (λj _=>ZpN i j));have HB2:=J (HB.out.setCell (p:=⟨w.heap.size,i,none⟩) (Zb _) (.int .u8 (i:Int)));go_wp2
     go_roundw
     case rel=>exact⟨i+1,by omega,by go_num,HT2,HB2⟩
     case measure=>simp[Zi];omega
    ·have e:i=256:=(by omega);subst e;have HTP:Hid (Tab wr w.heap.size (ZlP 0)):=J (Zsp HT.out (λj hj=>by unfold Zyl ZlP;simp[hj]));clear HT;go_wp2_with fail
     go_loopw [8,9,10] (λv8 v9 v10 wx=>∃q:Nat,q<=3/\v8=I (4-2*(q:Int))/\Hid (Tab wx w.heap.size (ZlP q))/\Hid (ZL w wx)) (λv8 _ _ _=>(Zi v8+2).toNat)
     case atStart=>exact⟨0,by omega,rfl,HTP,HB⟩
     case round=>
      clear HTP HB;obtain⟨q,hq,rfl,HT,HB⟩:=hrel;obtain⟨hg,c0,c1,c2,c3,c4,c5⟩:=HC.out;have d0:=(HB.out.cell (p:=⟨g,0,none⟩) hg).trans c0;have d1:=(HB.out.cell (p:=⟨g,1,none⟩) hg).trans c1;have d2:=(HB.out.cell (p:=⟨g,2,none⟩) hg).trans c2;have d3:=(HB.out.cell (p:=⟨g,3,none⟩) hg).trans c3;have d4:=(HB.out.cell (p:=⟨g,4,none⟩) hg).trans c4;have d5:=(HB.out.cell (p:=⟨g,5,none⟩) hg).trans c5;clear c0 c1 c2 c3 c4 c5;have x13:∀W:World,(Instr.index 9 (.string ⟨#[13]⟩) (I 0)).run prog W=.ok (.int .u8 13) W:=λW=>by rfl
      have x10:∀W:World,(Instr.index 9 (.string ⟨#[10]⟩) (I 0)).run prog W=.ok (.int .u8 10) W:=λW=>by rfl
      have x9:∀W:World,(Instr.index 9 (.string ⟨#[9]⟩) (I 0)).run prog W=.ok (.int .u8 9) W:=λW=>by rfl
      have x32:∀W:World,(Instr.index 9 (.string ⟨#[32]⟩) (I 0)).run prog W=.ok (.int .u8 32) W:=λW=>by rfl
      rcases(show q=0\/q=1\/q=2\/q=3 by omega) with e|e|e|e
      ·subst e;have ci:=Ze2 HT.out 13 (by omega);have fi:=Zfb HT.out 13;have HT2:=J (Zjr (g:=ZlP 1) HT.out 13 32 (by omega) (λj hj=>by unfold ZlP;by_cases e:j=13<;>simp[e]));have HB2:=J (HB.out.setCell (p:=⟨w.heap.size,13,none⟩) (Zb _) (.int .u8 32));go_wp2
       go_roundw
       case rel=>exact⟨1,by omega,rfl,HT2,HB2⟩
       case measure=>simp[Zi]
      ·subst e;have ci:=Ze2 HT.out 10 (by omega);have fi:=Zfb HT.out 10;have HT2:=J (Zjr (g:=ZlP 2) HT.out 10 32 (by omega) (λj hj=>by unfold ZlP;by_cases e:j=13<;>by_cases e2:j=10<;>simp[e,e2]));have HB2:=J (HB.out.setCell (p:=⟨w.heap.size,10,none⟩) (Zb _) (.int .u8 32));go_wp2
       go_roundw
       case rel=>exact⟨2,by omega,rfl,HT2,HB2⟩
       case measure=>simp[Zi]
      ·subst e;have ci:=Ze2 HT.out 9 (by omega);have fi:=Zfb HT.out 9;have HT2:=J (Zjr (g:=ZlP 3) HT.out 9 32 (by omega) (λj hj=>by unfold ZlP;by_cases e:j=13<;>by_cases e2:j=10<;>by_cases e3:j=9<;>simp[e,e2,e3]));have HB2:=J (HB.out.setCell (p:=⟨w.heap.size,9,none⟩) (Zb _) (.int .u8 32));go_wp2
       go_roundw
       case rel=>exact⟨3,by omega,rfl,HT2,HB2⟩
       case measure=>simp[Zi]
      ·subst e;go_wp2;go_ret;exact⟨rfl,HT.out,HB.out⟩
def Zs1(w:World)(b off len:Nat)(K A B:Nat->Int):Prop:=∀j,j<len->w.cell? ⟨b,off+j*7,none⟩=some (I (K j))/\w.cell? ⟨b,off+j*7+3,none⟩=some (I (A j))/\w.cell? ⟨b,off+j*7+4,none⟩=some (I (B j))
def ZeA(K:Nat->Int)(j:Nat):Bool:=decide (K j=3\/K j=4)
def ZgD(K:Nat->Int)(j:Nat):Bool:=decide (K j=5)
def trI(K A B:Nat->Int)(n:Nat):Int:=match tr (ZeA K) (ZgD K) A B n with|some f=>(f:Int)|none => -1
theorem ZAl(K A B:Nat->Int)(n:Nat):trI K A B n<=n:=by
 unfold trI;cases h:tr (ZeA K) (ZgD K) A B n with
 |none=>show(-1:Int)<=n;omega
 |some f=>have:=Ziq _ _ _ _ h;show(f:Int)<=n;omega
theorem ZzT(K A B:Nat->Int)(n:Nat): -1<=trI K A B n:=by
 unfold trI;cases h:tr (ZeA K) (ZgD K) A B n with
 |none=>show(-1:Int)<=-1;omega
 |some f=>show(-1:Int)<=f;omega
theorem ZgF{a b:Int}(h:a=b):Ending.returned (I a)=.returned (I b):=by rw[h]
theorem Zw9{K A B:Nat->Int}{n:Nat}(h:K n=3\/K n=4):trI K A B n=if n=0\/B n≠(n:Int)-1 then -1 else if trI K A B (n-1)<1\/A n≠trI K A B (n-1)-1 then -1 else trI K A B (trI K A B (n-1)-1).toNat:=by
 have h2:ZeA K n=true:=Zh h
 conv=>lhs;unfold trI
 rw[Zh6 _ _ _ _ h2];by_cases h0:n=0\/B n≠(n:Int)-1
 ·rw[Zd h0,Zd h0]
 ·rw[Za h0,Za h0];cases hr:tr (ZeA K) (ZgD K) A B (n-1) with
  |none=>
   have e:trI K A B (n-1) = -1:=by unfold trI;rw[hr]
   rw[e,Zd (by omega)]
  |some c=>
   have e:trI K A B (n-1)=c:=by unfold trI;rw[hr]
   rw[e];dsimp only;by_cases h1:c=0\/A n≠(c:Int)-1
   ·rw[Zd h1,Zd (by omega)]
   ·rw[Za h1,Za (by omega),show((c:Int)-1).toNat=c-1 by omega];rfl
theorem Zyw{K A B:Nat->Int}{n:Nat}(h:K n=5):trI K A B n=if n=0\/A n≠(n:Int)-1 then -1 else trI K A B (n-1):=by
 have h2:¬ZeA K n=true:=by unfold ZeA;simp;omega
 have h3:ZgD K n=true:=Zh h
 conv=>lhs;unfold trI
 rw[Zh9 _ _ _ _ h2 h3];by_cases h0:n=0\/A n≠(n:Int)-1
 ·rw[Zd h0,Zd h0]
 ·rw[Za h0,Za h0];rfl
theorem Ztq{K A B:Nat->Int}{n:Nat}(h:¬(K n=3\/K n=4))(h':¬K n=5):trI K A B n=n:=by
 unfold trI;rw[Zic _ _ _ _ (by unfold ZeA;simpa using h) (by unfold ZgD;simpa using h')]
theorem ZiH(v:Value)(w:World):Calls prog 183 #[v,I (-1)] w λe w'=>e=.returned (I (-1))/\w'=w:=by
 go_enter func183,ntmps183
 go_wp2;go_ret;exact⟨rfl,rfl⟩
theorem Zwt(b off len cap:Nat)(K A B:Nat->Int)(w:World)(hlen:len<=1048576)(hN:Zs1 w b off len K A B):∀(m n:Nat),n<m->n<len->
  Calls prog 183 #[.slice (some ⟨b,off,none⟩) len cap,I n] w λe w'=>e=.returned (I (trI K A B n))/\w'=w
 |0,n,hm,hn=>by omega
 |m+1,n,hm,hn=>by
  have IH:Hid (∀k:Nat,k<m->k<len->Calls prog 183 #[.slice (some ⟨b,off,none⟩) len cap,I k] w λe w'=>e=.returned (I (trI K A B k))/\w'=w):=J (λk hk hl=>Zwt b off len cap K A B w hlen hN m k hk hl);obtain⟨c0,c3,c4⟩:=hN n hn;have hi:(n:Int)<(len:Int):=by omega
  have hi0:(0:Int)<=(n:Int):=by omega
  have hi1:¬(n:Int)<0:=by omega
  obtain⟨x,hx⟩:=ZX (K n);obtain⟨y,hy⟩:=ZX (A n);obtain⟨z,hz⟩:=ZX (B n);rw[hx]at c0;rw[hy]at c3;rw[hz]at c4;by_cases h2:K n=3\/K n=4
  ·have HE:=J (Zw9 (A:=A) (B:=B) h2);by_cases hb:z=(n:Int)-1
   ·by_cases h0:n=0
    ·subst h0;simp only[Nat.zero_mul,Nat.add_zero]at c0 c3 c4;have HR:Hid (trI K A B 0 = -1):=J (by rw[HE.out,Zd (.inl rfl)]);subst hb;rcases h2 with h2|h2
     all_goals
      rw[hx]at h2;subst h2;clear HE hx hy hz;go_enter func183,ntmps183
      go_wp2_with fail
      refine Zc (ZiH _ _) ?_;go_wp2;go_ret;exact⟨ZgF (by rw[HR.out]),rfl⟩
    ·have t1:=ZAl K A B (n-1);have t2:=ZzT K A B (n-1);obtain⟨t,ht⟩:=ZX (trI K A B (n-1));rw[ht]at t1 t2;have HE2:Hid (trI K A B n=if t<1\/y≠t-1 then -1 else trI K A B (t-1).toNat):=J (by rw[HE.out,Za (by rw[hz];omega),ht,hy]);have HTT:=J ht;have hb2:(z != (n:Int)-1)=false:=(by simp;omega);subst hb;rcases h2 with h2|h2
     all_goals
      rw[hx]at h2;subst h2;clear HE hx hy hz ht;go_enter func183,ntmps183
      go_wp2_with fail
      rw[show((n:Int)-1)=((n-1:Nat):Int) by omega];refine Zc (IH.out (n-1) (by omega) (by omega)) ?_;rw[HTT.out];by_cases q1:t<1
      ·go_wp2;go_ret;exact⟨ZgF (HE2.out.trans (Zd (.inl q1))).symm,rfl⟩
      ·by_cases q2:y=t-1
       ·have q3:(y != t-1)=false:=(by simp;omega);have HK:=J (IH.out (t-1).toNat (by omega) (by omega));have HF:Hid (trI K A B n=trI K A B (t-1).toNat):=J (by rw[HE2.out,Za (by omega)]);go_wp2_with fail
        rw[show t-1=(((t-1).toNat:Nat):Int) by omega];refine Zc HK.out ?_;go_wp2;go_ret;exact⟨ZgF (by rw[HF.out,show t.toNat-1=(t-1).toNat by omega]),rfl⟩
       ·have q3:(y != t-1)=true:=(by simp;omega);go_wp2;go_ret;exact⟨ZgF (HE2.out.trans (Zd (.inr q2))).symm,rfl⟩
   ·have HR:Hid (trI K A B n = -1):=J (by rw[HE.out,Zd (.inr (by rw[hz];exact hb))]);have hb2:(z != (n:Int)-1)=true:=(by simp;omega);rcases h2 with h2|h2
    all_goals
     rw[hx]at h2;subst h2;clear HE hx hy hz;go_enter func183,ntmps183
     go_wp2;go_ret;exact⟨ZgF (by rw[HR.out]),rfl⟩
  ·by_cases h5:K n=5
   ·have HE:=J (Zyw (A:=A) (B:=B) h5);rw[hx]at h5;subst h5;by_cases hb:y=(n:Int)-1
    ·by_cases h0:n=0
     ·subst h0;simp only[Nat.zero_mul,Nat.add_zero]at c0 c3 c4;have HR:Hid (trI K A B 0 = -1):=J (by rw[HE.out,Zd (.inl rfl)]);subst hb;clear HE hx hy hz h2;go_enter func183,ntmps183
      go_wp2_with fail
      refine Zc (ZiH _ _) ?_;go_wp2;go_ret;exact⟨ZgF (by rw[HR.out]),rfl⟩
     ·have HR:Hid (trI K A B n=trI K A B (n-1)):=J (by rw[HE.out,Za (by rw[hy];omega)]);have hb2:(y != (n:Int)-1)=false:=(by simp;omega);subst hb;clear HE hx hy hz h2;go_enter func183,ntmps183
      go_wp2_with fail
      rw[show((n:Int)-1)=((n-1:Nat):Int) by omega];refine Zc (IH.out (n-1) (by omega) (by omega)) ?_;go_wp2;go_ret;exact⟨ZgF (by rw[HR.out]),rfl⟩
    ·have HR:Hid (trI K A B n = -1):=J (by rw[HE.out,Zd (.inr (by rw[hy];exact hb))]);have hb2:(y != (n:Int)-1)=true:=(by simp;omega);clear HE hx hy hz h2;go_enter func183,ntmps183
     go_wp2;go_ret;exact⟨ZgF (by rw[HR.out]),rfl⟩
   ·have HR:=J (Ztq (A:=A) (B:=B) h2 h5);have n3:(x==3)=false:=(by rw[<-hx];simp;omega);have n4:(x==4)=false:=(by rw[<-hx];simp;omega);have n5:(x==5)=false:=(by rw[<-hx];simp;omega);clear h2 h5 hx hy hz;go_enter func183,ntmps183
    go_wp2;go_ret;exact⟨ZgF (by rw[HR.out]),rfl⟩
end
def Z7:Nat->Nat->Nat×Nat
 |v,0=>(v,0)
 |v,c+1=>if v%10=0 then Z7 (v/10) c else (v,c+1)
theorem ZqZ(v c:Nat):Z7 (10*v) (c+1)=Z7 v c:=by
 rw[Z7,Zd (by omega),show 10*v/10=v by omega]
theorem ZiA(v c:Nat)(h:c=0\/v%10≠0):Z7 v c=(v,c):=by
 cases c with
 |zero=>rfl
 |succ c=>rw[Z7,Za (by omega)]
theorem ZiV:∀c,Z7 0 c=(0,0)
 |0=>rfl
 |c+1=>by rw[Z7,Zd (by omega)];exact ZiV c
def Zfj(v:Nat):List UInt8:=if _h:v=0 then [] else Zfj (v/10)++[UInt8.ofNat (48+v%10)]
 termination_by v
 decreasing_by omega
theorem ZrE(v d:Nat)(hd:d<=9)(h:0<10*v+d):Zfj (10*v+d)=Zfj v++[UInt8.ofNat (48+d)]:=by
 rw[Zfj,dif_neg (by omega),show(10*v+d)/10=v by omega,show(10*v+d)%10=d by omega]
theorem ZeU(l:List UInt8)(c:UInt8):Zw (l++[c])=10*Zw l+dgt c:=by
 rw[Zhd];simp[Zw];omega
def Zev(t:List UInt8):Prop:=∀c l,t=c::l->c.toNat≠48
theorem ZiY{t:List UInt8}(hd:dgL t)(h:Zev t)(hne:t≠[]):0<Zw t:=by
 cases t with
 |nil=>exact absurd rfl hne
 |cons c l=>
  have h1:=h c l rfl;have h2:=hd c ZDH;rw[Zb1];have h3:1<=dgt c:=by unfold dgt;omega
  have h4:=Nat.mul_le_mul_right (10^l.length) h3;have:=ZfQ l.length;omega
theorem Zn8:∀(k:Nat) (t:List UInt8),t.length=k->dgL t->Zev t->Zfj (Zw t)=t
 |0,t,hk,_,_=>by
  have:t=[]:=List.length_eq_zero_iff.1 hk;subst this;rw[ZnI,Zfj,dif_pos rfl]
 |k+1,t,hk,hd,hn=>by
  rcases List.eq_nil_or_concat t with rfl|⟨u,c,rfl⟩
  ·simp at hk
  ·rw[List.concat_eq_append]at *
   have hl:u.length=k:=by simpa using hk
   have hc:=hd c (by simp);have hu:dgL u:=λe he=>hd e (by simp[he])
   have hnu:Zev u:=λe l he=>hn e (l++[c]) (by rw[he];rfl)
   have hpos:0<10*Zw u+dgt c:=by
    have:=ZiY hd hn (by simp);rw[ZeU]at this;exact this
   have hdc:dgt c<=9:=by unfold dgt;omega
   rw[ZeU,ZrE _ _ hdc hpos,Zn8 k u hl hu hnu];congr 2;apply UInt8.toNat_inj.1;rw[UInt8.toNat_ofNat'];unfold dgt;omega
def Za5(n:Bool)(v c:Nat):Bool×ZB×Int×Bool:=
 if (Z7 v c).1=0 then (false,ByteArray.empty,0,true)
 else if (Zfj (Z7 v c).1).length<=60/\(Z7 v c).2<=60 then (n,⟨(Zfj (Z7 v c).1).toArray⟩,((Z7 v c).2:Int),true)
 else (false,ByteArray.empty,0,false)
theorem ZA8{t:List UInt8}(h:∀u c,t=u++[c]->c.toNat≠48)(hd:dgL t)(hne:t≠[]):Zw t%10≠0:=by
 rcases List.eq_nil_or_concat t with rfl|⟨u,c,rfl⟩
 ·exact absurd rfl hne
 ·rw[List.concat_eq_append]at *
  have h1:=h u c rfl;have h2:=hd c (by simp);rw[ZeU];have h3:1<=dgt c:=by unfold dgt;omega
  have h4:dgt c<=9:=by unfold dgt;omega
  omega
theorem ZbT(n:Bool)(t:ZB)(k v c:Nat)(hd:dgL t.data.toList)(hn:Zev t.data.toList)(hl:k=0\/t.size=0\/∀u c,t.data.toList=u++[c]->c.toNat≠48)
  (hv:Z7 (Zw t.data.toList) k=Z7 v c):
  Za5 n v c=if t.size=0 then (false,ByteArray.empty,0,true) else if ZP n t (k:Int)=true then (n,t,(k:Int),true) else (false,ByteArray.empty,0,false):=by
 by_cases h0:t.size=0
 ·have e:t.data.toList=[]:=by apply List.length_eq_zero_iff.1;simpa using h0
  rw[e,ZnI,ZiV]at hv;unfold Za5;rw[<-hv,Zd rfl,Zd h0]
 ·have hne:t.data.toList≠[]:=λe=>h0 (by simpa using Zn List.length e)
  have hp:=ZiY hd hn hne;have hst:Z7 (Zw t.data.toList) k=(Zw t.data.toList,k):=by
   apply ZiA;rcases hl with h|h|h
   ·exact .inl h
   ·exact absurd h h0
   ·exact .inr (ZA8 h hd hne)
  rw[hst]at hv;have hdig:=Zn8 _ _ rfl hd hn;have hB:ZP n t (k:Int)=decide (t.size<=60/\k<=60):=by
   have hdg:Zr t=true:=Zdr t (λj h=>by
    have:=hd t[j] (by have:t[j]=t.data.toList[j]'(by simpa using h):=rfl;rw[this];exact ZD3 _);simp only[Z0,Z6];omega)
   by_cases hs:t.size<=60
   ·by_cases hk:k<=60
    ·rw[ZeT n t k (by omega) hs hdg (by omega) (by omega)];have hf:(t[0].toNat:Int)≠48:=by
      cases hq:t.data.toList with
      |nil=>exact absurd hq hne
      |cons a l=>
       have:=hn a l hq;have e2:t.data.toList[0]?=some t[0]:=Zv (by simp;omega);rw[hq]at e2;have e5:a=t[0]:=Option.some.inj e2;rw[<-e5];omega
     have hla:k=0\/(t[t.size-1].toNat:Int)≠48:=by
      rcases hl with h|h|h
      ·exact .inl h
      ·exact absurd h h0
      ·right;have e3:t.data.toList.length-1<t.data.toList.length:=(by have:=List.length_pos_iff.2 hne;omega);have:=h (t.data.toList.dropLast) (t.data.toList[t.data.toList.length-1]) (by rw[<-List.getLast_eq_getElem hne];exact(List.dropLast_concat_getLast hne).symm);have e4:t[t.size-1]=t.data.toList[t.data.toList.length-1]:=by
        have:t[t.size-1]=t.data.toList[t.size-1]'(by simp;omega):=rfl;rw[this];congr 1
       rw[e4];omega
     rw[Zh (show t.size<=60/\k<=60 from⟨hs,hk⟩),Zh hf];rcases hla with h|h
     ·simp[h]
     ·simp[h]
    ·rw[Zgh n t k (by omega)];simp;omega
   ·rw[Zij n t k (by omega)];simp;omega
  unfold Za5;rw[<-hv,Za (by show ¬Zw t.data.toList=0;omega),Za h0,hB];simp only[hdig];have hsz:t.data.toList.length=t.size:=by simp
  by_cases h:t.size<=60/\k<=60
  ·rw[Zd (by rw[hsz];exact h),Zd (by simpa using h)]
  ·rw[Za (by rw[hsz];exact h),Za (by simpa using h)]
theorem ZaQ(t:ZB)(a b:Nat):(t.extract a b).data.toList=(t.data.toList.drop a).take (b-a):=by
 simp[ByteArray.data_extract,Array.toList_extract,List.extract]
theorem Zf2(t:ZB)(h:0<t.size):t.data.toList=t.data.toList.take (t.size-1)++[t[t.size-1]]:=by
 have hl:t.data.toList.length=t.size:=by simp
 have:=List.take_succ_eq_append_getElem (l:=t.data.toList) (show t.size-1<t.data.toList.length by omega);rw[show t.size-1+1=t.data.toList.length by omega,List.take_length]at this;exact this
theorem ZhV(t:ZB)(h:0<t.size):t.data.toList=t[0]::t.data.toList.drop 1:=by
 have hl:t.data.toList.length=t.size:=by simp
 have:=List.drop_eq_getElem_cons (l:=t.data.toList) (i:=0) (by omega);rw[List.drop_zero]at this;exact this
theorem Zm8(t:ZB)(k:Nat)(v c:Nat)(h:0<t.size)(hk:0<k)(hd:dgL t.data.toList)(hz:(t[t.size-1].toNat:Int)=48)(hv:Z7 (Zw t.data.toList) k=Z7 v c):
  dgL (t.extract 0 (t.size-1)).data.toList/\Z7 (Zw (t.extract 0 (t.size-1)).data.toList) (k-1)=Z7 v c:=by
 have e:=Zf2 t h;have e1:(t.extract 0 (t.size-1)).data.toList=t.data.toList.take (t.size-1):=by rw[ZaQ];simp
 rw[e1];refine⟨λx hx=>hd x (List.mem_of_mem_take hx),?_⟩;rw[<-hv]
 conv=>rhs;rw[e]
 rw[ZeU,show dgt t[t.size-1]=0 by unfold dgt;omega,Nat.add_zero,show k=(k-1)+1 by omega,ZqZ];congr 1
theorem ZhR(t:ZB)(h:0<t.size)(hd:dgL t.data.toList)(hz:(t[0].toNat:Int)=48):
  dgL (t.extract 1 t.size).data.toList/\Zw (t.extract 1 t.size).data.toList=Zw t.data.toList/\((∀u c,t.data.toList=u++[c]->c.toNat≠48)->(t.extract 1 t.size).size=0\/∀u c,(t.extract 1 t.size).data.toList=u++[c]->c.toNat≠48):=by
 have e:=ZhV t h;have hl:t.data.toList.length=t.size:=by simp
 have e1:(t.extract 1 t.size).data.toList=t.data.toList.drop 1:=by rw[ZaQ,ZD2 (by rw[ZDC];omega)]
 rw[e1];refine⟨λx hx=>hd x (List.mem_of_mem_drop hx),?_,λhlast => .inr λu c hu=>hlast (t[0]::u) c (by rw[e,hu];rfl)⟩
 conv=>rhs;rw[e]
 rw[Zb1,show dgt t[0]=0 by unfold dgt;omega];omega
theorem Zms(t:ZB)(h:0<t.size)(hz:¬(t[t.size-1].toNat:Int)=48):∀u c,t.data.toList=u++[c]->c.toNat≠48:=by
 intro u c hu;have e:=Zf2 t h;rw[hu]at e;have:=(List.append_inj' e rfl).2;have h2:c=t[t.size-1]:=by simpa using this
 rw[h2];omega
theorem Zem(t:ZB)(h:t.size=0\/∃h:0<t.size,¬(t[0].toNat:Int)=48):Zev t.data.toList:=by
 intro c l hc;rcases h with h|⟨h,hz⟩
 ·have hl:t.data.toList.length=t.size:=by simp
  rw[hc]at hl;simp at hl;omega
 ·have e:=ZhV t h;rw[hc]at e;have h2:c=t[0]:=by simpa using (List.cons.inj e).1
  rw[h2];omega
section
open Go.RowKit
theorem ZgI{B:Nat}{a w:World}(h:Below B a w)(n:Nat):Below B a (w.drewN n):=h.trans ⟨rfl,rfl,rfl,Zb _,λ_ _=>rfl⟩
def Zf4:Value->Nat|.string s=>s.size|_=>0
theorem Zyo(n:Bool)(s:ZB)(c:Int)(w:World)(hs:s.size<=maxLen):Calls prog 105 #[.agg #[.bool n,.string s,I c]] w λe w'=>e=.returned (.string (ZeV n s c))/\ZL w w':=by
 have HS:=J hs;unfold maxLen at hs;cases hd:ZP n s c
 ·go_enter func105,ntmps105
  go_wp2_with fail
  refine ZM (ZcL n s c _ HS.out) ?_;rintro w1 hb1;have HB1:=J (ZaA hb1);clear hb1;go_wp2;go_ret;exact⟨ZeH (by simp[ZeV,hd];rfl),HB1.out⟩
 ·obtain⟨hd1,hd2,hd3⟩:=Zbm hd;have HD:=J hd;go_enter func105,ntmps105
  go_wp2_with fail
  refine ZM (ZcL n s c _ HS.out) ?_;rintro w1 hb1;have HB1:=J (ZaA hb1);obtain⟨k0,k1,k2,k3⟩:=ZaC (Zbc w n s c _) hb1;clear hb1 k0;go_wp2
  go_loop [3] (λv=>∃(k:Nat) (t:ZB),v=.string t/\t.size<=200/\Hid (t.size=k+s.size)/\Hid ((k:Int)<=(c+1-s.size).toNat)/\Hid (t=ZbK k++s)) (λv=>(c+1-Zf4 v).toNat)
  case atStart=>exact⟨0,s,rfl,by omega,J (by omega),J (by omega),J (by rw[Zel];simp)⟩
  case round=>
   obtain⟨k,t,rfl,ht,HK,HK2,HT⟩:=hrel;by_cases hlt:(t.size:Int)<=c
   ·have hz:=Zje k s;rw[<-HT.out]at hz;have HZ:=J hz;clear hz;go_wp2
    go_round
    case rel=>exact⟨k+1,_,rfl,by rw[HZ.out];simp[Zeh];have:=HK.out;omega,J (by rw[HZ.out];simp[Zeh]),J (by have:=HK.out;have:=HK2.out;omega),HZ⟩
    case measure=>simp[Zf4,Z5];have:(⟨#[48]⟩:ZB).size=1:=rfl;omega
   ·have hp:t=Zgf s c:=by
     have h1:=HK.out;have h2:=HK2.out;have hkk:k=(c+1-s.size).toNat:=(by omega);rw[HT.out,hkk];rfl
    have HP:=J hp;clear hp;have hlt2:c<(t.size:Int):=(by omega);clear hlt;rcases(show c<=0\/1<=c by omega) with hc|hc
    ·cases n;all_goals
      go_wp2;go_ret;exact⟨ZeH (by simp[ZeV,HD.out,Zda,<-HP.out];omega),HB1.out⟩
    ·have hi0:(0:Int)<=(t.size:Int)-c:=(by omega);have hi1:(t.size:Int)-c<=(t.size:Int):=(by omega);have hwr:IntKind.i64.wrap ((t.size:Int)-c)=(t.size:Int)-c:=(by rw[ZY];omega);have hnc:¬c=0:=(by omega);have htn:((t.size:Int)-c).toNat=t.size-c.toNat:=(by omega);have HN:=J hnc;have HTN:=J htn;clear hnc htn;cases n;all_goals
      go_wp2;go_quiet (fail)
      go_wp2;go_ret;exact⟨ZeH (by rw[ZeV,Zd HD.out,Zda,Za HN.out,<-HP.out,ZbL,<-HTN.out];rfl),ZgI HB1.out _⟩
def ZlK:Value->Nat|.string s=>s.size|_=>0
theorem Zcn:(⟨#[48]⟩:ZB).size=1:=rfl
theorem ZBb(k:Nat)(c:Int):c+(k:Int)+1=c+((k+1:Nat):Int):=by omega
theorem ZtQ(n m:Bool)(s t:ZB)(c d:Int)(w:World)(hs:s.size<=60)(ht:t.size<=60)(hc0:0<=c)(hc1:c<=60)(hd0:0<=d)(hd1:d<=60)(hcd:c<d):
  Calls prog 218 #[.agg #[.bool n,.string s,I c],.agg #[.bool m,.string t,I d]] w λe w'=>
   ∃x y:ZB,x.size=y.size/\x.size<=200/\Zct x s (d-c).toNat/\Zct y t (d-d).toNat/\e=.returned (.tuple #[.string x,.string y,I d])/\ZL w w':=by
 go_enter func218,ntmps218
 go_wp2
 go_loop [7,10] (λvx vi=>∃(k:Nat) (x:ZB),vx=.string x/\vi=I (c+k)/\c+k<=d/\x.size<=130/\Hid (x.size=s.size+k)/\Hid (x=s++ZbK k)) (λ_ vi=>(d-Zi vi).toNat)
 case atStart=>exact⟨0,s,rfl,by simp,by omega,by omega,J (by omega),J (by rw[Zel];simp)⟩
 case round=>
  obtain⟨k,x,rfl,rfl,hk,hx,HX,HXE⟩:=hrel;by_cases hlt:c+k<d
  ·have hz:=Zlq s k;rw[<-HXE.out]at hz;have HZ:=J hz;clear hz;go_wp2
   go_round
   case rel=>exact⟨k+1,_,rfl,by rw[ZBb],by omega,by rw[Z5,Zcn,HX.out];omega,J (by rw[Z5,Zcn,HX.out];omega),HZ⟩
   case measure=>simp[Zi];omega
  ·have hkk:k=(d-c).toNat:=by omega
   have HP:Hid (Zct x s (d-c).toNat):=J (by rw[HXE.out,hkk];exact ZdF s _);clear hkk;go_wp2
   go_loop [8,11] (λvx vi=>∃(j:Nat) (y:ZB),vx=.string y/\vi=I (d+j)/\d+j<=d/\y.size<=130/\Hid (y.size=t.size+j)/\Hid (y=t++ZbK j)) (λ_ vi=>(d-Zi vi).toNat)
   case atStart=>exact⟨0,t,rfl,by simp,by omega,by omega,J (by omega),J (by rw[Zel];simp)⟩
   case round=>
    obtain⟨j,y,rfl,rfl,hj,hy,HY,HYE⟩:=hrel;by_cases hlt2:d+j<d
    ·omega
    ·have hjj:j=(d-d).toNat:=(by omega);have HQ:Hid (Zct y t (d-d).toNat):=J (by rw[HYE.out,hjj];exact ZdF t _);clear hjj;go_wp2
     go_loop [7] (λvx=>∃x:ZB,vx=.string x/\x.size<=130/\Hid (Zct x s (d-c).toNat)) (λvx=>y.size-ZlK vx)
     case atStart=>exact⟨x,rfl,hx,HP⟩
     case round=>
      clear HP;obtain⟨z,rfl,hz,HP⟩:=hrel;by_cases hl3:z.size<y.size
      ·go_wp2
       go_round
       case rel=>exact⟨_,rfl,by rw[Z5,Zcn];omega,J (Zep HP.out)⟩
       case measure=>simp[ZlK,Z5];rw[Zcn];omega
      ·go_wp2
       go_loop [8] (λvy=>∃y:ZB,vy=.string y/\y.size<=z.size/\Hid (Zct y t (d-d).toNat)) (λvy=>z.size-ZlK vy)
       case atStart=>exact⟨y,rfl,by omega,HQ⟩
       case round=>
        clear HQ;obtain⟨u,rfl,hu,HQ⟩:=hrel;by_cases hl4:u.size<z.size
        ·go_wp2
         go_round
         case rel=>exact⟨_,rfl,by rw[Z5,Zcn];omega,J (Zep HQ.out)⟩
         case measure=>simp[ZlK,Z5];rw[Zcn];omega
        ·go_wp2
         go_ret3
         exact⟨z,u,by omega,by omega,by simpa using HP.out,by simpa using HQ.out,(by first|rfl|(show Ending.returned (.tuple #[.string z,.string u,I (max c d)])=_;rw[show max c d=d by omega])|(show Ending.returned (.tuple #[.string z,.string u,I (max c d)])=_;rw[show max c d=c by omega])),((Ze _ _).alloc (Zb _) _).alloc (by simp) _⟩
theorem Zuy(n m:Bool)(s t:ZB)(c d:Int)(w:World)(hs:s.size<=60)(ht:t.size<=60)(hc0:0<=c)(hc1:c<=60)(hd0:0<=d)(hd1:d<=60)(hcd:d<=c):
  Calls prog 218 #[.agg #[.bool n,.string s,I c],.agg #[.bool m,.string t,I d]] w λe w'=>
   ∃x y:ZB,x.size=y.size/\x.size<=200/\Zct x s (c-c).toNat/\Zct y t (c-d).toNat/\e=.returned (.tuple #[.string x,.string y,I c])/\ZL w w':=by
 go_enter func218,ntmps218
 go_wp2
 go_loop [7,10] (λvx vi=>∃(k:Nat) (x:ZB),vx=.string x/\vi=I (c+k)/\c+k<=c/\x.size<=130/\Hid (x.size=s.size+k)/\Hid (x=s++ZbK k)) (λ_ vi=>(c-Zi vi).toNat)
 case atStart=>exact⟨0,s,rfl,by simp,by omega,by omega,J (by omega),J (by rw[Zel];simp)⟩
 case round=>
  obtain⟨k,x,rfl,rfl,hk,hx,HX,HXE⟩:=hrel;by_cases hlt:c+k<c
  ·omega
  ·have hkk:k=(c-c).toNat:=by omega
   have HP:Hid (Zct x s (c-c).toNat):=J (by rw[HXE.out,hkk];exact ZdF s _);clear hkk;go_wp2
   go_loop [8,11] (λvx vi=>∃(j:Nat) (y:ZB),vx=.string y/\vi=I (d+j)/\d+j<=c/\y.size<=130/\Hid (y.size=t.size+j)/\Hid (y=t++ZbK j)) (λ_ vi=>(c-Zi vi).toNat)
   case atStart=>exact⟨0,t,rfl,by simp,by omega,by omega,J (by omega),J (by rw[Zel];simp)⟩
   case round=>
    obtain⟨j,y,rfl,rfl,hj,hy,HY,HYE⟩:=hrel;by_cases hlt2:d+j<c
    ·have hz:=Zlq t j;rw[<-HYE.out]at hz;have HZ:=J hz;clear hz;go_wp2
     go_round
     case rel=>exact⟨j+1,_,rfl,by rw[ZBb],by omega,by rw[Z5,Zcn,HY.out];omega,J (by rw[Z5,Zcn,HY.out];omega),HZ⟩
     case measure=>simp[Zi];omega
    ·have hjj:j=(c-d).toNat:=(by omega);have HQ:Hid (Zct y t (c-d).toNat):=J (by rw[HYE.out,hjj];exact ZdF t _);clear hjj;go_wp2
     go_loop [7] (λvx=>∃x:ZB,vx=.string x/\x.size<=130/\Hid (Zct x s (c-c).toNat)) (λvx=>y.size-ZlK vx)
     case atStart=>exact⟨x,rfl,hx,HP⟩
     case round=>
      clear HP;obtain⟨z,rfl,hz,HP⟩:=hrel;by_cases hl3:z.size<y.size
      ·go_wp2
       go_round
       case rel=>exact⟨_,rfl,by rw[Z5,Zcn];omega,J (Zep HP.out)⟩
       case measure=>simp[ZlK,Z5];rw[Zcn];omega
      ·go_wp2
       go_loop [8] (λvy=>∃y:ZB,vy=.string y/\y.size<=z.size/\Hid (Zct y t (c-d).toNat)) (λvy=>z.size-ZlK vy)
       case atStart=>exact⟨y,rfl,by omega,HQ⟩
       case round=>
        clear HQ;obtain⟨u,rfl,hu,HQ⟩:=hrel;by_cases hl4:u.size<z.size
        ·go_wp2
         go_round
         case rel=>exact⟨_,rfl,by rw[Z5,Zcn];omega,J (Zep HQ.out)⟩
         case measure=>simp[ZlK,Z5];rw[Zcn];omega
        ·go_wp2
         go_ret3
         exact⟨z,u,by omega,by omega,by simpa using HP.out,by simpa using HQ.out,(by first|rfl|(show Ending.returned (.tuple #[.string z,.string u,I (max c d)])=_;rw[show max c d=d by omega])|(show Ending.returned (.tuple #[.string z,.string u,I (max c d)])=_;rw[show max c d=c by omega])),((Ze _ _).alloc (Zb _) _).alloc (by simp) _⟩
theorem Zzm(n m:Bool)(s t:ZB)(c d:Int)(w:World)(hs:s.size<=60)(ht:t.size<=60)(hc0:0<=c)(hc1:c<=60)(hd0:0<=d)(hd1:d<=60):
  Calls prog 218 #[.agg #[.bool n,.string s,I c],.agg #[.bool m,.string t,I d]] w λe w'=>
   ∃x y:ZB,x.size=y.size/\x.size<=200/\Zct x s (max c d-c).toNat/\Zct y t (max c d-d).toNat/\e=.returned (.tuple #[.string x,.string y,I (max c d)])/\ZL w w':=by
 by_cases h:c<d
 ·rw[show max c d=d by omega];exact ZtQ n m s t c d w hs ht hc0 hc1 hd0 hd1 h
 ·rw[show max c d=c by omega];exact Zuy n m s t c d w hs ht hc0 hc1 hd0 hd1 (by omega)
end
def Zks(xs:List Int):Array Value:=(xs.map (Value.int .u8)).toArray
theorem Zht(xs:List Int):(Zks xs).size=xs.length:=by simp[Zks]
theorem Znz(xs:List Int)(i:Nat)(h:i<xs.length):(Zks xs)[i]?=some (.int .u8 (xs[i]?.getD 0)):=by
 simp[Zks,Zv h]
theorem Zu4(xs:List Int)(i:Nat)(v:Int):(Zks xs).setIfInBounds i (.int .u8 v)=Zks (xs.set i v):=by
 apply Array.toList_inj.1;simp[Zks,List.map_set]
def Zi8(N:Nat)(s:ZB)(a k:Nat):List Int:=(List.range N).map λp=>if a<=p/\p<a+k then at8 s (s.size-1-(p-a))-48 else 0
theorem Zeu(N:Nat)(s:ZB)(a k:Nat):(Zi8 N s a k).length=N:=by simp[Zi8]
theorem Zr9(N:Nat)(s:ZB)(a:Nat):Zi8 N s a 0=List.replicate N 0:=by
 apply List.ext_getElem
 ·simp[Zi8]
 ·intro i h1 h2;simp[Zi8];omega
theorem ZsJ(N:Nat)(s:ZB)(a k:Nat):(Zi8 N s a k).set (a+k) (at8 s (s.size-1-k)-48)=Zi8 N s a (k+1):=by
 apply List.ext_getElem
 ·simp[Zi8]
 ·intro i h1 h2;rw[List.getElem_set];by_cases e:a+k=i
  ·subst e;simp[Zi8]
  ·simp only[e,if_false,Zi8,List.getElem_map,List.getElem_range];by_cases h:a<=i/\i<a+k
   ·rw[Zd h,Zd (by omega)]
   ·rw[Za h,Za (by omega)]
def Zin:List Int->Int
 |[]=>0
 |x::l=>x+10*Zin l
theorem Zjy(a b:List Int):Zin (a++b)=Zin a+10^a.length*Zin b:=by
 induction a with
 |nil=>simp[Zin]
 |cons x a ih=>rw[List.cons_append,Zin,Zin,ih,ZDB,Int.pow_succ,Int.mul_add,<-Int.mul_assoc,Int.mul_comm 10 (10^a.length)];omega
theorem ZiT(k:Nat):Zin (List.replicate k 0)=0:=by
 induction k with
 |zero=>rfl
 |succ k ih=>rw[List.replicate_succ,Zin,ih];rfl
theorem Zta(l:List UInt8)(h:dgL l):Zin (l.reverse.map λc=>(c.toNat:Int)-48)=Zw l:=by
 induction l with
 |nil=>rfl
 |cons c l ih=>
  have hc:=h c ZDH;rw[List.reverse_cons,List.map_append,Zjy,ih (λd hd=>h d (ZDN _ hd)),Zb1];simp only[ZDD,List.length_reverse,List.map_cons,List.map_nil,Zin,dgt,Int.mul_zero,Int.add_zero]
  push_cast
  rw[show(((c.toNat-48:Nat)):Int)=(c.toNat:Int)-48 by omega,Int.mul_comm];omega
theorem Zxv(s:ZB)(a:Nat)(N:Nat)(h:a+s.size<=N):Zi8 N s a s.size=List.replicate a 0++((s.data.toList.reverse.map λc=>(c.toNat:Int)-48)++List.replicate (N-a-s.size) 0):=by
 apply List.ext_getElem
 ·simp[Zi8];omega
 ·intro i h1 h2;simp only[Zi8,List.getElem_map,List.getElem_range];by_cases c1:i<a
  ·rw[Za (by omega),List.getElem_append_left (by simpa using c1)];simp
  ·rw[List.getElem_append_right (by simpa using c1)];by_cases c2:i<a+s.size
   ·rw[Zd (by omega),List.getElem_append_left (by simp;omega)];simp only[List.getElem_map,List.getElem_reverse,List.length_replicate];have hk:s.size-1-(i-a)<s.size:=(by omega);rw[ZaX s _ hk];congr 2
   ·rw[Za (by omega),List.getElem_append_right (by simp;omega)];simp
theorem Zua(s:ZB)(a:Nat)(N:Nat)(h:a+s.size<=N)(hd:Zr s=true):Zin (Zi8 N s a s.size)=10^a*(Zw s.data.toList:Int):=by
 rw[Zxv s a N h,Zjy,Zjy,ZiT,ZiT,Zta _ (ZgY s hd)];simp
def Zmt(xs:List Int):Prop:=∀x∈xs,0<=x/\x<=9
theorem ZjO(N:Nat)(s:ZB)(a:Nat)(hd:Zr s=true):Zmt (Zi8 N s a s.size):=by
 intro x hx;simp only[Zi8,List.mem_map]at hx;obtain⟨p,_,rfl⟩:=hx;by_cases c:a<=p/\p<a+s.size
 ·rw[Zd c];have hk:s.size-1-(p-a)<s.size:=by omega
  have:=Zfg s hd _ hk;simp only[Z0,Z6]at this;rw[ZaX s _ hk];omega
 ·rw[Za c];omega
theorem ZmI:∀(xs ys:List Int) (i:Nat),xs.length=ys.length->Zmt xs->Zmt ys->i<xs.length->xs[i]?.getD 0<ys[i]?.getD 0->(∀j,i<j->j<xs.length->xs[j]?.getD 0=ys[j]?.getD 0)->Zin xs<Zin ys
 |[],_,i,_,_,_,hi,_,_=>by simp at hi
 |_::_,[],_,h,_,_,_,_,_=>by simp at h
 |x::xs,y::ys,i,h,hx,hy,hi,hlt,he=>by
  have hl:xs.length=ys.length:=by simpa using h
  have x1:=hx x ZDH;have y1:=hy y ZDH;have hx':Zmt xs:=λd hd=>hx d (ZDN _ hd)
  have hy':Zmt ys:=λd hd=>hy d (ZDN _ hd)
  cases i with
  |zero=>
   have e:xs=ys:=by
    apply List.ext_getElem hl;intro k h1 h2;have:=he (k+1) (by omega) (by simpa using h1);simpa[Zv h1,Zv h2] using this
   subst e;simp at hlt;simp only[Zin];omega
  |succ i=>
   have:=ZmI xs ys i hl hx' hy' (by simpa using hi) (by simpa using hlt) (λj h1 h2=>by simpa using he (j+1) (by omega) (by simpa using h2));simp only[Zin];omega
theorem Zyx(xs ys:List Int)(h:xs.length=ys.length)(he:∀j,j<xs.length->xs[j]?.getD 0=ys[j]?.getD 0):Zin xs=Zin ys:=by
 have e:xs=ys:=by
  apply List.ext_getElem h;intro k h1 h2;have:=he k h1;simpa[Zv h1,Zv h2] using this
 rw[e]
end Go.Proofs.YtcdnilpdohknfaaGreatDoor
