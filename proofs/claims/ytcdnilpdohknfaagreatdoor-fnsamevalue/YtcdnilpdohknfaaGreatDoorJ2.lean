import Derived.WalkKit
import Derived.Test.YtcdnilpdohknfaaGreatDoorJ1
import Derived.WalkLawsBesides
import Derived.OwnWalk
import Derived.Laws.OwnMore
import Derived.RegionTactic
import Derived.BigQuiet
import Derived.Deep.Draws
import Derived.KernelRfl
import Derived.Orders
import Derived.Lib.FieldsP
import Derived.Lib.SpaceUEq
import Derived.Lib.Join
import Derived.Deep.AppendLies
import Derived.Deep.RegionWith
import Derived.Deep.RegionHeld3
import Derived.Lib.SmallJoins
import Derived.Deep.DeepCutAuto
import Derived.Deep.Upon
import Derived.Lib.LaidU8
import Derived.ProofKit
set_option linter.unusedVariables false
set_option linter.unusedSimpArgs false
set_option maxRecDepth 100000
set_option maxHeartbeats 16000000
namespace Go.Proofs.YtcdnilpdohknfaaGreatDoor
open Tryz
def Zfq(c:Int):Bool:=decide ((97<=c/\c<=122)\/(65<=c/\c<=90)\/c=95)
def Z0(c:Int):Bool:=decide (48<=c/\c<=57)
def Zez(c:Int):Bool:=decide ((97<=c/\c<=122)\/(65<=c/\c<=90)\/c=95\/(48<=c/\c<=57)\/c=46\/c=45)
def at8(s:ZB)(k:Nat):Int:=((s.data.toList[k]?).getD 0).toNat
theorem ZaX(s:ZB)(k:Nat)(h:k<s.size):at8 s k=(s[k].toNat:Int):=by
 have h':k<s.data.toList.length:=by simpa using h
 unfold at8;rw[Zv h'];rfl
def ZcO(s:ZB):Bool:=decide (1<=s.size)&&(decide (s.size<=40)&&(Zfq (at8 s 0)&&(List.range s.size).all λj=>j==0||Zez (at8 s j)))
theorem ZiM(s:ZB)(h:s.size=0):ZcO s=false:=by simp[ZcO,h]
theorem ZiK(s:ZB)(h:40<s.size):ZcO s=false:=by
 have:decide (s.size<=40)=false:=by simp;omega
 simp[ZcO,this]
theorem Zhu(s:ZB)(h0:0<s.size)(h:Zfq (s[0].toNat:Int)=false):ZcO s=false:=by
 rw[<-ZaX s 0 h0]at h;simp[ZcO,h]
theorem Ziy(s:ZB)(k:Nat)(h1:1<=k)(hk:k<s.size)(h:Zez (s[k].toNat:Int)=false):ZcO s=false:=by
 rw[<-ZaX s k hk]at h;have:((List.range s.size).all λj=>j==0||Zez (at8 s j))=false:=by
  rw[List.all_eq_false];refine⟨k,by simpa using hk,?_⟩;have:(k==0)=false:=by simp;omega
  simp[this,h]
 simp[ZcO,this]
theorem ZlA(s:ZB)(h0:0<s.size)(h40:s.size<=40)(hf:Zfq (s[0].toNat:Int)=true)(hm:∀j (h:j<s.size),1<=j->Zez (s[j].toNat:Int)=true):ZcO s=true:=by
 rw[<-ZaX s 0 h0]at hf;have:((List.range s.size).all λj=>j==0||Zez (at8 s j))=true:=by
  rw[ZDP];intro j hj;have hj':j<s.size:=by simpa using hj
  by_cases e:j=0
  ·simp[e]
  ·have:=hm j hj' (by omega);rw[<-ZaX s j hj']at this;simp[this]
 have h1:decide (1<=s.size)=true:=by simp;omega
 have h2:decide (s.size<=40)=true:=by simp;omega
 simp[ZcO,this,h1,h2,hf]
theorem J{p:Prop}(h:p):Go.RowKit.Hid p:=h
def Zi:Value->Int|.int _ q=>q|_=>0
theorem Zo{a b:Bool}(h:a=b):Ending.returned (.bool a)=.returned (.bool b):=by rw[h]
section
open Go.RowKit
def Zpw(w:World)(a:Option Addr)(zs:List Int)(B:Nat):Prop:=
 zs≠[]->∃b off,a=some ⟨b,off,none⟩/\b<B/\∀j,j<zs.length->w.cell? ⟨b,off+j,none⟩=some (.int .u8 (zs[j]?.getD 0))
def Zfr(w:World)(G:Nat)(a:Option Addr)(n cap:Nat)(zs:List Int):Prop:=
 (∃p:Nat,p<=n/\w.heap[G]?=some (.cells #[.slice a n cap,I p] 73 (0,0)))/\Zpw w a zs G/\zs.length=n/\(∀x∈zs,0<=x/\x<=255)/\n<=1048576
theorem ZaP{w w1 w2:World}{row:Option Nat}(h1:w.grownBy w1 row)(h2:w1.grownBy w2 row):w.grownBy w2 row:=
 ⟨h2.os.trans h1.os,h2.tape.trans h1.tape,h2.output.trans h1.output,ZDA h1.size h2.size,λk hk hne=>(h2.block k (ZDy hk h1.size) hne).trans (h1.block k hk hne)⟩
theorem ZiJ(w:World)(row:Option Nat):w.grownBy w row:=⟨rfl,rfl,rfl,Zb _,λ_ _ _=>rfl⟩
theorem Zie{w w':World}{a:Option Addr}{zs:List Int}{B:Nat}{row:Option Nat}(h:Zpw w a zs B)(hB:B<=w.heap.size)(hg:w.grownBy w' row)(hr:∀k,row=some k->B<=k):Zpw w' a zs B:=by
 intro hne;obtain⟨b,off,rfl,hb,hc⟩:=h hne;refine⟨b,off,rfl,hb,λj hj=>?_⟩;exact(World.cell?_of_block (hg.block b (by omega) (λe=>by have:=hr b e.symm;omega))).trans (hc j hj)
theorem ZdC{w:World}{G:Nat}{a:Option Addr}{n cap:Nat}{zs:List Int}(h:Zfr w G a n cap zs):G<w.heap.size:=by
 obtain⟨⟨p,_,hg⟩,_⟩:=h;exact(Array.getElem?_eq_some_iff.1 hg).1
theorem Zdo{w w':World}{G:Nat}{a:Option Addr}{n cap:Nat}{zs:List Int}{row:Option Nat}(h:Zfr w G a n cap zs)(hg:w.grownBy w' row)(hr:∀k,row=some k->G<k):Zfr w' G a n cap zs:=by
 have hlt:=ZdC h;obtain⟨⟨p,hp,hG⟩,hs,hl,hz,hn⟩:=h;refine⟨⟨p,hp,?_⟩,Zie hs (by omega) hg (λk hk=>by have:=hr k hk;omega),hl,hz,hn⟩;rw[hg.block G hlt (λe=>by have:=hr G e.symm;omega)];exact hG
theorem ZaY{w:World}{G:Nat}{a:Option Addr}{n cap:Nat}{zs:List Int}(h:Zfr w G a n cap zs)(o:Obj):Zfr (w.alloc o) G a n cap zs:=
 Zdo h (ZEn w o none) (λk hk=>by cases hk)
def ZG(G:Nat)(a:Option Addr)(n cap:Nat)(zs:List Int)(w w':World):Prop:=Zfr w' G a n cap zs/\w.grownBy w' (some G)
theorem Zaj{G:Nat}{a:Option Addr}{n cap:Nat}{zs:List Int}{w w1 w2:World}(h1:ZG G a n cap zs w w1)(h2:ZG G a n cap zs w1 w2):ZG G a n cap zs w w2:=⟨h2.1,ZaP h1.2 h2.2⟩
theorem ZqW{w:World}{G:Nat}{a:Option Addr}{n cap:Nat}{zs:List Int}(h:Zfr w G a n cap zs){p:Nat}(hp:p<n)(hG:w.heap[G]?=some (.cells #[.slice a n cap,I p] 73 (0,0)))(q1 q2:Nat):
  ZG G a n cap zs w (((w.drewN q1).setCell ⟨G,1,none⟩ (I ((p:Int)+1))).drewN q2):=by
 have hlt:=ZdC h;have hset:=ZEk (w.drewN q1) G 1 _ 73 (I ((p:Int)+1)) hG;have hgr:w.grownBy (((w.drewN q1).setCell ⟨G,1,none⟩ (I ((p:Int)+1))).drewN q2) (some G):=by
  refine⟨rfl,rfl,rfl,?_,λk hk hne=>?_⟩
  ·simp
  ·exact Below.heap_setCell (w.drewN q1) ⟨G,1,none⟩ _ k (λe=>hne (by rw[e]))
 obtain⟨_,hs,hl,hz,hn⟩:=h;refine⟨⟨⟨p+1,by omega,?_⟩,Zie hs (by omega) hgr (λk hk=>by cases hk;exact Zb _),hl,hz,hn⟩,hgr⟩;exact hset
theorem Zwf(G:Nat)(a:Option Addr)(n cap:Nat)(zs:List Int)(w:World)(h:Zfr w G a n cap zs):
  Calls prog 42 #[.pointer (some ⟨G,0,none⟩)] w λe w'=>∃x:Int,0<=x/\x<=255/\e=.returned (I x)/\ZG G a n cap zs w w':=by
 have HH:=J h;obtain⟨⟨p,hp,hG⟩,hs,hl,hz,hn⟩:=h;have c0:w.cell? ⟨G,0,none⟩=some (.slice a n cap):=by rw[ZO w G 0 _ 73 (0,0) hG];rfl
 have c1:w.cell? ⟨G,1,none⟩=some (I p):=by rw[ZO w G 1 _ 73 (0,0) hG];rfl
 have hf:w.frozen? ⟨G,1,none⟩=false:=ZEm w G 1 _ 73 hG;have HG:=J hG;have HS:=J hs;have HL:=J hl;have HZ:=J hz;clear hG hs hl hz;by_cases hlt:p<n
 ·have hlt':¬(n:Int)<=(p:Int):=by omega
  obtain⟨b,off,rfl,hbG,hc⟩:=HS.out (λe=>by have:=HL.out;rw[e]at this;simp at this;omega);have hcb:=hc p (by rw[HL.out];exact hlt);have hmem:0<=zs[p]?.getD 0/\zs[p]?.getD 0<=255:=by
   have hpl:p<zs.length:=by rw[HL.out];exact hlt
   rw[Zv hpl];exact HZ.out _ (ZD3 hpl)
  obtain⟨x,hx⟩:=ZX (zs[p]?.getD 0);rw[hx]at hcb hmem;obtain⟨hx0,hx1⟩:=hmem;have hset:=ZEk w G 1 _ 73 (I ((p:Int)+1)) HG.out;have s2:∀q,((w.drewN q).setCell ⟨G,1,none⟩ (I ((p:Int)+1))).cell? ⟨b,off+p,none⟩=some (.int .u8 x):=λq=>
   (World.cell?_of_block (Below.heap_setCell w ⟨G,1,none⟩ _ b (by show b≠G;omega))).trans hcb
  have hwr:IntKind.i64.wrap (p:Int)=(p:Int):=by rw[ZY];omega
  have hi0:(0:Int)<=(p:Int):=by omega
  have hi1:(p:Int)<(n:Int):=by omega
  have HSET:=J hset;clear hset hx hc;go_enter func42,ntmps42
  go_wp2;go_quiet (fail)
  go_wp2;go_quiet (fail)
  go_wp2;go_ret;exact⟨x,hx0,hx1,rfl,ZqW HH.out hlt HG.out _ _⟩
 ·have hlt':(n:Int)<=(p:Int):=by omega
  go_enter func42,ntmps42
  go_wp2;go_quiet (fail)
  go_wp2;go_ret;exact⟨0,by omega,by omega,rfl,HH.out,⟨rfl,rfl,rfl,Zb _,λ_ _ _=>rfl⟩⟩
theorem Za1(G:Nat)(a:Option Addr)(n cap:Nat)(zs:List Int)(m:Int)(w:World)(hm:2<=m)(hm':m<=256)(h:Zfr w G a n cap zs):
  Calls prog 22 #[.pointer (some ⟨G,0,none⟩),I m] w λe w'=>∃x:Int,0<=x/\x<m/\e=.returned (I x)/\ZG G a n cap zs w w':=by
 have HH:=J h;clear h;have hm1:¬m<=1:=by omega
 go_enter func22,ntmps22
 go_wp2_with fail
 refine(Zwf G a n cap zs _ HH.out).mono ?_;rintro e w1 ⟨x,hx0,hx1,rfl,hd⟩;have HD:=J hd;clear hd;go_wp2;go_ret;exact⟨x%m,Int.emod_nonneg _ (by omega),Int.emod_lt_of_pos _ (by omega),rfl,HD.out⟩
theorem Zdj(G:Nat)(a:Option Addr)(n cap:Nat)(zs:List Int)(m:Int)(w:World)(hm:2<=m)(hm':m<=256)(h:Zfr w G a n cap zs):
  Calls prog 23 #[.pointer (some ⟨G,0,none⟩),I m] w λe w'=>∃x:Bool,e=.returned (.bool x)/\ZG G a n cap zs w w':=by
 have HH:=J h;clear h;go_enter func23,ntmps23
 go_wp2_with fail
 refine(Za1 G a n cap zs m _ hm hm' HH.out).mono ?_;rintro e w1 ⟨x,hx0,hx1,rfl,hd⟩;have HD:=J hd;clear hd;go_wp2;go_ret;exact⟨_,rfl,HD.out⟩
theorem ZAx(a:Option Addr)(n cap:Nat)(zs:List Int)(w:World)(hl:zs.length=n)(hz:∀x∈zs,0<=x/\x<=255)(hn:n<=1048576)(hs:Zpw w a zs w.heap.size):
  Calls prog 20 #[.slice a n cap] w λe w'=>e=.returned (.pointer (some ⟨w.heap.size,0,none⟩))/\Zfr w' w.heap.size a n cap zs/\ZL w w':=by
 have HS:=J hs;have HL:=J hl;have HZ:=J hz;clear hs hl hz;go_enter func20,ntmps20
 go_wp2;go_ret;exact⟨rfl,⟨⟨0,Zx _,Zz w _⟩,Zie HS.out (Zb _) (ZEn w _ none) (λk hk=>by cases hk),HL.out,HZ.out,hn⟩,(Ze _ _).alloc (Zb _) _⟩
def ZC7(G:Nat)(a:Option Addr)(n cap:Nat)(zs:List Int)(w w':World):Prop:=ZG G a n cap zs w w'
theorem Zbi{G:Nat}{a:Option Addr}{n cap:Nat}{zs:List Int}{w w1:World}(o:Obj)(h:ZG G a n cap zs (w.alloc o) w1):ZG G a n cap zs w w1:=
 ⟨h.1,ZaP (ZEn w o (some G)) h.2⟩
theorem Zqv(w w1:World)(G:Nat)(x:Int)(h0:0<=x)(h7:x<7)(hG:G<w.heap.size)
  (hg:(w.alloc (.cells #[.string ⟨#[97]⟩,.string ⟨#[98]⟩,.string ⟨#[99]⟩,.string ⟨#[100]⟩,.string ⟨#[120,49]⟩,.string ⟨#[95,121]⟩,.string ⟨#[97,46,98,45,99]⟩] 9)).grownBy w1 (some G)):
  ∃s:ZB,w1.cell? ⟨w.heap.size,x.toNat,none⟩=some (.string s)/\1<=s.size/\s.size<=5:=by
 have hb:=hg.block w.heap.size (by simp) (λe=>by cases e;omega);rw[World.cell?_of_block (a:=⟨w.heap.size,x.toNat,none⟩) hb,ZO _ w.heap.size x.toNat _ 9 (0,0) (Zz w _)];have hx:x.toNat=0\/x.toNat=1\/x.toNat=2\/x.toNat=3\/x.toNat=4\/x.toNat=5\/x.toNat=6:=by omega
 rcases hx with e|e|e|e|e|e|e<;>rw[e]<;>exact⟨_,rfl,by decide,by decide⟩
theorem Zv9(G:Nat)(a:Option Addr)(n cap:Nat)(zs:List Int)(w:World)(h:Zfr w G a n cap zs):
  Calls prog 47 #[.pointer (some ⟨G,0,none⟩)] w λe w'=>∃s:ZB,1<=s.size/\s.size<=5/\e=.returned (.string s)/\ZG G a n cap zs w w':=by
 have HH:=J h;have hG:=ZdC h;clear h;go_enter func47,ntmps47
 go_wp2_with fail
 refine(Za1 G a n cap zs 7 _ (by omega) (by omega) (ZaY HH.out _)).mono ?_;rintro e w1 ⟨x,hx0,hx1,rfl,hd⟩;obtain⟨s,hs,hs1,hs2⟩:=Zqv w w1 G x hx0 hx1 hG hd.2;have HD:=J (Zbi _ hd);clear hd;go_wp2;go_ret;exact⟨s,hs1,hs2,rfl,HD.out⟩
theorem ZhJ{p p':Nat->Bool}{i:Nat}(hpp:∀k,p' k=true->p k=true)(hi:p i=true)(hi':p' i=false):∀(xs:List Nat),i∈xs->(xs.filter p').length<(xs.filter p).length
 |[],h=>by cases h
 |x::xs,h=>by
  have hle:∀ys:List Nat,(ys.filter p').length<=(ys.filter p).length:=by
   intro ys;induction ys with
   |nil=>simp
   |cons y ys ih=>
    by_cases hy:p' y=true
    ·rw[List.filter_cons_of_pos hy,List.filter_cons_of_pos (hpp y hy)];simpa using ih
    ·rw[List.filter_cons_of_neg hy];by_cases hz:p y=true
     ·rw[List.filter_cons_of_pos hz,ZDB];omega
     ·rw[List.filter_cons_of_neg hz];exact ih
  rcases List.mem_cons.1 h with e|e
  ·subst e;rw[List.filter_cons_of_neg (by rw[hi'];decide),List.filter_cons_of_pos hi,ZDB];have:=hle xs;omega
  ·have ih:=ZhJ hpp hi hi' xs e;by_cases hy:p' x=true
   ·rw[List.filter_cons_of_pos hy,List.filter_cons_of_pos (hpp x hy)];simpa using ih
   ·rw[List.filter_cons_of_neg hy];by_cases hz:p x=true
    ·rw[List.filter_cons_of_pos hz,ZDB];omega
    ·rw[List.filter_cons_of_neg hz];exact ih
section
variable {P:Program} {ops:Array Oper} {Q:Exit->Act->World->Prop}
def left(n:Nat)(l:Array Bool):Nat:=((List.range n).filter λk=>!(l.getD k true)).length
theorem Zls{n i:Nat}{l:Array Bool}(hi:i<n)(h:l.getD i true=false):left n (l.setIfInBounds i true)<left n l:=by
 have hsz:i<l.size:=by
  rcases Nat.lt_or_ge i l.size with h'|h'
  ·exact h'
  ·rw[Array.getD_eq_getD_getElem?,Array.getElem?_eq_none h']at h;simp at h
 refine ZhJ (i:=i) (λk hk=>?_) (by simp[h]) ?_ _ (List.mem_range.2 hi)
 ·by_cases e:i=k
  ·subst e;simp[h]
  ·rw[getD_set_ne true e]at hk;exact hk
 ·rw[Array.getD_eq_getD_getElem?];simp[hsz]
theorem Zqt(I0:Array Bool->Act->World->Prop)
  (hdone:∀l a w,I0 l a w->Region.ready .any ops l=[]->Q .normal a w)
  (hstep:∀l a w i,I0 l a w->i∈Region.ready .any ops l->wpOp P ops Q i (I0 (l.setIfInBounds i true)) a w):
  ∀(fuel:Nat) (l:Array Bool) (a:Act) (w:World),left ops.size l<=fuel->I0 l a w->wpAny P .any ops Q fuel l a w:=by
 have hlt:∀(l:Array Bool) (i:Nat),i∈Region.ready .any ops l->i<ops.size/\l.getD i true=false:=by
  intro l i hi;obtain⟨h0,o,ho,_⟩:=mem_ready.1 hi;exact⟨(Array.getElem?_eq_some_iff.1 ho).1,h0⟩
 intro fuel;induction fuel with
 |zero=>
  intro l a w hf hI;have hnil:Region.ready .any ops l=[]:=by
   cases hr:Region.ready .any ops l with
   |nil=>rfl
   |cons i is=>
    obtain⟨h1,h2⟩:=hlt l i (by rw[hr];exact ZDH ..);have:=Zls h1 h2;omega
  exact⟨hnil,hdone l a w hI hnil⟩
 |succ fuel ih=>
  intro l a w hf hI;refine⟨hdone l a w hI,λi hi=>?_⟩;obtain⟨h1,h2⟩:=hlt l i hi;have:=Zls h1 h2;exact wpOp_mono (λa' w' h'=>ih _ a' w' (by omega) h') (hstep l a w i hI hi)
theorem ZjS{id:Nat}{w:World}(hm:P.follows .mixedOrders=true)
  (hlow:(List.range ops.size).all (λi=>((ops[i]?).map λo=>o.after.all λe=>!(Region.binds .any e)||decide (e.on<i)).getD true)=true)
  (A:(Nat->Value)->Act) (D:Nat->Nat) (V:Nat->Value->World->Prop) (J0:World->Prop) (u0:Nat->Value) (hJ:J0 { w with drawn:=w.drawn+1 })
  (hput:∀i o,ops[i]?=some o->∀u v,(A u).put o.dst v=A (λk=>if k=D i then v else u k))
  (hD:∀i k,i<ops.size->k<ops.size->i≠k->D i≠D k)
  (step:∀i o,ops[i]?=some o->∀u w,J0 w->(∀e∈o.after,Region.binds .any e=true->V e.on (u (D e.on)) w)->
   ∀K:Act->World->Prop,(∀v w',J0 w'->V i v w'->(∀k x,V k x w->V k x w')->K ((A u).put o.dst v) w')->
    if Region.wanted o (yielded ops (A u).tmps)=true then Oper.wp P o (A u) w K Q else K ((A u).put o.dst undef) w)
  (done:∀u w,J0 w->(∀k,k<ops.size->V k (u (D k)) w)->Q .normal (A u) w):
  (Code.region id ops true).wp P Q (A u0) w:=by
 refine wp_region_any hm ?_;refine Zqt (λl a w=>l.size=ops.size/\J0 w/\∃u,a=A u/\∀k,k<ops.size->l.getD k false=true->V k (u (D k)) w) ?_ ?_ _ _ _ _ ?_ ?_
 ·rintro l a w ⟨hl,hj,u,rfl,hV⟩ hr;refine done u w hj (λk hk=>hV k hk ?_);have all:∀(n:Nat),n<=ops.size->∀k,k<n->l.getD k false=true:=by
   intro n;induction n with
   |zero=>intro _ k hk;omega
   |succ n ih=>
    intro hn k hk;by_cases e:k<n
    ·exact ih (by omega) k e
    ·have e:k=n:=(by omega);subst e;have hks:k<ops.size:=(by omega);cases hb:l.getD k true with
     |true=>
      rw[Array.getD_eq_getD_getElem?,Array.getElem?_eq_getElem (by omega)]at hb ⊢;simpa using hb
     |false=>
      exfalso;have hmem:k∈Region.ready .any ops l:=by
       refine mem_ready.2 ⟨hb,ops[k],Array.getElem?_eq_getElem hks,λe he hbd=>?_⟩;have h1:=List.all_eq_true.1 hlow k (List.mem_range.2 hks);rw[Array.getElem?_eq_getElem hks]at h1;simp only[Option.map_some,Option.getD_some]at h1;have h2:=Array.all_eq_true_iff_forall_mem.1 h1 e he;rw[hbd]at h2;exact ih (by omega) e.on (ZDY (by simpa using h2))
      rw[hr]at hmem;cases hmem
  exact all ops.size (Zb _) k hk
 ·rintro l a w i ⟨hl,hj,u,rfl,hV⟩ hi;obtain⟨h0,o,ho,hdep⟩:=mem_ready.1 hi;have hilt:=(Array.getElem?_eq_some_iff.1 ho).1;refine wpOp_step ho (λK' hK=>?_);refine step i o ho u w hj (λe he hb=>?_) K' (λv w' hj' hv hmono=>?_)
  ·have h1:=List.all_eq_true.1 hlow i (List.mem_range.2 hilt);rw[ho]at h1;simp only[Option.map_some,Option.getD_some]at h1;have h2:=Array.all_eq_true_iff_forall_mem.1 h1 e he;rw[hb]at h2;have h3:e.on<i:=ZDY (by simpa using h2);exact hV e.on (by omega) (hdep e he hb)
  ·refine hK _ _ ⟨by simp[hl],hj',_,hput i o ho u v,λk hk hl'=>?_⟩;by_cases e:i=k
   ·subst e;simpa using hv
   ·have hd:=hD k i hk hilt (λh=>e h.symm);rw[Za hd];rw[getD_set_ne false e]at hl';exact hmono k _ (hV k hk hl')
 ·have:left ops.size (Array.replicate ops.size false)<=(List.range ops.size).length:=List.length_filter_le _ _;simpa using this
 ·refine⟨by simp,hJ,u0,rfl,λk hk hl=>?_⟩;rw[Array.getD_eq_getD_getElem?]at hl;simp[hk]at hl
end
def inB(a n b:Int):Bool:=decide (a<=n/\n<=b)
theorem Zfz{a n b:Int}(h:a<=n/\n<=b):inB a n b=true:=Zh h
theorem Zj0{a n b:Int}(h:¬(a<=n/\n<=b)):inB a n b=false:=Zg h
theorem Zc0{a n b:Int}(h:inB a n b=true):a<=n/\n<=b:=ZDY h
def ZmE(y:Int):Bool:=decide (y%4=0/\(y%100≠0\/y%400=0))
def ZoJ(y m:Int):Int:=if m=2 then (if ZmE y=true then 29 else 28) else if m=4\/m=6\/m=9\/m=11 then 30 else 31
def dim(y m:Int):Int:=if (1<=y/\y<=9999)/\(1<=m/\m<=12) then ZoJ y m else -1
theorem Zr4{y m:Int}(h1:1<=y/\y<=9999)(h2:1<=m/\m<=12):dim y m=ZoJ y m:=by unfold dim;rw[Zd ⟨h1,h2⟩]
theorem Zgw{y m:Int}(h:¬((1<=y/\y<=9999)/\(1<=m/\m<=12))):dim y m = -1:=by unfold dim;rw[Za h]
theorem ZfJ(y m:Int): -1<=dim y m/\dim y m<=31:=by
 unfold dim ZoJ;split
 ·split
  ·split<;>omega
  ·split<;>omega
 ·omega
theorem Zsy{y m:Int}(h1:1<=y/\y<=9999)(h2:1<=m/\m<=12):28<=dim y m:=by
 rw[Zr4 h1 h2];unfold ZoJ;split
 ·split<;>omega
 ·split<;>omega
theorem ZwD{m:Int}(h1:1<=m)(h2:m<=12):m=1\/m=2\/m=3\/m=4\/m=5\/m=6\/m=7\/m=8\/m=9\/m=10\/m=11\/m=12:=by omega
def ZCe:List Int:=[31,28,31,30,31,30,31,31,30,31,30,31]
def Zjk(g:Nat)(w:World):Prop:=g<w.heap.size/\∀k:Nat,k<12->w.cell? ⟨g,k,none⟩=some (I (ZCe.getD k 0))
theorem Zdt{g:Nat}{w w1:World}(h:Zjk g w)(k:ZL w w1):Zjk g w1:=
 ⟨ZDy h.1 k.size,λj hj=>(k.cell (p:=⟨g,j,none⟩) h.1).trans (h.2 j hj)⟩
theorem Za0{k:IntKind}{a b:Int}(h:a=b):Ending.returned (.int k a)=.returned (.int k b):=by rw[h]
theorem ZeK(n a b:Int)(w:World):Calls prog 30 #[I n,I a,I b] w λe w'=>e=.returned (.bool (inB a n b))/\w'=w:=by
 by_cases h1:a<=n<;>by_cases h2:n<=b
 all_goals
  go_enter func30,ntmps30
  go_wp2;go_ret;exact⟨Zo (by simp[inB,h1,h2]),rfl⟩
theorem Zd5(n a b:Int)(w:World):Calls prog 64 #[I n,I a,I b] w λe w'=>e=.returned (.bool (inB a n b))/\w'=w:=by
 by_cases h1:a<=n<;>by_cases h2:n<=b
 all_goals
  go_enter func64,ntmps64
  go_wp2;go_ret;exact⟨Zo (by simp[inB,h1,h2]),rfl⟩
theorem ZaV(n a b:Int)(w:World)(h:inB a n b=true):Calls prog 30 #[I n,I a,I b] w λe w'=>e=.returned (.bool true)/\w'=w:=by
 have:=ZeK n a b w;rwa [h]at this
theorem ZbF(n a b:Int)(w:World)(h:inB a n b=false):Calls prog 30 #[I n,I a,I b] w λe w'=>e=.returned (.bool false)/\w'=w:=by
 have:=ZeK n a b w;rwa [h]at this
theorem ZcJ(n a b:Int)(w:World)(h:inB a n b=true):Calls prog 64 #[I n,I a,I b] w λe w'=>e=.returned (.bool true)/\w'=w:=by
 have:=Zd5 n a b w;rwa [h]at this
theorem ZcN(n a b:Int)(w:World)(h:inB a n b=false):Calls prog 64 #[I n,I a,I b] w λe w'=>e=.returned (.bool false)/\w'=w:=by
 have:=Zd5 n a b w;rwa [h]at this
theorem ZBj(y:Int)(w:World)(h1:1<=y)(h2:y<=9999):Calls prog 120 #[I y] w λe w'=>e=.returned (.bool (ZmE y))/\w'=w:=by
 by_cases k1:y%4=0<;>by_cases k2:y%100=0<;>by_cases k3:y%400=0
 all_goals
  go_enter func120,ntmps120
  go_wp2;go_ret;exact⟨Zo (by simp[ZmE,k1,k2,k3]),rfl⟩
theorem ZzP(y:Int)(w:World)(h1:1<=y)(h2:y<=9999):Calls prog 248 #[I y] w λe w'=>e=.returned (.bool (ZmE y))/\w'=w:=by
 by_cases k1:y%4=0<;>by_cases k2:y%100=0<;>by_cases k3:y%400=0
 all_goals
  go_enter func248,ntmps248
  go_wp2;go_ret;exact⟨Zo (by first|(simp[ZmE,k1,k2,k3];done)|(exfalso;omega)),rfl⟩
theorem Zhq(y m:Int)(w:World):Calls prog 78 #[I y,I m] w λe w'=>e=.returned (I (dim y m))/\w'=w:=by
 by_cases hy:1<=y/\y<=9999
 ·have hyd:=Zfz hy;by_cases hm:1<=m/\m<=12
  ·have hmd:=Zfz hm;have HD:=J (Zr4 hy hm);obtain⟨hy1,hy2⟩:=hy;cases hl:ZmE y;all_goals
    rcases ZwD hm.1 hm.2 with rfl|rfl|rfl|rfl|rfl|rfl|rfl|rfl|rfl|rfl|rfl|rfl
    all_goals
     go_enter func78,ntmps78
     go_wp2_with (first|(go_at_call 30;refine Zc (ZeK _ _ _ _) ?_)|(go_at_call 120;refine Zc (ZBj _ _ (by omega) (by omega)) ?_))
     go_ret;exact⟨Za0 (by rw[HD.out];simp[ZoJ,hl]),rfl⟩
  ·have hmd:=Zj0 hm;have HD:=J (Zgw (y:=y) (m:=m) (by omega));go_enter func78,ntmps78
   go_wp2_with (go_at_call 30;refine Zc (ZeK _ _ _ _) ?_)
   go_ret;exact⟨Za0 HD.out.symm,rfl⟩
 ·have hyd:=Zj0 hy;have HD:=J (Zgw (y:=y) (m:=m) (by omega));go_enter func78,ntmps78
  go_wp2_with (go_at_call 30;refine Zc (ZeK _ _ _ _) ?_)
  go_ret;exact⟨Za0 HD.out.symm,rfl⟩
theorem ZlE(y m:Int)(w:World)(ht:Zjk 3 w):Calls prog 208 #[I y,I m] w λe w'=>e=.returned (I (dim y m))/\w'=w:=by
 have HT:=J ht;clear ht;by_cases hy:1<=y/\y<=9999
 ·have hyd:=Zfz hy;by_cases hm:1<=m/\m<=12
  ·have hmd:=Zfz hm;have HD:=J (Zr4 hy hm);obtain⟨hy1,hy2⟩:=hy;have c0:w.cell? ⟨3,0,none⟩=some (I 31):=HT.out.2 0 (by omega);have c1:w.cell? ⟨3,1,none⟩=some (I 28):=HT.out.2 1 (by omega);have c2:w.cell? ⟨3,2,none⟩=some (I 31):=HT.out.2 2 (by omega);have c3:w.cell? ⟨3,3,none⟩=some (I 30):=HT.out.2 3 (by omega);have c4:w.cell? ⟨3,4,none⟩=some (I 31):=HT.out.2 4 (by omega);have c5:w.cell? ⟨3,5,none⟩=some (I 30):=HT.out.2 5 (by omega);have c6:w.cell? ⟨3,6,none⟩=some (I 31):=HT.out.2 6 (by omega);have c7:w.cell? ⟨3,7,none⟩=some (I 31):=HT.out.2 7 (by omega);have c8:w.cell? ⟨3,8,none⟩=some (I 30):=HT.out.2 8 (by omega);have c9:w.cell? ⟨3,9,none⟩=some (I 31):=HT.out.2 9 (by omega);have c10:w.cell? ⟨3,10,none⟩=some (I 30):=HT.out.2 10 (by omega);have c11:w.cell? ⟨3,11,none⟩=some (I 31):=HT.out.2 11 (by omega);cases hl:ZmE y;all_goals
    rcases ZwD hm.1 hm.2 with rfl|rfl|rfl|rfl|rfl|rfl|rfl|rfl|rfl|rfl|rfl|rfl
    all_goals
     go_enter func208,ntmps208
     go_wp2_with (first|(go_at_call 64;refine Zc (Zd5 _ _ _ _) ?_)|(go_at_call 248;refine Zc (ZzP _ _ (by omega) (by omega)) ?_))
     go_ret;exact⟨Za0 (by rw[HD.out];simp[ZoJ,hl]),rfl⟩
  ·have hmd:=Zj0 hm;have HD:=J (Zgw (y:=y) (m:=m) (by omega));go_enter func208,ntmps208
   go_wp2_with (go_at_call 64;refine Zc (Zd5 _ _ _ _) ?_)
   go_ret;exact⟨Za0 HD.out.symm,rfl⟩
 ·have hyd:=Zj0 hy;have HD:=J (Zgw (y:=y) (m:=m) (by omega));go_enter func208,ntmps208
  go_wp2_with (go_at_call 64;refine Zc (Zd5 _ _ _ _) ?_)
  go_ret;exact⟨Za0 HD.out.symm,rfl⟩
theorem Zt0{w w1:World}{G:Nat}(K:Nat){cs:Array Value}{T:TypeId}{x:Int}{N:Nat}(hg:(w.alloc (.cells cs T)).grownBy w1 (some G))(h0:0<=x)(hx:x<N)(hN:cs.size=N)(hG:G<w.heap.size)(hK:∀k,k<N->∃s:ZB,cs[k]?=some (.string s)/\s.size<=K):∃s:ZB,w1.cell? ⟨w.heap.size,x.toNat,none⟩=some (.string s)/\s.size<=K:=by
 have hb:=hg.block w.heap.size (by simp) (λe=>by cases e;omega);rw[World.cell?_of_block (a:=⟨w.heap.size,x.toNat,none⟩) hb,ZO _ w.heap.size x.toNat _ T (0,0) (Zz w _)];exact hK x.toNat (by omega)
theorem ZAU(G:Nat)(a:Option Addr)(n cap:Nat)(zs:List Int)(w:World)(h:Zfr w G a n cap zs):
  Calls prog 48 #[.pointer (some ⟨G,0,none⟩)] w λe w'=>∃s:ZB,s.size<=4/\e=.returned (.string s)/\ZG G a n cap zs w w':=by
 have HH:=J h;have hG:=ZdC h;clear h;go_enter func48,ntmps48
 go_wp2_with fail
 refine(Za1 G a n cap zs 14 _ (by omega) (by omega) (ZaY HH.out _)).mono ?_;rintro e w1 ⟨x,hx0,hx1,rfl,hd⟩;obtain⟨s,hs,hs1⟩:=Zt0 4 hd.2 hx0 hx1 rfl hG (λk hk=>by
  have hk':k<14:=hk;have hx:k=0\/k=1\/k=2\/k=3\/k=4\/k=5\/k=6\/k=7\/k=8\/k=9\/k=10\/k=11\/k=12\/k=13:=by omega
  rcases hx with e|e|e|e|e|e|e|e|e|e|e|e|e|e<;>subst e<;>exact⟨_,rfl,by decide⟩)
 have HD:=J (Zbi _ hd);clear hd;go_wp2;go_ret;exact⟨s,hs1,rfl,HD.out⟩
end
def blB(c:UInt8):Bool:=c==32||c==9||c==10||c==13
def blR(x:Nat):Bool:=x==32||x==9||x==10||x==13
def reB(l:List UInt8):List UInt8:=l.map λc=>if blB c=true then 32 else c
def wdB:List UInt8->List UInt8->List (List UInt8)
 |w,[]=>if w=[] then [] else [w]
 |w,c::l=>if blB c=true then (if w=[] then wdB [] l else w::wdB [] l) else wdB (w++[c]) l
theorem Zlo:∀(xs w r:List UInt8),(∀c∈xs,blB c=false)->wdB w (xs++r)=wdB (w++xs) r
 |[],w,r,_=>by simp
 |c::xs,w,r,h=>by
  have h0:=h c (ZDH ..);rw[List.cons_append,wdB,Za (by rw[h0];simp),Zlo xs (w++[c]) r (λd hd=>h d (ZDN _ hd))];simp
theorem ZAy{c:UInt8}(h:128<=c.toNat):blB c=false:=by
 unfold blB;have:∀d:UInt8,d.toNat<128->c≠d:=λd hd e=>by rw[e]at h;omega
 simp[this 32 (by decide),this 9 (by decide),this 10 (by decide),this 13 (by decide)]
theorem Zz6(c:UInt8):blR c.toNat=blB c:=by
 have e:∀d:UInt8,(c.toNat==d.toNat)=(c==d):=λd=>by
  by_cases h:c=d
  ·subst h;rw[beq_self_eq_true,beq_self_eq_true]
  ·have h2:c.toNat≠d.toNat:=λe=>h (UInt8.toNat_inj.1 e)
   rw[beq_eq_false_iff_ne.2 h2,beq_eq_false_iff_ne.2 h]
 unfold blR blB;rw[<-e 32,<-e 9,<-e 10,<-e 13];rfl
theorem ZwE(s:ZB)(j:Nat)(h:j<s.size):s.data.toList[j]?=some (s.get! j):=by
 rw[Zv (by simpa using h)];congr 1;simp[ByteArray.get!,getElem!_pos,h]
theorem Zvc(s:ZB)(pos:Nat)(h:pos<s.size):(blR (Utf8.decode s pos).1=true/\(Utf8.decode s pos).2=1/\blB (s.get! pos)=true)\/
  (blR (Utf8.decode s pos).1=false/\1<=(Utf8.decode s pos).2/\pos+(Utf8.decode s pos).2<=s.size/\∀j,pos<=j->j<pos+(Utf8.decode s pos).2->blB (s.get! j)=false):=by
 rw[Lib.decode_at];have hc:=Lib.decodeN_conts (s.size-pos) (s.get! pos).toNat (s.get! (pos+1)).toNat (s.get! (pos+2)).toNat (s.get! (pos+3)).toNat;by_cases h0:(s.get! pos).toNat<128
 ·have e:Lib.decodeN (s.size-pos) (s.get! pos).toNat (s.get! (pos+1)).toNat (s.get! (pos+2)).toNat (s.get! (pos+3)).toNat=((s.get! pos).toNat,1):=by
   unfold Lib.decodeN;rw[Zd h0]
  rw[e];simp only;rw[Zz6];cases hb:blB (s.get! pos)
  ·refine .inr ⟨rfl,Zb _,by omega,λj h1 h2=>?_⟩;have:j=pos:=by omega
   rw[this];exact hb
  ·exact .inl ⟨by first|rfl|trivial,by first|rfl|trivial,by first|rfl|trivial⟩
 ·right;have hle:=Lib.decodeN_le_n' (s.size-pos) (s.get! pos).toNat (s.get! (pos+1)).toNat (s.get! (pos+2)).toNat (s.get! (pos+3)).toNat (by omega);have hge:=Lib.decodeN_ge1 (s.size-pos) (s.get! pos).toNat (s.get! (pos+1)).toNat (s.get! (pos+2)).toNat (s.get! (pos+3)).toNat;have hru:128<=(Lib.decodeN (s.size-pos) (s.get! pos).toNat (s.get! (pos+1)).toNat (s.get! (pos+2)).toNat (s.get! (pos+3)).toNat).1:=by
   rcases Lib.decodeN_cases (s.size-pos) (s.get! pos).toNat (s.get! (pos+1)).toNat (s.get! (pos+2)).toNat (s.get! (pos+3)).toNat with ⟨h1,-⟩|⟨-,-,-,h1,e⟩|⟨-,-,-,-,h1,e⟩|⟨h1,-⟩|e
   ·omega
   ·rw[e];exact h1
   ·rw[e];simp only;omega
   ·omega
   ·rw[e];decide
  generalize hd:Lib.decodeN (s.size-pos) (s.get! pos).toNat (s.get! (pos+1)).toNat (s.get! (pos+2)).toNat (s.get! (pos+3)).toNat=d at hc hle hge hru;obtain⟨c1,c2,c3,c4⟩:=hc;refine⟨?_,hge,by omega,λj h1 h2=>ZAy ?_⟩
  ·unfold blR;have:∀m:Nat,m<128->(d.1==m)=false:=λm hm=>by simp;omega
   rw[this 32 (by omega),this 9 (by omega),this 10 (by omega),this 13 (by omega)];rfl
  ·rcases(show j=pos\/j=pos+1\/j=pos+2\/j=pos+3 by omega) with e|e|e|e
   ·rw[e];omega
   ·have:=c1 (by omega);rw[e];omega
   ·have:=c2 (by omega);rw[e];omega
   ·have:=c3 (by omega);rw[e];omega
theorem Znd(s:ZB)(a b:Nat):(s.extract a b).data.toList=(s.data.toList.take b).drop a:=by
 rw[ByteArray.data_extract,Array.toList_extract];simp[List.extract_eq_take_drop,List.drop_take]
def ZuE(s:ZB)(st:Option Nat)(pos:Nat):List UInt8:=match st with
 |some a=>(s.data.toList.take pos).drop a
 |none=>[]
def exL(s:ZB)(x:Nat×Nat):List UInt8:=(s.extract x.1 x.2).data.toList
theorem Znx{s:ZB}{a pos k:Nat}(ha:a<=pos)(hk:pos+k<=s.size):(s.data.toList.take (pos+k)).drop a=(s.data.toList.take pos).drop a++(s.data.toList.drop pos).take k:=by
 rw[List.take_add,List.drop_append_of_le_length (by simp;omega)]
theorem ZeX(s:ZB):∀(f pos:Nat) (st:Option Nat) (acc:List (Nat×Nat)),s.size<=pos+f->pos<=s.size->(∀a,st=some a->a<pos)->
  (Lib.closeSpans s (Lib.spansFromP blR s f pos st acc)).map (exL s)=acc.map (exL s)++wdB (ZuE s st pos) (s.data.toList.drop pos)
 |f,pos,st,acc,hf,hp,hs=>by
  by_cases hlt:pos<s.size
  ·obtain⟨f',rfl⟩:∃f',f=f'+1:=⟨f-1,by omega⟩;have hcur:ZuE s st pos=[]↔st=none:=by
    cases st with
    |none=>simp[ZuE]
    |some a=>
     have:=hs a rfl;simp only[ZuE,reduceCtorEq,iff_false];intro e;have e2:=Zn List.length e;simp at e2;omega
   rcases Zvc s pos hlt with ⟨h1,h2,h3⟩|⟨h1,h2,h3,h4⟩
   ·have hd:s.data.toList.drop pos=s.get! pos::s.data.toList.drop (pos+1):=by
     rw[List.drop_eq_getElem_cons (by simpa using hlt)];congr 1;have:=ZwE s pos hlt;rw[Zv (by simpa using hlt)]at this;exact Option.some.inj this
    rw[hd,wdB,Zd h3];unfold Lib.spansFromP;rw[Zd hlt,Zd h1,h2];cases st with
    |none=>
     simp only;rw[ZeX s f' (pos+1) none acc (by omega) (by omega) (λa h=>by cases h),Zd (hcur.2 rfl)];rfl
    |some a=>
     simp only;rw[ZeX s f' (pos+1) none (acc++[(a,pos)]) (by omega) (by omega) (λa h=>by cases h),Za (λe=>by have:=hcur.1 e;cases this)];have e1:exL s (a,pos)=ZuE s (some a) pos:=Znd s a pos;simp[e1,ZuE]
   ·have hd:s.data.toList.drop pos=(s.data.toList.drop pos).take (Utf8.decode s pos).2++s.data.toList.drop (pos+(Utf8.decode s pos).2):=by
     rw[<-List.drop_drop,List.take_append_drop]
    have hnb:∀c∈(s.data.toList.drop pos).take (Utf8.decode s pos).2,blB c=false:=λc hc=>by
     obtain⟨j,hj,e⟩:=List.getElem_of_mem hc;have hj2:j<(Utf8.decode s pos).2:=(by simp at hj;omega);have h9:=ZwE s (pos+j) (by omega);have e9:((s.data.toList.drop pos).take (Utf8.decode s pos).2)[j]?=some c:=(by rw[Zv hj,e]);rw[List.getElem?_take,Zd hj2,List.getElem?_drop,h9]at e9;rw[<-Option.some.inj e9];exact h4 (pos+j) (by omega) (by omega)
    rw[hd,Zlo _ _ _ hnb];unfold Lib.spansFromP;rw[Zd hlt,Za (by rw[h1];simp)];generalize hk:(Utf8.decode s pos).2=k at h2 h3;cases st with
    |none=>
     simp only;rw[ZeX s f' (pos+k) (some pos) acc (by omega) (by omega) (λa h=>by cases h;omega)];congr 2;show(s.data.toList.take (pos+k)).drop pos=[]++_;rw[Znx (Zb _) h3];simp
    |some a=>
     have ha:=hs a rfl;simp only;rw[ZeX s f' (pos+k) (some a) acc (by omega) (by omega) (λb h=>by cases h;omega)];congr 2;exact Znx (by omega) h3
  ·have hpe:pos=s.size:=by omega
   rw[Lib.spansFromP_end _ _ _ _ _ _ hlt,List.drop_eq_nil_of_le (by simp;omega)];unfold wdB Lib.closeSpans;cases st with
   |none=>simp[ZuE]
   |some a=>
    have ha:=hs a rfl;have hne:ZuE s (some a) pos≠[]:=λe=>by
     have e2:=Zn List.length e;simp[ZuE]at e2;omega
    rw[Za hne];simp only[List.map_append,List.map_cons,List.map_nil];congr 2;show(s.extract a s.size).data.toList=_;rw[Znd,hpe];rfl
theorem Zcy(s:ZB):(Lib.goFieldsP blR s).map (·.data.toList)=wdB [] s.data.toList:=by
 unfold Lib.goFieldsP Lib.spansOfP;rw[List.map_map];have:=ZeX s s.size 0 none [] (by omega) (Zx _) (λa h=>by cases h);rw[List.map_nil,List.nil_append,List.drop_zero]at this;exact this
section
open Go.RowKit
theorem ZzJ:(prog.info? 9).map (λi=>(i.zero,i.size,i.bytes))=some (some (.string ⟨#[]⟩),1,16):=by kernel_rfl
def ZpJ:List Value:=[.string ⟨#[9]⟩,.string ⟨#[32]⟩,.string ⟨#[10]⟩,.string ⟨#[32]⟩,.string ⟨#[13]⟩,.string ⟨#[32]⟩]
def Rep(w:World)(R:Nat)(a b c:Int)(f s:Value):Prop:=w.heap[R]?=some (.cells #[.int .u32 a,.int .i32 b,.int .u32 c,f,s] 108 (0,0))
def ZCi(w:World)(e:Ending)(w':World):Prop:=∃R g cap,e=.returned (.pointer (some ⟨R,0,none⟩))/\(w.heap.size<=R/\g<R)/\Rep w' R 0 0 0 .nilIface (.slice (some ⟨g,0,none⟩) 6 cap)/\w'.ownsRow w.heap.size 9 1 (.slice (some ⟨g,0,none⟩) 6 cap) 6 ZpJ/\ZL w w'
theorem Zz0(A:Nat)(w:World)(h:w.heap[A]?=some (.cells ZpJ.toArray 9 (0,0))):
  Calls prog 37 #[.slice (some ⟨A,0,none⟩) 6 6] w (ZCi w):=by
 obtain⟨i0,hi0,hz0,hz1,hz2⟩:=info_parts ZzJ;have HN:=J (World.news_of_block h);have hlt:A<w.heap.size:=(Array.getElem?_eq_some_iff.1 h).1;clear h;go_enter func37,ntmps37
 go_wp2_with (at_builtin;refine wpList_append_lies _ (by rfl) (.const (.slice none 0 0)) (.tmp 8) 31 (by rfl) w.heap.size 9 i0 _ 1 16 underlying31 hi0 hz0 hz1 hz2 rfl (by omega) (.slice none 0 0) 0 [] (by rfl) (ZEo _ _ _ _) ⟨A,0,none⟩ 6 6 ZpJ (by rfl) (by rfl) HN.out (by simp[Value.oneCell',ZpJ]) (by omega) (by unfold maxLen;omega) (by omega) (Zb _) w.heap.size rfl ?_;intro g cap w1 hown hgrow hat hlt1;have HO:=J hown;have HG:=J hgrow;have HA:=J hat;clear hown hgrow hat)
 go_ret;have hb1:ZL w w1:=(Ze _ _).grown HG.out (Zb _) (λk hk=>by cases hk);exact⟨w1.heap.size,g,cap,rfl,⟨hb1.size,hlt1⟩,Zz w1 _,HO.out.alloc _,hb1.alloc hb1.size _⟩
theorem Zdp{w:World}{B:Nat}{e:TypeId}{z:Nat}{v:Value}{n:Nat}{xs:List Value}(h:w.ownsRow B e z v n xs):∃ad cap,v=.slice ad n cap:=by
 rcases h.2 with ⟨rfl,rfl⟩|⟨g,cap,cur,rfl,_⟩
 ·exact⟨_,_,rfl⟩
 ·exact⟨_,_,rfl⟩
theorem ZbX{w w':World}{B e size n:Nat}{v:Value}{xs:List Value}(h:w.ownsRow B e size v n xs)(hb:ZL w w'):w'.ownsRow B e size v n xs:=by
 obtain⟨hl,h⟩:=h;refine⟨hl,?_⟩;rcases h with h|⟨g,cap,cur,hv,hg,hh,h1,h2,h3,h4⟩
 ·exact .inl h
 ·have hlt:g<w.heap.size:=(Array.getElem?_eq_some_iff.1 hh).1;exact .inr ⟨g,cap,cur,hv,hg,(hb.block g hlt).trans hh,h1,h2,h3,h4⟩
theorem Zf1(w:World)(v:Value)(t:TypeId)(j:Nat)(u:Value)(hj:[v][j]?=some u):(w.alloc (.cells #[v] t)).cell? ((⟨w.heap.size,0,none⟩:Addr).add j)=some u:=by
 have h0:j=0:=by
  rcases Nat.eq_zero_or_pos j with h|h
  ·exact h
  ·rw[List.getElem?_eq_none (by simp;omega)]at hj;simp at hj
 subst h0;simp at hj;subst hj;simp[Addr.add]
theorem ZfN(s:ZB):∀u∈[Value.string s],u.oneCell'=true:=by
 intro u hu;simp at hu;subst hu;rfl
theorem ZgO{w wr w2:World}{o:Obj}{e:TypeId}{z:Nat}{ad:Option Addr}{n c:Nat}{xs:List Value}(hb:ZL w wr)(hown:wr.ownsRow w.heap.size e z (.slice ad n c) n xs)
  (hg:(wr.alloc o).grownBy w2 (Value.slice ad n c).ownBlock):ZL w w2:=by
 have h2:ZL w (wr.alloc o):=hb.alloc hb.size o;refine h2.grown hg h2.size λj hj=>?_
 rcases hown.2 with ⟨hv,h0⟩|⟨g,cap,cur,hv,hB,rest⟩
 ·rw[hv]at hj;simp[Value.ownBlock]at hj
 ·rw[hv]at hj;simp[Value.ownBlock]at hj;omega
def ZV(w:World)(G:Nat)(cs:Array Value):Prop:=∃T,w.heap[G]?=some (.cells cs T (0,0))
theorem ZbQ(w:World)(cs:Array Value)(T:TypeId):ZV (w.alloc (.cells cs T)) w.heap.size cs:=⟨T,Zz w _⟩
theorem Zax{w:World}{G:Nat}{cs:Array Value}(h:ZV w G cs):G<w.heap.size:=by
 obtain⟨T,h⟩:=h;exact(Array.getElem?_eq_some_iff.1 h).1
theorem Zas{w w':World}{G B:Nat}{cs:Array Value}(h:ZV w G cs)(hb:Below B w w')(hB:G<B):ZV w' G cs:=by
 obtain⟨T,h⟩:=h;exact⟨T,(hb.block G hB).trans h⟩
theorem ZaI{w:World}{G:Nat}{cs:Array Value}(h:ZV w G cs)(i:Nat):w.cell? ⟨G,i,none⟩=cs[i]?:=by
 obtain⟨T,h⟩:=h;rw[ZO w G i _ T (0,0) h]
theorem ZtH{w:World}{B:Nat}{e:TypeId}{z:Nat}{v:Value}{n:Nat}{xs:List Value}(h:w.ownsRow B e z v n xs)(p:Addr)(u:Value)(hne:v.ownBlock≠some p.block):(w.setCell p u).ownsRow B e z v n xs:=by
 obtain⟨hl,h⟩:=h;refine⟨hl,?_⟩;rcases h with h|⟨g,cap,cur,hv,hg,hh,h1,h2,h3,h4⟩
 ·exact .inl h
 ·have hne2:p.block≠g:=λe=>hne (by rw[hv,e];rfl)
  exact .inr ⟨g,cap,cur,hv,hg,by rw[<-hh];simp[World.setCell,Array.getElem?_modify,hne2],h1,h2,h3,h4⟩
theorem Zps{w:World}{B B':Nat}{e:TypeId}{z:Nat}{v:Value}{n:Nat}{xs:List Value}(h:w.ownsRow B e z v n xs)(hB:B'<=B):w.ownsRow B' e z v n xs:=by
 obtain⟨hl,h⟩:=h;refine⟨hl,?_⟩;rcases h with h|⟨g,cap,cur,hv,hg,hh,h1,h2,h3,h4⟩
 ·exact .inl h
 ·exact .inr ⟨g,cap,cur,hv,ZDA hB hg,hh,h1,h2,h3,h4⟩
theorem ZvX:(prog.info? 2).map (λi=>(i.zero,i.size,i.bytes))=some (some (I 0),1,8):=by kernel_rfl
def ZcZ(k:IntKind)(w:World)(a:Option Addr)(xs:List Int)(B:Nat):Prop:=
 xs≠[]->∃b off,a=some ⟨b,off,none⟩/\b<B/\∀j,j<xs.length->w.cell? ⟨b,off+j,none⟩=some (.int k (xs[j]?.getD 0))
theorem ZiO{k:IntKind}{w:World}{a:Option Addr}{xs:List Int}{B:Nat}(h:ZcZ k w a xs B)(j:Nat)(hj:j<xs.length):∃b off,a=some ⟨b,off,none⟩/\b<B/\∀j,j<xs.length->w.cell? ⟨b,off+j,none⟩=some (.int k (xs[j]?.getD 0)):=
 h (λe=>by rw[e]at hj;simp at hj)
end
def chB(r:Int):Bool:=decide ((0<=r/\r<=55295)\/(57344<=r/\r<=1114111))
theorem Zbl{r:Int}(h:chB r=true):(0<=r/\r<=55295)\/(57344<=r/\r<=1114111):=ZDY h
theorem ZjW{r:Int}(h:chB r=false):¬((0<=r/\r<=55295)\/(57344<=r/\r<=1114111)):=ZDZ h
def rgB(l h:Int):Bool:=chB l&&(chB h&&decide (l<=h))
def Zzc(n:Nat)(L H:Nat->Int):Bool:=(List.range n).all λj=>rgB (L j) (H j)
theorem Zgm{n:Nat}{L H:Nat->Int}{k:Nat}(hk:k<n)(h:rgB (L k) (H k)=false):Zzc n L H=false:=by
 unfold Zzc;rw[List.all_eq_false];exact⟨k,by simpa using hk,by simp[h]⟩
theorem ZnO{n:Nat}{L H:Nat->Int}(h:∀k,k<n->rgB (L k) (H k)=true):Zzc n L H=true:=by
 unfold Zzc;rw[ZDP];intro j hj;exact h j (by simpa using hj)
def ZlR(n:Nat)(L H:Nat->Int):Bool:=decide (1<=n/\n<=12)&&Zzc n L H
def Zza(l h r:Int):Bool:=decide (l<=r/\r<=h)
def Zoi(n:Nat)(L H:Nat->Int)(r:Int):Bool:=(List.range n).any λj=>Zza (L j) (H j) r
theorem ZsC(L H:Nat->Int)(r:Int):Zoi 0 L H r=false:=rfl
theorem Zf6(n:Nat)(L H:Nat->Int)(r:Int):Zoi (n+1) L H r=(Zoi n L H r||Zza (L n) (H n) r):=by
 unfold Zoi;rw[List.range_succ,List.any_append];simp
theorem Zt8{n:Nat}{L H:Nat->Int}{r:Int}{k:Nat}(hk:k<n)(h:Zza (L k) (H k) r=true):Zoi n L H r=true:=by
 unfold Zoi;rw[List.any_eq_true];exact⟨k,by simpa using hk,h⟩
def ZR(kd:Int)(nt:Bool)(n:Nat)(L H:Nat->Int)(a b mn mx:Int):Bool:=
 if kd=1 then !nt&&(((n:Int)==0)&&(a==0&&(b==0&&(mn==0&&mx==0))))
 else if kd=2 then ZlR n L H&&(a==0&&(b==0&&(mn==0&&mx==0)))
 else if kd=3\/kd=4 then !nt&&(((n:Int)==0)&&(mn==0&&mx==0))
 else if kd=5 then !nt&&(((n:Int)==0)&&(b==0&&(decide (0<=mn/\mn<=20)&&(mx == -1||decide (mn<=mx/\mx<=20)))))
 else false
def Zvm(kd:Int)(nt:Bool)(n:Nat)(L H:Nat->Int)(a b mn mx r:Int):Bool:=
 if kd=2 then ZR kd nt n L H a b mn mx&&(chB r&&(Zoi n L H r != nt)) else false
section
open Go.RowKit
theorem Ztg(n a b:Int)(w:World)(h:a<=n/\n<=b):Calls prog 30 #[I n,I a,I b] w λe w'=>e=.returned (.bool true)/\w'=w:=by
 obtain⟨h1,h2⟩:=h;go_enter func30,ntmps30
 go_wp2;go_ret;exact⟨rfl,rfl⟩
theorem ZqR(n a b:Int)(w:World)(h:¬(a<=n/\n<=b)):Calls prog 30 #[I n,I a,I b] w λe w'=>e=.returned (.bool false)/\w'=w:=by
 by_cases h1:a<=n
 ·have h2:¬n<=b:=λx=>h ⟨h1,x⟩
  clear h;go_enter func30,ntmps30
  go_wp2;go_ret;exact⟨rfl,rfl⟩
 ·clear h;go_enter func30,ntmps30
  go_wp2;go_ret;exact⟨rfl,rfl⟩
theorem ZpB(n a b:Int)(w:World)(h:a<=n/\n<=b):Calls prog 64 #[I n,I a,I b] w λe w'=>e=.returned (.bool true)/\w'=w:=by
 obtain⟨h1,h2⟩:=h;go_enter func64,ntmps64
 go_wp2;go_ret;exact⟨rfl,rfl⟩
theorem ZmF(n a b:Int)(w:World)(h:¬(a<=n/\n<=b)):Calls prog 64 #[I n,I a,I b] w λe w'=>e=.returned (.bool false)/\w'=w:=by
 by_cases h1:a<=n
 ·have h2:¬n<=b:=λx=>h ⟨h1,x⟩
  clear h;go_enter func64,ntmps64
  go_wp2;go_ret;exact⟨rfl,rfl⟩
 ·clear h;go_enter func64,ntmps64
  go_wp2;go_ret;exact⟨rfl,rfl⟩
theorem ZoC(r:Int)(w:World)(h:chB r=true):Calls prog 135 #[I r] w λe w'=>e=.returned (.bool true)/\w'=w:=by
 by_cases h1:0<=r/\r<=55295
 ·go_enter func135,ntmps135
  go_wp2_with (go_at_call 30;refine Zc (Ztg _ _ _ _ h1) ?_)
  go_ret;exact⟨rfl,rfl⟩
 ·have h2:57344<=r/\r<=1114111:=(Zbl h).resolve_left h1;go_enter func135,ntmps135
  go_wp2_with (first|(go_at_call_of 30 (Value.int .i64 55295);refine Zc (ZqR _ _ _ _ h1) ?_)|(go_at_call_of 30 (Value.int .i64 57344);refine Zc (Ztg _ _ _ _ h2) ?_))
  go_ret;exact⟨rfl,rfl⟩
theorem ZxX(r:Int)(w:World)(h:chB r=false):Calls prog 135 #[I r] w λe w'=>e=.returned (.bool false)/\w'=w:=by
 have h1:¬(0<=r/\r<=55295):=λx=>ZjW h (Or.inl x)
 have h2:¬(57344<=r/\r<=1114111):=λx=>ZjW h (Or.inr x)
 go_enter func135,ntmps135
 go_wp2_with (first|(go_at_call_of 30 (Value.int .i64 55295);refine Zc (ZqR _ _ _ _ h1) ?_)|(go_at_call_of 30 (Value.int .i64 57344);refine Zc (ZqR _ _ _ _ h2) ?_))
 go_ret;exact⟨rfl,rfl⟩
theorem ZoO(r:Int)(w:World)(h:chB r=true):Calls prog 253 #[I r] w λe w'=>e=.returned (.bool true)/\w'=w:=by
 by_cases h1:0<=r/\r<=55295
 ·go_enter func253,ntmps253
  go_wp2_with (go_at_call 64;refine Zc (ZpB _ _ _ _ h1) ?_)
  go_ret;exact⟨rfl,rfl⟩
 ·have h2:57344<=r/\r<=1114111:=(Zbl h).resolve_left h1;go_enter func253,ntmps253
  go_wp2_with (first|(go_at_call_of 64 (Value.int .i64 55295);refine Zc (ZmF _ _ _ _ h1) ?_)|(go_at_call_of 64 (Value.int .i64 57344);refine Zc (ZpB _ _ _ _ h2) ?_))
  go_ret;exact⟨rfl,rfl⟩
theorem ZxM(r:Int)(w:World)(h:chB r=false):Calls prog 253 #[I r] w λe w'=>e=.returned (.bool false)/\w'=w:=by
 have h1:¬(0<=r/\r<=55295):=λx=>ZjW h (Or.inl x)
 have h2:¬(57344<=r/\r<=1114111):=λx=>ZjW h (Or.inr x)
 go_enter func253,ntmps253
 go_wp2_with (first|(go_at_call_of 64 (Value.int .i64 55295);refine Zc (ZmF _ _ _ _ h1) ?_)|(go_at_call_of 64 (Value.int .i64 57344);refine Zc (ZmF _ _ _ _ h2) ?_))
 go_ret;exact⟨rfl,rfl⟩
def ZdV(w:World)(a:Option Addr)(n:Nat)(L H:Nat->Int)(B:Nat):Prop:=
 0<n->∃b off,a=some ⟨b,off,none⟩/\b<B/\∀j,j<n->w.cell? ⟨b,off+j*2,none⟩=some (I (L j))/\w.cell? ⟨b,off+j*2+1,none⟩=some (I (H j))
theorem Zck{w w':World}{a:Option Addr}{n:Nat}{L H:Nat->Int}{B:Nat}(h:ZdV w a n L H B)(k:Below B w w'):ZdV w' a n L H B:=λh0=>by
 obtain⟨b,off,e,hb,hc⟩:=h h0;exact⟨b,off,e,hb,λj hj=>⟨(k.cell (p:=⟨b,off+j*2,none⟩) hb).trans (hc j hj).1,(k.cell (p:=⟨b,off+j*2+1,none⟩) hb).trans (hc j hj).2⟩⟩
theorem Zb9{w:World}{a:Option Addr}{n:Nat}{L H:Nat->Int}{B B':Nat}(h:ZdV w a n L H B)(k:B<=B'):ZdV w a n L H B':=λh0=>by
 obtain⟨b,off,e,hb,hc⟩:=h h0;exact⟨b,off,e,ZDy hb k,hc⟩
def Zp0(xs:List Value)(k:Nat)(L H:Nat->Int):Prop:=∀j,j<k->xs[j*2]?=some (I (L j))/\xs[j*2+1]?=some (I (H j))
theorem Zq6{w w':World}{B e size n:Nat}{v:Value}{xs:List Value}(h:w.ownsRow B e size v n xs)(hb:ZL w w'):w'.ownsRow B e size v n xs:=by
 obtain⟨hl,h⟩:=h;refine⟨hl,?_⟩;rcases h with h|⟨g,cap,cur,hv,hg,hh,h1,h2,h3,h4⟩
 ·exact .inl h
 ·have hlt:g<w.heap.size:=(Array.getElem?_eq_some_iff.1 hh).1;exact .inr ⟨g,cap,cur,hv,hg,(hb.block g hlt).trans hh,h1,h2,h3,h4⟩
end
section
open Go.RowKit Go.Joins
def ZeG(w:World)(G:Nat)(kd:Int)(nt:Bool)(a:Option Addr)(n c:Nat)(A B mn mx:Int):Prop:=
 ∃T,w.heap[G]?=some (.cells #[I kd,.bool nt,.slice a n c,I A,I B,I mn,I mx] T (0,0))
section
variable {w w1:World} {G:Nat} {kd:Int} {nt:Bool} {a:Option Addr} {n c:Nat} {A B mn mx:Int}
theorem Zly(h:ZeG w G kd nt a n c A B mn mx):G<w.heap.size:=by
 obtain⟨T,h⟩:=h;exact(Array.getElem?_eq_some_iff.1 h).1
theorem Zdq(h:ZeG w G kd nt a n c A B mn mx)(k:ZL w w1):ZeG w1 G kd nt a n c A B mn mx:=by
 have hl:=Zly h;obtain⟨T,h⟩:=h;exact⟨T,(k.block G hl).trans h⟩
theorem Ze3(w:World)(kd:Int)(nt:Bool)(a:Option Addr)(n c:Nat)(A B mn mx:Int)(T:TypeId):ZeG (w.alloc (.cells #[I kd,.bool nt,.slice a n c,I A,I B,I mn,I mx] T)) w.heap.size kd nt a n c A B mn mx:=⟨T,Zz w _⟩
theorem Zav(h:ZeG w G kd nt a n c A B mn mx):w.cell? ⟨G,0,none⟩=some (I kd)/\w.cell? ⟨G,1,none⟩=some (.bool nt)/\w.cell? ⟨G,2,none⟩=some (.slice a n c)/\w.cell? ⟨G,3,none⟩=some (I A)/\w.cell? ⟨G,4,none⟩=some (I B)/\w.cell? ⟨G,5,none⟩=some (I mn)/\w.cell? ⟨G,6,none⟩=some (I mx):=by
 obtain⟨T,h⟩:=h;have e:∀i,w.cell? ⟨G,i,none⟩=#[I kd,.bool nt,.slice a n c,I A,I B,I mn,I mx][i]?:=λi=>by rw[ZO w G i _ T (0,0) h]
 exact⟨e 0,e 1,e 2,e 3,e 4,e 5,e 6⟩
end
theorem Zc9(w:World)(p:Addr)(v:Value)(G:Nat)(h:p.block≠G):(w.setCell p v).heap[G]?=w.heap[G]?:=by
 simp[World.setCell,Array.getElem?_modify,h]
theorem ZcS(w:World)(p:Addr)(v:Value):(w.setCell p v).heap.size=w.heap.size:=by simp[World.setCell]
structure Rx where
 len:Nat
 K:Nat->Int
 A:Nat->Int
 B:Nat->Int
 MN:Nat->Int
 MX:Nat->Int
 NT:Nat->Bool
 NR:Nat->Nat
 L:Nat->Nat->Int
 H:Nat->Nat->Int
def Zh7(w:World)(b o:Nat)(X:Rx)(j:Nat)(ad:Option Addr)(cp:Nat):Prop:=w.cell? ⟨b,o,none⟩=some (I (X.K j))/\w.cell? ⟨b,o+1,none⟩=some (.bool (X.NT j))/\w.cell? ⟨b,o+2,none⟩=some (.slice ad (X.NR j) cp)/\w.cell? ⟨b,o+3,none⟩=some (I (X.A j))/\w.cell? ⟨b,o+4,none⟩=some (I (X.B j))/\w.cell? ⟨b,o+5,none⟩=some (I (X.MN j))/\w.cell? ⟨b,o+6,none⟩=some (I (X.MX j))
def Zch(w:World)(b off:Nat)(X:Rx)(B:Nat):Prop:=∀j,j<X.len->∃ad cp,Zh7 w b (off+j*7) X j ad cp/\ZdV w ad (X.NR j) (X.L j) (X.H j) B
def Zwq(w:World)(a:Option Addr)(X:Rx)(B:Nat):Prop:=0<X.len->∃b off,a=some ⟨b,off,none⟩/\b<B/\Zch w b off X B
theorem ZdR{w w':World}{b o:Nat}{X:Rx}{j:Nat}{ad:Option Addr}{cp B:Nat}(h:Zh7 w b o X j ad cp)(hb:b<B)(k:Below B w w'):Zh7 w' b o X j ad cp:=by
 obtain⟨h0,h1,h2,h3,h4,h5,h6⟩:=h;exact⟨(k.cell (p:=⟨b,o,none⟩) hb).trans h0,(k.cell (p:=⟨b,o+1,none⟩) hb).trans h1,(k.cell (p:=⟨b,o+2,none⟩) hb).trans h2,(k.cell (p:=⟨b,o+3,none⟩) hb).trans h3,(k.cell (p:=⟨b,o+4,none⟩) hb).trans h4,(k.cell (p:=⟨b,o+5,none⟩) hb).trans h5,(k.cell (p:=⟨b,o+6,none⟩) hb).trans h6⟩
theorem ZaN{w w':World}{b off:Nat}{X:Rx}{B:Nat}(h:Zch w b off X B)(hb:b<B)(k:Below B w w'):Zch w' b off X B:=λj hj=>by
 obtain⟨ad,cp,hc,hr⟩:=h j hj;exact⟨ad,cp,ZdR hc hb k,Zck hr k⟩
theorem ZcV{w:World}{b off:Nat}{X:Rx}{B B':Nat}(h:Zch w b off X B)(k:B<=B'):Zch w b off X B':=λj hj=>by
 obtain⟨ad,cp,hc,hr⟩:=h j hj;exact⟨ad,cp,hc,Zb9 hr k⟩
theorem ZxA{w w':World}{a:Option Addr}{X:Rx}{B:Nat}(h:Zwq w a X B)(k:Below B w w'):Zwq w' a X B:=λh0=>by
 obtain⟨b,off,e,hb,hr⟩:=h h0;exact⟨b,off,e,hb,ZaN hr hb k⟩
theorem Zxf{w:World}{a:Option Addr}{X:Rx}{B B':Nat}(h:Zwq w a X B)(k:B<=B'):Zwq w a X B':=λh0=>by
 obtain⟨b,off,e,hb,hr⟩:=h h0;exact⟨b,off,e,ZDy hb k,ZcV hr k⟩
end
section
variable (two cnt:Nat->Bool) (A B:Nat->Int)
def trF:Nat->Nat->Option Nat
 |0,_=>none
 |f+1,n=>
  if two n=true then
   (if n=0\/B n≠(n:Int)-1 then none else
    match trF f (n-1) with
    |none=>none
    |some b=>if b=0\/A n≠(b:Int)-1 then none else trF f (b-1))
  else if cnt n=true then (if n=0\/A n≠(n:Int)-1 then none else trF f (n-1))
  else some n
theorem ZiB:∀(f n b:Nat),trF two cnt A B f n=some b->b<=n
 |0,n,b,h=>by simp[trF]at h
 |f+1,n,b,h=>by
  rw[trF]at h;split at h
  ·split at h
   ·cases h
   ·rename_i hn;cases hr:trF two cnt A B f (n-1) with
    |none=>rw[hr]at h;cases h
    |some c=>
     rw[hr]at h;dsimp only at h;have h1:=ZiB f (n-1) c hr;split at h
     ·cases h
     ·have h2:=ZiB f (c-1) b h;omega
  ·split at h
   ·split at h
    ·cases h
    ·have:=ZiB f (n-1) b h;omega
   ·cases h;exact Zb _
theorem Ze1:∀(f g n:Nat),n<f->n<g->trF two cnt A B f n=trF two cnt A B g n
 |0,g,n,hf,hg=>by omega
 |f+1,0,n,hf,hg=>by omega
 |f+1,g+1,n,hf,hg=>by
  rw[trF,trF];by_cases h2:two n=true
  ·rw[Zd h2,Zd h2];by_cases h0:n=0\/B n≠(n:Int)-1
   ·rw[Zd h0,Zd h0]
   ·rw[Za h0,Za h0,Ze1 f g (n-1) (by omega) (by omega)];cases hr:trF two cnt A B g (n-1) with
    |none=>rfl
    |some c=>
     dsimp only;have hc:=ZiB two cnt A B g (n-1) c hr;by_cases h1:c=0\/A n≠(c:Int)-1
     ·rw[Zd h1,Zd h1]
     ·rw[Za h1,Za h1,Ze1 f g (c-1) (by omega) (by omega)]
  ·rw[Za h2,Za h2];by_cases h3:cnt n=true
   ·rw[Zd h3,Zd h3];by_cases h0:n=0\/A n≠(n:Int)-1
    ·rw[Zd h0,Zd h0]
    ·rw[Za h0,Za h0,Ze1 f g (n-1) (by omega) (by omega)]
   ·rw[Za h3,Za h3]
def tr(n:Nat):Option Nat:=trF two cnt A B (n+1) n
theorem Zh6{n:Nat}(h:two n=true):tr two cnt A B n=if n=0\/B n≠(n:Int)-1 then none else match tr two cnt A B (n-1) with|none=>none|some b=>if b=0\/A n≠(b:Int)-1 then none else tr two cnt A B (b-1):=by
 unfold tr;rw[trF,Zd h];by_cases h0:n=0\/B n≠(n:Int)-1
 ·rw[Zd h0,Zd h0]
 ·rw[Za h0,Za h0,Ze1 two cnt A B n (n-1+1) (n-1) (by omega) (by omega)];cases hr:trF two cnt A B (n-1+1) (n-1) with
  |none=>rfl
  |some c=>
   dsimp only;have hc:=ZiB two cnt A B _ _ c hr;by_cases h1:c=0\/A n≠(c:Int)-1
   ·rw[Zd h1,Zd h1]
   ·rw[Za h1,Za h1,Ze1 two cnt A B n (c-1+1) (c-1) (by omega) (by omega)]
theorem Zh9{n:Nat}(h:¬two n=true)(h3:cnt n=true):tr two cnt A B n=if n=0\/A n≠(n:Int)-1 then none else tr two cnt A B (n-1):=by
 unfold tr;rw[trF,Za h,Zd h3];by_cases h0:n=0\/A n≠(n:Int)-1
 ·rw[Zd h0,Zd h0]
 ·rw[Za h0,Za h0,Ze1 two cnt A B n (n-1+1) (n-1) (by omega) (by omega)]
theorem Zic{n:Nat}(h:¬two n=true)(h3:¬cnt n=true):tr two cnt A B n=some n:=by
 unfold tr;rw[trF,Za h,Za h3]
theorem Ziq{n b:Nat}(h:tr two cnt A B n=some b):b<=n:=ZiB two cnt A B _ _ _ h
theorem Zny:∀(m n b:Nat),n<m->tr two cnt A B n=some b->∀j,b<=j->j<=n->(tr two cnt A B j).isSome=true
 |0,n,b,hm,h,j,hj,hn=>by omega
 |m+1,n,b,hm,h,j,hj,hn=>by
  by_cases e:j=n
  ·subst e;rw[h];rfl
  ·by_cases h2:two n=true
   ·have hh:=h;rw[Zh6 two cnt A B h2]at hh;split at hh
    ·cases hh
    ·cases hr:tr two cnt A B (n-1) with
     |none=>rw[hr]at hh;cases hh
     |some c=>
      rw[hr]at hh;dsimp only at hh;split at hh
      ·cases hh
      ·have hc:=Ziq two cnt A B hr;by_cases hjc:c<=j
       ·exact Zny m (n-1) c (by omega) hr j hjc (by omega)
       ·exact Zny m (c-1) b (by omega) hh j hj (by omega)
   ·by_cases h3:cnt n=true
    ·have hh:=h;rw[Zh9 two cnt A B h2 h3]at hh;split at hh
     ·cases hh
     ·exact Zny m (n-1) b (by omega) hh j hj (by omega)
    ·rw[Zic two cnt A B h2 h3]at h;cases h;omega
variable (mu:Nat->Int)
def wtF:Nat->Nat->Int
 |0,_=>0
 |f+1,n=>min (if two n=true then wtF f (A n).toNat+wtF f (B n).toNat else if cnt n=true then wtF f (A n).toNat*mu n else 1) 2001
theorem Zfa:∀(f g n b:Nat),n<f->n<g->tr two cnt A B n=some b->wtF two cnt A B mu f n=wtF two cnt A B mu g n
 |0,g,n,b,hf,hg,h=>by omega
 |f+1,0,n,b,hf,hg,h=>by omega
 |f+1,g+1,n,b,hf,hg,h=>by
  rw[wtF,wtF];by_cases h2:two n=true
  ·rw[Zd h2,Zd h2];rw[Zh6 two cnt A B h2]at h;split at h
   ·cases h
   ·rename_i h0;cases hr:tr two cnt A B (n-1) with
    |none=>rw[hr]at h;cases h
    |some c=>
     rw[hr]at h;dsimp only at h;split at h
     ·cases h
     ·rename_i h1;have hc:=Ziq two cnt A B hr;have eB:(B n).toNat=n-1:=(by omega);have eA:(A n).toNat=c-1:=(by omega);rw[eA,eB,Zfa f g (n-1) c (by omega) (by omega) hr,Zfa f g (c-1) b (by omega) (by omega) h]
  ·rw[Za h2,Za h2];by_cases h3:cnt n=true
   ·rw[Zd h3,Zd h3];rw[Zh9 two cnt A B h2 h3]at h;split at h
    ·cases h
    ·rename_i h0;have eA:(A n).toNat=n-1:=(by omega);rw[eA,Zfa f g (n-1) b (by omega) (by omega) h]
   ·rw[Za h3,Za h3]
def wt(n:Nat):Int:=wtF two cnt A B mu (n+1) n
theorem ZCb(n:Nat):wt two cnt A B mu n<=2001:=by
 unfold wt;rw[wtF];exact Int.min_le_right _ _
theorem ZpU{n b c:Nat}(h:two n=true)(hn:¬(n=0\/B n≠(n:Int)-1))(hr:tr two cnt A B (n-1)=some c)(hc:¬(c=0\/A n≠(c:Int)-1))(hb:tr two cnt A B (c-1)=some b):
  wt two cnt A B mu n=min (wt two cnt A B mu (c-1)+wt two cnt A B mu (n-1)) 2001:=by
 have hcl:=Ziq two cnt A B hr;unfold wt;rw[wtF,Zd h,show(B n).toNat=n-1 by omega,show(A n).toNat=c-1 by omega,Zfa two cnt A B mu n (n-1+1) (n-1) c (by omega) (by omega) hr,Zfa two cnt A B mu n (c-1+1) (c-1) b (by omega) (by omega) hb]
theorem ZqA{n b:Nat}(h:¬two n=true)(h3:cnt n=true)(hn:¬(n=0\/A n≠(n:Int)-1))(hr:tr two cnt A B (n-1)=some b):
  wt two cnt A B mu n=min (wt two cnt A B mu (n-1)*mu n) 2001:=by
 unfold wt;rw[wtF,Za h,Zd h3,show(A n).toNat=n-1 by omega,Zfa two cnt A B mu n (n-1+1) (n-1) b (by omega) (by omega) hr]
theorem ZlZ{n:Nat}(h:¬two n=true)(h3:¬cnt n=true):wt two cnt A B mu n=1:=by
 unfold wt;rw[wtF,Za h,Za h3]
 decide
end
section
open Go.RowKit Go.Joins
theorem ZC5(n a b:Int)(w:World):Calls prog 30 #[I n,I a,I b] w λe w'=>e=.returned (.bool (decide (a<=n/\n<=b)))/\w'=w:=by
 by_cases h:a<=n/\n<=b
 ·rw[Zh h];exact Ztg n a b w h
 ·rw[Zg h];exact ZqR n a b w h
theorem Zx2(nt:Bool)(a:Option Addr)(n c:Nat)(A B mn mx:Int)(L H:Nat->Int)(w:World)(hn:n<=maxLen):Calls prog 182 #[.agg #[I 1,.bool nt,.slice a n c,I A,I B,I mn,I mx]] w λe w'=>e=.returned (.bool (ZR 1 nt n L H A B mn mx))/\ZL w w':=by
 unfold maxLen at hn;go_enter func182,ntmps182
 go_wp2;all_goals
  go_ret;exact⟨Zo (by first|(simp_all [ZR];done)|(simp_all [ZR];intros;omega)),(Ze _ _).alloc (Zb _) _⟩
theorem Zx0(nt:Bool)(a:Option Addr)(n c:Nat)(A B mn mx:Int)(L H:Nat->Int)(w:World)(hn:n<=maxLen):Calls prog 182 #[.agg #[I 3,.bool nt,.slice a n c,I A,I B,I mn,I mx]] w λe w'=>e=.returned (.bool (ZR 3 nt n L H A B mn mx))/\ZL w w':=by
 unfold maxLen at hn;go_enter func182,ntmps182
 go_wp2;all_goals
  go_ret;exact⟨Zo (by first|(simp_all [ZR];done)|(simp_all [ZR];intros;omega)),(Ze _ _).alloc (Zb _) _⟩
theorem ZwF(nt:Bool)(a:Option Addr)(n c:Nat)(A B mn mx:Int)(L H:Nat->Int)(w:World)(hn:n<=maxLen):Calls prog 182 #[.agg #[I 4,.bool nt,.slice a n c,I A,I B,I mn,I mx]] w λe w'=>e=.returned (.bool (ZR 4 nt n L H A B mn mx))/\ZL w w':=by
 unfold maxLen at hn;go_enter func182,ntmps182
 go_wp2;all_goals
  go_ret;exact⟨Zo (by first|(simp_all [ZR];done)|(simp_all [ZR];intros;omega)),(Ze _ _).alloc (Zb _) _⟩
theorem Zxe(nt:Bool)(a:Option Addr)(n c:Nat)(A B mn mx:Int)(L H:Nat->Int)(w:World)(hn:n<=maxLen):Calls prog 182 #[.agg #[I 5,.bool nt,.slice a n c,I A,I B,I mn,I mx]] w λe w'=>e=.returned (.bool (ZR 5 nt n L H A B mn mx))/\ZL w w':=by
 unfold maxLen at hn;go_enter func182,ntmps182
 go_wp2_with (go_at_call 30;refine Zc (ZC5 _ _ _ _) ?_)
 all_goals
  go_ret;exact⟨Zo (by first|(simp_all [ZR];done)|(simp_all [ZR];intros;omega)),(Ze _ _).alloc (Zb _) _⟩
theorem Zyn(nt:Bool)(a:Option Addr)(n c:Nat)(A B mn mx:Int)(L H:Nat->Int)(w:World)(hn:n<=maxLen)(kd:Int)(hk:¬kd=1/\¬kd=2/\¬kd=3/\¬kd=4/\¬kd=5):Calls prog 182 #[.agg #[I kd,.bool nt,.slice a n c,I A,I B,I mn,I mx]] w λe w'=>e=.returned (.bool (ZR kd nt n L H A B mn mx))/\ZL w w':=by
 unfold maxLen at hn;obtain⟨k1,k2,k3,k4,k5⟩:=hk;have e1:(kd==1)=false:=by simpa using k1
 have e2:(kd==2)=false:=by simpa using k2
 have e3:(kd==3)=false:=by simpa using k3
 have e4:(kd==4)=false:=by simpa using k4
 have e5:(kd==5)=false:=by simpa using k5
 go_enter func182,ntmps182
 go_wp2;go_ret;exact⟨Zo (by simp[ZR,k1,k2,k3,k4,k5]),(Ze _ _).alloc (Zb _) _⟩
theorem ZCQ(n a b:Int)(w:World):Calls prog 64 #[I n,I a,I b] w λe w'=>e=.returned (.bool (decide (a<=n/\n<=b)))/\w'=w:=by
 by_cases h:a<=n/\n<=b
 ·rw[Zh h];exact ZpB n a b w h
 ·rw[Zg h];exact ZmF n a b w h
theorem ZdA{w w1:World}{c:Array Value}{t:TypeId}(h:Below (w.alloc (.cells c t)).heap.size (w.alloc (.cells c t)) w1):ZL w w1:=
 ((Ze w.heap.size w).alloc (Zb _) _).trans (h.mono (by simp))
theorem ZwX(kd:Int)(nt:Bool)(a:Option Addr)(n c:Nat)(A B mn mx:Int)(w:World):Calls prog 262 #[.agg #[I kd,.bool nt,.slice a n c,I A,I B,I mn,I mx]] w λe w'=>e=.returned (.bool (decide (0<=mn/\mn<=20)&&(mx == -1||decide (mn<=mx/\mx<=20))))/\ZL w w':=by
 go_enter func262,ntmps262
 go_wp2_with (go_at_call 64;refine Zc (ZCQ _ _ _ _) ?_)
 all_goals
  go_ret;exact⟨Zo (by first|(simp_all;done)|(simp_all;intros;omega)),(Ze _ _).alloc (Zb _) _⟩
theorem Zyy(nt:Bool)(a:Option Addr)(n c:Nat)(A B mn mx:Int)(L H:Nat->Int)(w:World)(hn:n<=maxLen):Calls prog 223 #[.agg #[I 1,.bool nt,.slice a n c,I A,I B,I mn,I mx]] w λe w'=>e=.returned (.bool (ZR 1 nt n L H A B mn mx))/\ZL w w':=by
 unfold maxLen at hn;go_enter func223,ntmps223
 go_wp2;all_goals
  go_ret;exact⟨Zo (by first|(simp_all [ZR];done)|(simp_all [ZR];intros;omega)),(Ze _ _).alloc (Zb _) _⟩
theorem ZxU(nt:Bool)(a:Option Addr)(n c:Nat)(A B mn mx:Int)(L H:Nat->Int)(w:World)(hn:n<=maxLen):Calls prog 223 #[.agg #[I 3,.bool nt,.slice a n c,I A,I B,I mn,I mx]] w λe w'=>e=.returned (.bool (ZR 3 nt n L H A B mn mx))/\ZL w w':=by
 unfold maxLen at hn;go_enter func223,ntmps223
 go_wp2;all_goals
  go_ret;exact⟨Zo (by first|(simp_all [ZR];done)|(simp_all [ZR];intros;omega)),(Ze _ _).alloc (Zb _) _⟩
theorem Zy6(nt:Bool)(a:Option Addr)(n c:Nat)(A B mn mx:Int)(L H:Nat->Int)(w:World)(hn:n<=maxLen):Calls prog 223 #[.agg #[I 4,.bool nt,.slice a n c,I A,I B,I mn,I mx]] w λe w'=>e=.returned (.bool (ZR 4 nt n L H A B mn mx))/\ZL w w':=by
 unfold maxLen at hn;go_enter func223,ntmps223
 go_wp2;all_goals
  go_ret;exact⟨Zo (by first|(simp_all [ZR];done)|(simp_all [ZR];intros;omega)),(Ze _ _).alloc (Zb _) _⟩
theorem Zy4(nt:Bool)(a:Option Addr)(n c:Nat)(A B mn mx:Int)(L H:Nat->Int)(w:World)(hn:n<=maxLen)(kd:Int)(hk:¬kd=1/\¬kd=2/\¬kd=3/\¬kd=4/\¬kd=5):Calls prog 223 #[.agg #[I kd,.bool nt,.slice a n c,I A,I B,I mn,I mx]] w λe w'=>e=.returned (.bool (ZR kd nt n L H A B mn mx))/\ZL w w':=by
 unfold maxLen at hn;obtain⟨k1,k2,k3,k4,k5⟩:=hk;have e1:(kd==1)=false:=by simpa using k1
 have e2:(kd==2)=false:=by simpa using k2
 have e3:(kd==3)=false:=by simpa using k3
 have e4:(kd==4)=false:=by simpa using k4
 have e5:(kd==5)=false:=by simpa using k5
 go_enter func223,ntmps223
 go_wp2;all_goals
  go_ret;exact⟨Zo (by simp[ZR,k1,k2,k3,k4,k5]),(Ze _ _).alloc (Zb _) _⟩
theorem Zyq(nt:Bool)(a:Option Addr)(n c:Nat)(A B mn mx:Int)(L H:Nat->Int)(w:World)(hn:n<=maxLen):Calls prog 223 #[.agg #[I 5,.bool nt,.slice a n c,I A,I B,I mn,I mx]] w λe w'=>e=.returned (.bool (ZR 5 nt n L H A B mn mx))/\ZL w w':=by
 unfold maxLen at hn;go_enter func223,ntmps223
 go_wp2_with (go_at_call 262;refine ZM (ZwX _ _ _ _ _ _ _ _ _ _) ?_;rintro w2 hb2;have HB2:=J hb2;clear hb2)
 all_goals
  go_ret;first
   |exact⟨Zo (by first|(simp_all [ZR];done)|(simp_all [ZR];intros;omega)),(Ze _ _).alloc (Zb _) _⟩
   |exact⟨Zo (by first|(simp_all [ZR];done)|(simp_all [ZR];intros;omega)),ZdA HB2.out⟩
end
def Zr(s:ZB):Bool:=(List.range s.size).all λj=>Z0 (at8 s j)
theorem Zhi(s:ZB)(k:Nat)(hk:k<s.size)(h:Z0 (s[k].toNat:Int)=false):Zr s=false:=by
 unfold Zr;rw[List.all_eq_false];refine⟨k,by simpa using hk,?_⟩;rw[ZaX s k hk,h];simp
theorem Zdr(s:ZB)(h:∀j (h:j<s.size),Z0 (s[j].toNat:Int)=true):Zr s=true:=by
 unfold Zr;rw[ZDP];intro j hj;have hj':j<s.size:=by simpa using hj
 rw[ZaX s j hj'];exact h j hj'
theorem Zfg(s:ZB)(h:Zr s=true)(j:Nat)(hj:j<s.size):Z0 (s[j].toNat:Int)=true:=by
 unfold Zr at h;rw[ZDP]at h;have:=h j (by simpa using hj)
 rwa [ZaX s j hj]at this
def ZP(neg:Bool)(s:ZB)(sc:Int):Bool:=
 decide (s.size<=60)&&(Zr s&&(decide (0<=sc/\sc<=60)&&(if s.size=0 then !neg&&decide (sc=0) else decide (at8 s 0≠48)&&(decide (sc=0)||decide (at8 s (s.size-1)≠48)))))
theorem Zij(neg:Bool)(s:ZB)(sc:Int)(h:60<s.size):ZP neg s sc=false:=by
 have:decide (s.size<=60)=false:=by simp;omega
 simp[ZP,this]
theorem Zlb(neg:Bool)(s:ZB)(sc:Int)(h:Zr s=false):ZP neg s sc=false:=by
 simp[ZP,h]
theorem Zgh(neg:Bool)(s:ZB)(sc:Int)(h:sc<0\/60<sc):ZP neg s sc=false:=by
 have:decide (0<=sc/\sc<=60)=false:=by simp;omega
 simp[ZP,this]
theorem Zdx(neg:Bool)(s:ZB)(sc:Int)(h:s.size=0):ZP neg s sc=(!neg&&decide (sc=0)):=by
 have h1:Zr s=true:=by simp[Zr,h]
 cases neg
 ·by_cases e:sc=0
  ·subst e;simp[ZP,h,h1]
  ·simp[ZP,h,h1,e]
 ·simp[ZP,h]
theorem ZeT(neg:Bool)(s:ZB)(sc:Int)(h0:0<s.size)(h:s.size<=60)(hd:Zr s=true)(h1:0<=sc)(h2:sc<=60):
  ZP neg s sc=(decide ((s[0].toNat:Int)≠48)&&(decide (sc=0)||decide ((s[s.size-1].toNat:Int)≠48))):=by
 have e0:decide (s.size<=60)=true:=by simp;omega
 have e1:decide (0<=sc/\sc<=60)=true:=by simp;omega
 have e2:¬s.size=0:=by omega
 rw[<-ZaX s 0 h0,<-ZaX s (s.size-1) (by omega)];simp[ZP,e0,e1,hd,e2]
theorem ZgK(neg:Bool)(s:ZB)(sc:Int)(h0:0<s.size)(h:(s[0].toNat:Int)=48):ZP neg s sc=false:=by
 have e2:¬s.size=0:=by omega
 rw[<-ZaX s 0 h0]at h;simp[ZP,e2,h]
def ZbK(k:Nat):ZB:=⟨(List.replicate k (48:UInt8)).toArray⟩
theorem Zeh(k:Nat):(ZbK k).size=k:=by simp[ZbK,ByteArray.size]
theorem Zel:ZbK 0=ByteArray.empty:=rfl
theorem Zdf{a b:ZB}(h:a.data.toList=b.data.toList):a=b:=by
 cases a;cases b;simp only[ByteArray.mk.injEq];exact Array.toList_inj.1 h
theorem Zl6(k:Nat):(⟨#[48]⟩:ZB)++ZbK k=ZbK (k+1):=by
 apply Zdf;simp[ZbK,List.replicate_succ]
theorem Zje(k:Nat)(s:ZB):(⟨#[48]⟩:ZB)++(ZbK k++s)=ZbK (k+1)++s:=by
 rw[<-ZDO,Zl6]
def Zgf(s:ZB)(c:Int):ZB:=ZbK (c+1-s.size).toNat++s
theorem Zla(s:ZB)(c:Int):(Zgf s c).size=(c+1-s.size).toNat+s.size:=by simp[Zgf,Zeh]
def ZbL(t:ZB)(c:Int):ZB:=t.extract 0 (t.size-c.toNat)++(⟨#[46]⟩:ZB)++t.extract (t.size-c.toNat) t.size
def Zda(s:ZB)(c:Int):ZB:=if c=0 then Zgf s c else ZbL (Zgf s c) c
def ZeV(n:Bool)(s:ZB)(c:Int):ZB:=if ZP n s c=true then (if n then (⟨#[45]⟩:ZB)++Zda s c else Zda s c) else ByteArray.empty
theorem Zbm{n:Bool}{s:ZB}{c:Int}(h:ZP n s c=true):s.size<=60/\0<=c/\c<=60:=by
 simp only[ZP,ZW,Z6]at h;omega
theorem ZeH{a b:ZB}(h:a=b):Ending.returned (.string a)=.returned (.string b):=by rw[h]
def dgt(c:UInt8):Nat:=c.toNat-48
def Zw(l:List UInt8):Nat:=l.foldl (λa c=>10*a+dgt c) 0
theorem ZkM(l:List UInt8):∀a,l.foldl (λa c=>10*a+dgt c) a=a*10^l.length+Zw l:=by
 induction l with
 |nil=>intro a;simp[Zw]
 |cons c l ih=>
  intro a;simp only[List.foldl_cons,ZDB,Zw];rw[ih (10*a+dgt c),ih (10*0+dgt c),Nat.pow_succ];generalize Zw l=v;generalize 10^l.length=p;generalize dgt c=d;rw[Nat.add_mul,Nat.add_mul,Nat.mul_comm 10 a,Nat.mul_assoc a 10 p,Nat.mul_comm 10 p];omega
theorem ZnI:Zw []=0:=rfl
theorem Zb1(c:UInt8)(l:List UInt8):Zw (c::l)=dgt c*10^l.length+Zw l:=by
 have:=ZkM l (10*0+dgt c);simp only[Zw,List.foldl_cons]at this ⊢;rw[this];simp
theorem Zhd(a b:List UInt8):Zw (a++b)=Zw a*10^b.length+Zw b:=by
 unfold Zw;rw[List.foldl_append,ZkM b];rfl
theorem Zgg(k:Nat):Zw (List.replicate k 48)=0:=by
 induction k with
 |zero=>rfl
 |succ k ih=>rw[List.replicate_succ,Zb1,ih];simp[dgt]
def dgL(l:List UInt8):Prop:=∀c∈l,48<=c.toNat/\c.toNat<=57
theorem ZhQ{a b:List UInt8}(ha:dgL a)(hb:dgL b):dgL (a++b):=λc h=>by
 rcases List.mem_append.1 h with h|h
 ·exact ha c h
 ·exact hb c h
theorem ZhK(k:Nat):dgL (List.replicate k 48):=λc h=>by
 rw[(List.mem_replicate.1 h).2];decide
theorem ZgY(s:ZB)(h:Zr s=true):dgL s.data.toList:=λc hc=>by
 obtain⟨j,hj,rfl⟩:=List.getElem_of_mem hc;have hj':j<s.size:=by simpa using hj
 have:=Zfg s h j hj';simp only[Z0,Z6]at this;have e:s.data.toList[j]=s[j]:=rfl;rw[e];omega
theorem ZjT(l:List UInt8)(h:dgL l):Zw l<10^l.length:=by
 induction l with
 |nil=>simp[Zw]
 |cons c l ih=>
  have h1:=h c ZDH;have h2:=ih (λd hd=>h d (ZDN _ hd));rw[Zb1,ZDB,Nat.pow_succ];have h3:dgt c<=9:=by unfold dgt;omega
  have h4:dgt c*10^l.length<=9*10^l.length:=Nat.mul_le_mul_right _ h3;omega
theorem Zqe:∀(x y:List UInt8),dgL x->dgL y->x.length=y.length->(x<y↔Zw x<Zw y)
 |[],[],_,_,_=>by simp[Zw]
 |[],_::_,_,_,h=>by simp at h
 |_::_,[],_,_,h=>by simp at h
 |c::x,d::y,hx,hy,h=>by
  have hl:x.length=y.length:=by simpa using h
  have c1:=hx c ZDH;have d1:=hy d ZDH;have hx':dgL x:=λe he=>hx e (ZDN _ he)
  have hy':dgL y:=λe he=>hy e (ZDN _ he)
  have ih:=Zqe x y hx' hy' hl;have vx:=ZjT x hx';have vy:=ZjT y hy';rw[List.cons_lt_cons_iff,Zb1,Zb1,hl];rw[hl]at vx;generalize hp:10^y.length=p at *
  rcases Nat.lt_trichotomy c.toNat d.toNat with h1|h1|h1
  ·have:dgt c+1<=dgt d:=by unfold dgt;omega
   have:=Nat.mul_le_mul_right p this;rw[Nat.add_mul,Nat.one_mul]at this;constructor
   ·intro _;omega
   ·intro _;left;exact UInt8.lt_iff_toNat_lt.2 h1
  ·have e:c=d:=UInt8.toNat_inj.1 h1;subst e;constructor
   ·rintro (h2|⟨_,h2⟩)
    ·exact absurd (UInt8.lt_iff_toNat_lt.1 h2) (by omega)
    ·have:=ih.1 h2;omega
   ·intro h2;right;exact⟨rfl,ih.2 (by omega)⟩
  ·have:dgt d+1<=dgt c:=by unfold dgt;omega
   have:=Nat.mul_le_mul_right p this;rw[Nat.add_mul,Nat.one_mul]at this;constructor
   ·rintro (h2|⟨h2,_⟩)
    ·exact absurd (UInt8.lt_iff_toNat_lt.1 h2) (by omega)
    ·exact absurd (Zn UInt8.toNat h2) (by omega)
   ·intro h2;omega
theorem Zrn:∀(x y:List UInt8),dgL x->dgL y->x.length=y.length->Zw x=Zw y->x=y
 |[],[],_,_,_,_=>rfl
 |[],_::_,_,_,h,_=>by simp at h
 |_::_,[],_,_,h,_=>by simp at h
 |c::x,d::y,hx,hy,h,hv=>by
  have hl:x.length=y.length:=by simpa using h
  have c1:=hx c ZDH;have d1:=hy d ZDH;have hx':dgL x:=λe he=>hx e (ZDN _ he)
  have hy':dgL y:=λe he=>hy e (ZDN _ he)
  have vx:=ZjT x hx';have vy:=ZjT y hy';rw[Zb1,Zb1,hl]at hv;rw[hl]at vx;have hcd:c.toNat=d.toNat:=by
   generalize hp:10^y.length=p at *
   rcases Nat.lt_trichotomy c.toNat d.toNat with h1|h1|h1
   ·have:dgt c+1<=dgt d:=by unfold dgt;omega
    have:=Nat.mul_le_mul_right p this;rw[Nat.add_mul,Nat.one_mul]at this;omega
   ·exact h1
   ·have:dgt d+1<=dgt c:=by unfold dgt;omega
    have:=Nat.mul_le_mul_right p this;rw[Nat.add_mul,Nat.one_mul]at this;omega
  have e:c=d:=UInt8.toNat_inj.1 hcd;subst e;rw[Zrn x y hx' hy' hl (by omega)]
theorem Zoe:∀(x y:List UInt8),Op.bytesLess x y=decide (x<y)
 |[],[]=>by simp[Op.bytesLess]
 |_::_,[]=>by simp[Op.bytesLess]
 |[],_::_=>by simp[Op.bytesLess]
 |a::x,b::y=>by
  rw[Op.bytesLess,Zoe x y,Bool.eq_iff_iff];simp[List.cons_lt_cons_iff]
theorem ZtT(x y:ZB)(hx:dgL x.data.toList)(hy:dgL y.data.toList)(h:x.size=y.size):Op.bytesLess x.toList y.toList=decide (Zw x.data.toList<Zw y.data.toList):=by
 rw[ZEr,ZEr,Zoe,Bool.eq_iff_iff];simp only[Z6];exact Zqe _ _ hx hy (by simpa using h)
theorem ZBv(x y:ZB)(hx:dgL x.data.toList)(hy:dgL y.data.toList)(h:x.size=y.size):(x.toList==y.toList)=decide (Zw x.data.toList=Zw y.data.toList):=by
 rw[ZEr,ZEr,Bool.eq_iff_iff];simp only[Z6,ZEd];exact⟨λe=>by rw[e],Zrn _ _ hx hy (by simpa using h)⟩
def Zct(x s:ZB)(k:Nat):Prop:=∃p,x=ZbK p++(s++ZbK k)
theorem ZaD(a b:ZB):(a++b).data.toList=a.data.toList++b.data.toList:=by simp
theorem ZcT(k:Nat):(ZbK k).data.toList=List.replicate k 48:=by simp[ZbK]
theorem Zpy{x s:ZB}{k:Nat}(h:Zct x s k):Zw x.data.toList=Zw s.data.toList*10^k:=by
 obtain⟨p,rfl⟩:=h;rw[ZaD,ZaD,Zhd,Zhd,ZcT,ZcT,Zgg,Zgg];simp
theorem Zf3{x s:ZB}{k:Nat}(h:Zct x s k)(hd:Zr s=true):dgL x.data.toList:=by
 obtain⟨p,rfl⟩:=h;rw[ZaD,ZaD,ZcT,ZcT];exact ZhQ (ZhK _) (ZhQ (ZgY s hd) (ZhK _))
theorem Zep{x s:ZB}{k:Nat}(h:Zct x s k):Zct ((⟨#[48]⟩:ZB)++x) s k:=by
 obtain⟨p,rfl⟩:=h;exact⟨p+1,Zje p _⟩
theorem Zlq(s:ZB)(k:Nat):s++ZbK k++(⟨#[48]⟩:ZB)=s++ZbK (k+1):=by
 rw[ZDO];congr 1;apply Zdf;simp[ZbK,List.replicate_succ']
theorem ZdF(s:ZB)(k:Nat):Zct (s++ZbK k) s k:=⟨0,by rw[Zel];simp⟩
def mag(s:ZB)(c:Int):Nat:=Zw s.data.toList*10^(60-c).toNat
def ZaK(n:Bool)(s:ZB)(c:Int):Int:=if n then -(mag s c:Int) else (mag s c:Int)
def ZnC(a b:Int):Int:=if a<b then -1 else if b<a then 1 else 0
def Zho(n:Bool)(s:ZB)(c:Int)(m:Bool)(t:ZB)(d:Int):Int:=if ZP n s c=true/\ZP m t d=true then ZnC (ZaK n s c) (ZaK m t d) else 2
theorem ZfC{a b:Int}(h:a<b):ZnC a b = -1:=Zd h
theorem ZfD{a b:Int}(h:b<a):ZnC a b=1:=by unfold ZnC;rw[Za (by omega),Zd h]
theorem ZmR{a b:Int}(h:a=b):ZnC a b=0:=by unfold ZnC;rw[Za (by omega),Za (by omega)]
theorem ZqO{x s:ZB}{c g:Int}(h:Zct x s (g-c).toNat)(h1:c<=g)(h2:g<=60):mag s c=Zw x.data.toList*10^(60-g).toNat:=by
 rw[Zpy h,mag,Nat.mul_assoc,<-Nat.pow_add,show(g-c).toNat+(60-g).toNat=(60-c).toNat by omega]
theorem ZfQ(k:Nat):0<10^k:=Nat.pow_pos (by decide)
theorem Zll{a b p:Nat}(h:a<b)(hp:0<p):a*p<b*p:=Nat.mul_lt_mul_of_pos_right h hp
theorem Zy7{s:ZB}{c:Int}(h:ZP true s c=true):0<Zw s.data.toList:=by
 have hb:=Zbm h;have hd:Zr s=true:=by simp only[ZP,ZW]at h;exact h.2.1
 by_cases h0:s.size=0
 ·rw[Zdx _ _ _ h0]at h;simp at h
 ·have hf:(s[0].toNat:Int)≠48:=λe=>by rw[ZgK true s c (by omega) e]at h;simp at h
  have hl:=ZgY s hd;cases hq:s.data.toList with
  |nil=>exact absurd (by simpa using Zn List.length hq) h0
  |cons a l=>
   have ea:s[0]=a:=by
    have:s.data.toList[0]?=some a:=by rw[hq];rfl
    have h2:s.data.toList[0]?=some s[0]:=Zv (by simp;omega);rw[h2]at this;exact Option.some.inj this
   rw[hq]at hl;have:=hl a ZDH;rw[ea]at hf;rw[Zb1];have h3:1<=dgt a:=by unfold dgt;omega
   have h4:=Nat.mul_le_mul_right (10^l.length) h3;have:=ZfQ l.length;omega
theorem ZeR{s:ZB}{c:Int}(h:ZP true s c=true):0<mag s c:=Nat.mul_pos (Zy7 h) (ZfQ _)
theorem ZaT{n:Bool}{s:ZB}{c:Int}(h:ZP n s c=true):Zr s=true:=by
 simp only[ZP,ZW]at h;exact h.2.1
section
open Go.RowKit
theorem Zjn{P:Program}{w:World}{o:Oper}{a:Act}{K:Act->World->Prop}{Q:Exit->Act->World->Prop}(s x:Operand)(t:TypeId)
  (ho:o.op=.call { callee:=.builtin .append,args:=#[s,x],argTypes:=#[t,t] })
  (base:Nat) (e:TypeId) (i:TypeInfo) (z:Value) (size bytes:Nat) (ht:P.underlying t=some (.slice e)) (hi:P.info? e=some i) (hz:i.zero=some z)
  (hsize:i.size=size) (hby:i.bytes=bytes) (hzs:z.cells.size=size) (hsz:0<size)
  (v:Value) (n:Nat) (xs:List Value) (hs:a.eval s=v) (hown:w.ownsRow base e size v n xs)
  (xa:Option Addr) (m c:Nat) (news:List Value) (hx:a.eval x=.slice xa m c) (hl:news.length=m*size) (hnews:0<m->∃ad,xa=some ad/\∀j u,news[j]?=some u->w.cell? (ad.add j)=some u) (h1:∀u∈news,u.oneCell'=true)
  (h63:n+m<=maxLen) (hbytes:(n+m)*bytes<=140737488355328) (hbase:base<=w.heap.size)
  (h:∀a' c' w',w'.ownsRow base e size (.slice a' (n+m) c') (n+m) (xs++news)->w.grownBy w' v.ownBlock->K (a.put o.dst (.slice a' (n+m) c')) w'):o.wp P a w K Q:=by
 by_cases hm:0<m
 ·obtain⟨ad,rfl,hnw⟩:=hnews hm;exact wp_append_lies w s x t ho base e i z size bytes ht hi hz hsize hby hzs hsz v n xs hs hown ad m c news hx hl hnw h1 hm h63 hbytes hbase _ rfl (λg cap w' k1 k2 _ _=>h _ _ w' k1 k2)
 ·obtain rfl:m=0:=by omega
  rw[Nat.zero_mul]at hl;obtain rfl:news=[]:=List.length_eq_zero_iff.1 hl;have hv:∃a' c',v=.slice a' n c'/\n<=c':=by
   rcases hown.2 with ⟨rfl,rfl⟩|⟨g,cap,cur,rfl,_,_,hc,_⟩
   ·exact⟨none,0,rfl,Zb _⟩
   ·exact⟨_,cap,rfl,hc⟩
  obtain⟨a',c',rfl,hc⟩:=hv;have hsrc:Src P i.size t (.slice xa 0 c) 0 [] w:=by
   cases xa with
   |none=>exact Src.ofNil w ht c
   |some ad=>exact Src.ofSlice w ht ad 0 c [] (by simp) (λj u hj=>by simp at hj) (λu hu=>by cases hu)
  have hr:=run_append_nothing (P:=P) w t t o.type e i ht hi a' n c' hc (.slice xa 0 c) hsrc;unfold Oper.wp execOp;simp only[ho,resolve,invoke,builtin,Sem.run_bind,Sem.run_pure,Result.andThen_ok,List.map_toArray,List.map_cons,List.map_nil,hs,hx,hr];exact h a' c' w (by rw[List.append_nil];exact hown) ⟨rfl,rfl,rfl,Zb _,λ_ _ _=>rfl⟩
theorem Zd8{P:Program}{w:World}{ops:Array Oper}{rest:List Oper}{o:Oper}{a:Act}{Q:Exit->Act->World->Prop}(hgd:o.guard=none)(s x:Operand)(t:TypeId)
  (ho:o.op=.call { callee:=.builtin .append,args:=#[s,x],argTypes:=#[t,t] })
  (base:Nat) (e:TypeId) (i:TypeInfo) (z:Value) (size bytes:Nat) (ht:P.underlying t=some (.slice e)) (hi:P.info? e=some i) (hz:i.zero=some z)
  (hsize:i.size=size) (hby:i.bytes=bytes) (hzs:z.cells.size=size) (hsz:0<size)
  (v:Value) (n:Nat) (xs:List Value) (hs:a.eval s=v) (hown:w.ownsRow base e size v n xs)
  (xa:Option Addr) (m c:Nat) (news:List Value) (hx:a.eval x=.slice xa m c) (hl:news.length=m*size) (hnews:0<m->∃ad,xa=some ad/\∀j u,news[j]?=some u->w.cell? (ad.add j)=some u) (h1:∀u∈news,u.oneCell'=true)
  (h63:n+m<=maxLen) (hbytes:(n+m)*bytes<=140737488355328) (hbase:base<=w.heap.size)
  (h:∀a' c' w',w'.ownsRow base e size (.slice a' (n+m) c') (n+m) (xs++news)->w.grownBy w' v.ownBlock->wpList P ops Q rest (a.put o.dst (.slice a' (n+m) c')) w'):wpList P ops Q (o::rest) a w:=
 wpList_plain hgd λ_ hK=>Zjn s x t ho base e i z size bytes ht hi hz hsize hby hzs hsz v n xs hs hown xa m c news hx hl hnews h1 h63 hbytes hbase λa' c' w' h2 h3=>hK _ _ (h a' c' w' h2 h3)
theorem Zkv(c:Int):c<=47\/(48<=c/\c<=57)\/58<=c:=by omega
theorem ZBC(c:Int)(w:World):Calls prog 130 #[.int .u8 c] w λe w'=>e=.returned (.bool (Z0 c))/\w'=w:=by
 rcases Zkv c with h|⟨h,h'⟩|h
 all_goals
  go_enter func130,ntmps130
  go_wp2;go_ret;exact⟨Zo (by first|decide|(rw[Bool.eq_iff_iff];simp only[Z0,ZDI,ZW,Z6,ZEd,true_iff,false_iff,iff_true,iff_false,ZN];omega)),rfl⟩
theorem ZhN(n a b:Int)(w:World):Calls prog 30 #[I n,I a,I b] w λe w'=>e=.returned (.bool (decide (a<=n/\n<=b)))/\w'=w:=by
 by_cases h1:a<=n<;>by_cases h2:n<=b
 all_goals
  go_enter func30,ntmps30
  go_wp2;go_ret;exact⟨Zo (by simp[h1,h2]),rfl⟩
theorem Zk3(n a b:Int)(w:World):Calls prog 64 #[I n,I a,I b] w λe w'=>e=.returned (.bool (decide (a<=n/\n<=b)))/\w'=w:=by
 by_cases h1:a<=n<;>by_cases h2:n<=b
 all_goals
  go_enter func64,ntmps64
  go_wp2;go_ret;exact⟨Zo (by simp[h1,h2]),rfl⟩
theorem ZbJ(s:ZB)(w:World)(hs:s.size<=maxLen):Calls prog 137 #[.string s] w λe w'=>e=.returned (.bool (Zr s))/\w'=w:=by
 unfold maxLen at hs;go_enter func137,ntmps137
 go_wp2
 go_loop [3] (λi=>∃k:Nat,k<=s.size/\i=I k/\∀j (h:j<s.size),j<k->Z0 (s[j].toNat:Int)=true) (λi=>s.size-(Zi i).toNat)
 case atStart=>exact⟨0,by omega,rfl,λj h b=>by omega⟩
 case round=>
  obtain⟨k,hk,rfl,hm⟩:=hrel;have HM:=J hm;clear hm;by_cases hlt:k<s.size
  ·cases hb:Z0 (s[k].toNat:Int)
   ·go_wp2_with (go_at_call 130;refine Zc (ZBC _ _) ?_)
    go_ret;exact⟨Zo (Zhi s k hlt hb).symm,rfl⟩
   ·go_wp2_with (go_at_call 130;refine Zc (ZBC _ _) ?_)
    go_round
    case rel=>
     refine⟨k+1,by omega,by go_num,λj h b=>?_⟩;by_cases e:j=k
     ·subst e;exact hb
     ·exact HM.out j h (by omega)
    case measure=>simp[Zi];omega
  ·go_wp2;go_ret;exact⟨Zo (Zdr s (λj h=>HM.out j h (by omega))).symm,rfl⟩
theorem ZAv{c:Int}(h:c<48):Z0 c=false:=by simp only[Z0,decide_eq_false_iff_not];omega
theorem ZAa{c:Int}(h:57<c):Z0 c=false:=by simp only[Z0,decide_eq_false_iff_not];omega
theorem ZAo{c:Int}(h:48<=c)(h':c<=57):Z0 c=true:=by simp only[Z0,Z6];omega
theorem Zf7(s:ZB)(w:World)(hs:s.size<=maxLen):Calls prog 162 #[.string s] w λe w'=>e=.returned (.bool (Zr s))/\w'=w:=by
 unfold maxLen at hs;go_enter func162,ntmps162
 go_wp2
 go_loop [3] (λi=>∃k:Nat,k<=s.size/\i=I k/\∀j (h:j<s.size),j<k->Z0 (s[j].toNat:Int)=true) (λi=>s.size-(Zi i).toNat)
 case atStart=>exact⟨0,by omega,rfl,λj h b=>by omega⟩
 case round=>
  obtain⟨k,hk,rfl,hm⟩:=hrel;have HM:=J hm;clear hm;by_cases hlt:k<s.size
  ·rcases Zkv (s[k].toNat:Int) with h|⟨h,h'⟩|h
   ·go_wp2;go_ret;exact⟨Zo (Zhi s k hlt (ZAv (by omega))).symm,rfl⟩
   ·go_wp2
    go_round
    case rel=>
     refine⟨k+1,by omega,by go_num,λj hj b=>?_⟩;by_cases e:j=k
     ·subst e;exact ZAo h h'
     ·exact HM.out j hj (by omega)
    case measure=>simp[Zi];omega
   ·go_wp2;go_ret;exact⟨Zo (Zhi s k hlt (ZAa (by omega))).symm,rfl⟩
  ·go_wp2;go_ret;exact⟨Zo (Zdr s (λj h=>HM.out j h (by omega))).symm,rfl⟩
theorem ZcL(neg:Bool)(s:ZB)(sc:Int)(w:World)(hs:s.size<=maxLen):Calls prog 139 #[.agg #[.bool neg,.string s,I sc]] w λe w'=>e=.returned (.bool (ZP neg s sc))/\ZL w w':=by
 have HS:=J hs;unfold maxLen at hs;by_cases h60:60<s.size
 ·go_enter func139,ntmps139
  go_wp2;go_ret;exact⟨Zo (Zij neg s sc h60).symm,(Ze _ _).alloc (Zb _) _⟩
 ·cases hd:Zr s
  ·go_enter func139,ntmps139
   go_wp2_with (go_at_call 137;refine Zc (ZbJ _ _ HS.out) ?_)
   go_ret;exact⟨Zo (Zlb neg s sc hd).symm,(Ze _ _).alloc (Zb _) _⟩
  ·by_cases hsc:0<=sc/\sc<=60
   ·have hscd:decide (0<=sc/\sc<=60)=true:=(by simpa using hsc);by_cases h0:s.size=0
    ·have hv:=Zdx neg s sc h0;have HV:=J hv;clear hv;cases neg;all_goals
      by_cases hz:sc=0;all_goals
       go_enter func139,ntmps139
       go_wp2_with (first|(go_at_call 137;refine Zc (ZbJ _ _ HS.out) ?_)|(go_at_call 30;refine Zc (ZhN _ _ _ _) ?_))
       go_ret;exact⟨Zo (by rw[HV.out];simp[hz]),(Ze _ _).alloc (Zb _) _⟩
    ·have hp:0<s.size:=(by omega);have hv:=ZeT neg s sc hp (by omega) hd hsc.1 hsc.2;have HV:=J hv;clear hv;by_cases hf:(s[0].toNat:Int)=48;all_goals
      by_cases hz:sc=0;all_goals
       by_cases hl:(s[s.size-1].toNat:Int)=48;all_goals
        go_enter func139,ntmps139
        go_wp2_with (first|(go_at_call 137;refine Zc (ZbJ _ _ HS.out) ?_)|(go_at_call 30;refine Zc (ZhN _ _ _ _) ?_))
        go_ret;exact⟨Zo (by rw[HV.out];simp[hz,hf,hl]),(Ze _ _).alloc (Zb _) _⟩
   ·have hscd:decide (0<=sc/\sc<=60)=false:=(by simpa using hsc);go_enter func139,ntmps139
    go_wp2_with (first|(go_at_call 137;refine Zc (ZbJ _ _ HS.out) ?_)|(go_at_call 30;refine Zc (ZhN _ _ _ _) ?_))
    go_ret;exact⟨Zo (Zgh neg s sc (by omega)).symm,(Ze _ _).alloc (Zb _) _⟩
theorem ZbZ(neg:Bool)(s:ZB)(sc:Int)(w:World)(hs:s.size<=maxLen):Calls prog 164 #[.agg #[.bool neg,.string s,I sc]] w λe w'=>e=.returned (.bool (ZP neg s sc))/\ZL w w':=by
 have HS:=J hs;unfold maxLen at hs;by_cases h0:s.size=0
 ·have hv:=Zdx neg s sc h0;have HV:=J hv;clear hv;have hse:s=ByteArray.empty:=ByteArray.size_eq_zero_iff.1 h0;subst hse;cases neg;all_goals
   by_cases hz:sc=0;all_goals
    go_enter func164,ntmps164
    go_wp2;go_ret;exact⟨Zo (by rw[HV.out];simp[hz]),(Ze _ _).alloc (Zb _) _⟩
 ·have hp:0<s.size:=by omega
  by_cases h60:60<s.size
  ·go_enter func164,ntmps164
   go_wp2;go_ret;exact⟨Zo (Zij neg s sc h60).symm,(Ze _ _).alloc (Zb _) _⟩
  ·cases hd:Zr s
   ·go_enter func164,ntmps164
    go_wp2_with (go_at_call 162;refine Zc (Zf7 _ _ HS.out) ?_)
    go_ret;exact⟨Zo (Zlb neg s sc hd).symm,(Ze _ _).alloc (Zb _) _⟩
   ·by_cases hf:(s[0].toNat:Int)=48
    ·go_enter func164,ntmps164
     go_wp2_with (go_at_call 162;refine Zc (Zf7 _ _ HS.out) ?_)
     go_ret;exact⟨Zo (ZgK neg s sc hp (by omega)).symm,(Ze _ _).alloc (Zb _) _⟩
    ·have hfb:((s[0].toNat:Int)==48)=false:=(by simpa using hf);have h60b:decide (60<(s.size:Int))=false:=(by simp;omega);have h60c:(s.size:Int)<=60:=(by omega);by_cases hsc:1<=sc/\sc<=60
     ·have hscd:decide (1<=sc/\sc<=60)=true:=(by simpa using hsc);have hz:¬sc=0:=(by omega);have hv:=ZeT neg s sc hp (by omega) hd (by omega) (by omega);have HV:=J hv;clear hv;by_cases hl:(s[s.size-1].toNat:Int)=48;all_goals
       go_enter func164,ntmps164
       go_wp2_with (first|(go_at_call 162;refine Zc (Zf7 _ _ HS.out) ?_)|(go_at_call 64;refine Zc (Zk3 _ _ _ _) ?_))
       go_ret;exact⟨Zo (by rw[HV.out];simp[hz,hf,hl]),(Ze _ _).alloc (Zb _) _⟩
     ·by_cases hz:sc=0
      ·subst hz;have hv:=ZeT neg s 0 hp (by omega) hd (by omega) (by omega);have HV:=J hv;clear hv;go_enter func164,ntmps164
       go_wp2_with (go_at_call 162;refine Zc (Zf7 _ _ HS.out) ?_)
       go_ret;exact⟨Zo (by rw[HV.out];simp[hf]),(Ze _ _).alloc (Zb _) _⟩
      ·have hscd:decide (1<=sc/\sc<=60)=false:=(by simpa using hsc);go_enter func164,ntmps164
       go_wp2_with (first|(go_at_call 162;refine Zc (Zf7 _ _ HS.out) ?_)|(go_at_call 64;refine Zc (Zk3 _ _ _ _) ?_))
       go_ret;exact⟨Zo (by rw[Zgh neg s sc (by omega)];simpa using hz),(Ze _ _).alloc (Zb _) _⟩
theorem ZaA{w w1:World}{c:Array Value}{t:TypeId}(h:Below (w.alloc (.cells c t)).heap.size (w.alloc (.cells c t)) w1):ZL w w1:=
 ((Ze w.heap.size w).alloc (Zb _) _).trans (h.mono (by simp))
theorem Zaw{w w1 w2:World}(h:ZL w w1)(k:ZL w1 w2):ZL w w2:=h.trans (k.mono h.size)
def Zow(w:World)(G:Nat)(n:Bool)(s:ZB)(c:Int):Prop:=
 G<w.heap.size/\w.cell? ⟨G,0,none⟩=some (.bool n)/\w.cell? ⟨G,1,none⟩=some (.string s)/\w.cell? ⟨G,2,none⟩=some (I c)
theorem Zbc(w:World)(n:Bool)(s:ZB)(c:Int)(t:TypeId):Zow (w.alloc (.cells #[.bool n,.string s,I c] t)) w.heap.size n s c:=by
 have e:∀i,(w.alloc (.cells #[.bool n,.string s,I c] t)).cell? ⟨w.heap.size,i,none⟩=#[Value.bool n,.string s,I c][i]?:=λi=>by
  rw[ZO _ w.heap.size i _ t (0,0) (Zz w _)]
 exact⟨by simp,e 0,e 1,e 2⟩
theorem ZaC{w w1:World}{G:Nat}{n:Bool}{s:ZB}{c:Int}(h:Zow w G n s c)(k:ZL w w1):Zow w1 G n s c:=
 ⟨ZDy h.1 k.size,(k.cell (p:=⟨G,0,none⟩) h.1).trans h.2.1,(k.cell (p:=⟨G,1,none⟩) h.1).trans h.2.2.1,(k.cell (p:=⟨G,2,none⟩) h.1).trans h.2.2.2⟩
theorem Za6{w w1:World}{n m:Bool}{s t:ZB}{c d:Int}{T U:TypeId}
  (h:Below ((w.alloc (.cells #[.bool n,.string s,I c] T)).alloc (.cells #[.bool m,.string t,I d] U)).heap.size ((w.alloc (.cells #[.bool n,.string s,I c] T)).alloc (.cells #[.bool m,.string t,I d] U)) w1):
  Zow w1 w.heap.size n s c/\Zow w1 (w.heap.size+1) m t d/\ZL w w1:=by
 have h1:=Zbc w n s c T;have h2:=Zbc (w.alloc (.cells #[.bool n,.string s,I c] T)) m t d U;rw[show(w.alloc (.cells #[.bool n,.string s,I c] T)).heap.size=w.heap.size+1 by simp]at h2;exact⟨ZaC (ZaC h1 ((Ze _ _).alloc (Zb _) _)) h,ZaC h2 h,Zaw (((Ze _ _).alloc (Zb _) _).alloc (by simp) _) h⟩
theorem Zi7(c:Int):c<=44\/c=45\/c=46\/c=47\/(48<=c/\c<=57)\/(58<=c/\c<=64)\/(65<=c/\c<=90)\/(91<=c/\c<=94)\/c=95\/c=96\/(97<=c/\c<=122)\/123<=c:=by omega
theorem ZhH(c:Int):c<=64\/(65<=c/\c<=90)\/(91<=c/\c<=94)\/c=95\/c=96\/(97<=c/\c<=122)\/123<=c:=by omega
theorem ZsZ(c:Int)(w:World):Calls prog 96 #[.int .u8 c] w λe w'=>e=.returned (.bool (Zfq c))/\w'=w:=by
 rcases ZhH c with h|⟨h,h'⟩|⟨h,h'⟩|h|h|⟨h,h'⟩|h
 all_goals
  try subst h
  go_enter func96,ntmps96
  go_wp2;go_ret;exact⟨Zo (by first|decide|(rw[Bool.eq_iff_iff];simp only[Zfq,ZDI,ZW,Z6,ZEd,true_iff,false_iff,iff_true,iff_false,ZN];omega)),rfl⟩
theorem Zq8(c:Int)(w:World):Calls prog 141 #[.int .u8 c] w λe w'=>e=.returned (.bool (Zfq c))/\w'=w:=by
 rcases ZhH c with h|⟨h,h'⟩|⟨h,h'⟩|h|h|⟨h,h'⟩|h
 all_goals
  try subst h
  go_enter func141,ntmps141
  go_wp2;go_ret;exact⟨Zo (by first|decide|(rw[Bool.eq_iff_iff];simp only[Zfq,ZDI,ZW,Z6,ZEd,true_iff,false_iff,iff_true,iff_false,ZN];omega)),rfl⟩
theorem Zvi(c:Int)(w:World):Calls prog 97 #[.int .u8 c] w λe w'=>e=.returned (.bool (Zez c))/\w'=w:=by
 rcases Zi7 c with h|h|h|h|⟨h,h'⟩|⟨h,h'⟩|⟨h,h'⟩|⟨h,h'⟩|h|h|⟨h,h'⟩|h
 all_goals
  try subst h
  go_enter func97,ntmps97
  go_wp2;go_ret;exact⟨Zo (by first|decide|(rw[Bool.eq_iff_iff];simp only[Zez,ZDI,ZW,Z6,ZEd,true_iff,false_iff,iff_true,iff_false,ZN];omega)),rfl⟩
theorem Zvo(c:Int)(w:World):Calls prog 142 #[.int .u8 c] w λe w'=>e=.returned (.bool (Zez c))/\w'=w:=by
 rcases Zi7 c with h|h|h|h|⟨h,h'⟩|⟨h,h'⟩|⟨h,h'⟩|⟨h,h'⟩|h|h|⟨h,h'⟩|h
 all_goals
  try subst h
  go_enter func142,ntmps142
  go_wp2;go_ret;exact⟨Zo (by first|decide|(rw[Bool.eq_iff_iff];simp only[Zez,ZDI,ZW,Z6,ZEd,true_iff,false_iff,iff_true,iff_false,ZN];omega)),rfl⟩
theorem Zwa(s:ZB)(w:World)(hs:s.size<=maxLen):Calls prog 52 #[.string s] w λe w'=>e=.returned (.bool (ZcO s))/\w'=w:=by
 unfold maxLen at hs;by_cases h0:s.size=0
 ·go_enter func52,ntmps52
  go_wp2;go_ret;exact⟨Zo (ZiM s h0).symm,rfl⟩
 ·by_cases h40:40<s.size
  ·go_enter func52,ntmps52
   go_wp2;go_ret;exact⟨Zo (ZiK s h40).symm,rfl⟩
  ·have hp:0<s.size:=by omega
   cases hf:Zfq (s[0].toNat:Int)
   ·go_enter func52,ntmps52
    go_wp2_with (go_at_call 96;refine Zc (ZsZ _ _) ?_)
    go_ret;exact⟨Zo (Zhu s hp hf).symm,rfl⟩
   ·go_enter func52,ntmps52
    go_wp2_with (go_at_call 96;refine Zc (ZsZ _ _) ?_)
    go_loop [3] (λi=>∃k:Nat,1<=k/\k<=s.size/\i=I k/\∀j (h:j<s.size),1<=j->j<k->Zez (s[j].toNat:Int)=true) (λi=>s.size-(Zi i).toNat)
    case atStart=>exact⟨1,by omega,by omega,rfl,λj h a b=>by omega⟩
    case round=>
     obtain⟨k,h1,hk,rfl,hm⟩:=hrel;have HM:Hid (∀j (h:j<s.size),1<=j->j<k->Zez (s[j].toNat:Int)=true):=hm;clear hm;by_cases hlt:k<s.size
     ·cases hb:Zez (s[k].toNat:Int)
      ·go_wp2_with (go_at_call 97;refine Zc (Zvi _ _) ?_)
       go_ret;exact⟨Zo (Ziy s k h1 hlt hb).symm,rfl⟩
      ·go_wp2_with (go_at_call 97;refine Zc (Zvi _ _) ?_)
       go_round
       case rel=>
        refine⟨k+1,by omega,by omega,by go_num,λj h a b=>?_⟩;by_cases e:j=k
        ·subst e;exact hb
        ·exact HM.out j h a (by omega)
       case measure=>simp[Zi];omega
     ·go_wp2;go_ret;exact⟨Zo (ZlA s hp (by omega) hf (λj h a=>HM.out j h a (by omega))).symm,rfl⟩
theorem Zv8(s:ZB)(w:World)(hs:s.size<=maxLen):Calls prog 107 #[.string s] w λe w'=>e=.returned (.bool (ZcO s))/\w'=w:=by
 unfold maxLen at hs;by_cases h0:s.size=0
 ·go_enter func107,ntmps107
  go_wp2;go_ret;exact⟨Zo (ZiM s h0).symm,rfl⟩
 ·by_cases h40:40<s.size
  ·go_enter func107,ntmps107
   go_wp2;go_ret;exact⟨Zo (ZiK s h40).symm,rfl⟩
  ·have hp:0<s.size:=by omega
   cases hf:Zfq (s[0].toNat:Int)
   ·go_enter func107,ntmps107
    go_wp2_with (go_at_call 141;refine Zc (Zq8 _ _) ?_)
    go_ret;exact⟨Zo (Zhu s hp hf).symm,rfl⟩
   ·go_enter func107,ntmps107
    go_wp2_with (go_at_call 141;refine Zc (Zq8 _ _) ?_)
    go_loop [3] (λi=>∃k:Nat,1<=k/\k<=s.size/\i=I k/\∀j (h:j<s.size),1<=j->j<k->Zez (s[j].toNat:Int)=true) (λi=>s.size-(Zi i).toNat)
    case atStart=>exact⟨1,by omega,by omega,rfl,λj h a b=>by omega⟩
    case round=>
     obtain⟨k,h1,hk,rfl,hm⟩:=hrel;have HM:Hid (∀j (h:j<s.size),1<=j->j<k->Zez (s[j].toNat:Int)=true):=hm;clear hm;by_cases hlt:k<s.size
     ·cases hb:Zez (s[k].toNat:Int)
      ·go_wp2_with (go_at_call 142;refine Zc (Zvo _ _) ?_)
       go_ret;exact⟨Zo (Ziy s k h1 hlt hb).symm,rfl⟩
      ·go_wp2_with (go_at_call 142;refine Zc (Zvo _ _) ?_)
       go_round
       case rel=>
        refine⟨k+1,by omega,by omega,by go_num,λj h a b=>?_⟩;by_cases e:j=k
        ·subst e;exact hb
        ·exact HM.out j h a (by omega)
       case measure=>simp[Zi];omega
     ·go_wp2;go_ret;exact⟨Zo (ZlA s hp (by omega) hf (λj h a=>HM.out j h a (by omega))).symm,rfl⟩
end
section
open Go.ChangeShapes Go.WideShapes Go.RowKit Go.Deep Go.WideElems
section
variable {H:Type} {enc:TypeId×Value->H} {P:Program} {w:World} {base:Nat} {spare:Nat->Bool} {held:Bool}
end
theorem Zac{P:Program}{W:World}{name:String}{g:Nat}{t e:TypeId}(hg:P.globalNamed name=some g)(hty:(P.globals[g]?).map (·.type)=some t)(ht:P.underlying t=some (.array 12 e))(he:P.underlying e=some (.int .i64))(hce:P.cellsOf e=1)(hct:P.cellsOf t=12)
  (h:Lib.VarReads P W name (Lib.tabData .i64 ZCe)):Zjk g W:=by
 obtain⟨g',t',cs,fuel,p,hg',ht',hvar,hd⟩:=h;obtain rfl:=Option.some.inj (hg.symm.trans hg');obtain rfl:=Option.some.inj (hty.symm.trans ht');have e:=Lib.cells_of_tab ht he hce hct hd;have hvar':W.var? P name=some (ZCe.map λz=>I z).toArray:=by
  rw[hvar];congr 1;cases cs;simp at e;rw[e]
 have hc:∀k:Nat,k<12->W.cell? ⟨g,k,none⟩=some (I (ZCe.getD k 0)):=λk hk=>by
  have hcell:=World.var?_cell hg hvar' k;rw[hcell];obtain rfl|rfl|rfl|rfl|rfl|rfl|rfl|rfl|rfl|rfl|rfl|rfl:k=0\/k=1\/k=2\/k=3\/k=4\/k=5\/k=6\/k=7\/k=8\/k=9\/k=10\/k=11:=by omega
  all_goals rfl
 exact⟨World.block_lt_of_cell? W _ (hc 0 (by omega)),hc⟩
end
end Go.Proofs.YtcdnilpdohknfaaGreatDoor
