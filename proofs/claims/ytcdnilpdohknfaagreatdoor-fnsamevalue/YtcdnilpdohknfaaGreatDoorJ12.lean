import Derived.Test.YtcdnilpdohknfaaGreatDoorJ8
set_option linter.unusedVariables false
set_option linter.unusedSimpArgs false
set_option maxRecDepth 100000
set_option maxHeartbeats 16000000
namespace Go.Proofs.YtcdnilpdohknfaaGreatDoor
open Tryz
section
open Go.RowKit Go.Joins
def SL(N:Nat)(x:Value)(w:World):Prop:=∃(B:Nat) (xs:Array Value),x=.slice (some ⟨B,0,none⟩) N N/\w.heap[B]?=some (.cells xs 2 (0,0))/\xs.size=N/\∀k,k<N->∃y:Int,xs[k]?=some (I y)
def BL(m:Int)(x:Value):Prop:=∃y:Int,x=I y/\0<=y/\y<m
def AD(x:Value)(w:World):Prop:=∃(B o:Nat) (xs:Array Value) (y:Int),x=.pointer (some ⟨B,o,none⟩)/\w.heap[B]?=some (.cells xs 2 (0,0))/\xs[o]?=some (I y)
def IN(x:Value):Prop:=∃y:Int,x=I y
def AG(x:Value):Prop:=∃y1 y2 y3 y4 y5:Int,x=.agg #[I y1,I y2,I 0,I y3,I y4,I y5,.bool false,I 0]
def DSh(w:World)(B:Nat):Prop:=∃(y mo d h mi s:Int) (g:Bool) (z:Int),w.heap[B]?=some (.cells #[I y,I mo,I d,I h,I mi,I s,.bool g,I z] 78 (0,0))
def Zdv(w0:World)(x:Value)(w:World):Prop:=∃B:Nat,x=.pointer (some ⟨B,0,none⟩)/\w0.heap.size<B/\DSh w B
def VV(w0:World)(G:Nat)(k:Nat)(x:Value)(w:World):Prop:=
 match k with
 |0=>SL 7 x w
 |1=>x=.pointer (some ⟨G,0,none⟩)
 |2=>BL 7 x
 |3=>AD x w
 |4=>IN x
 |5=>x=.pointer (some ⟨G,0,none⟩)
 |6=>BL 12 x
 |7=>IN x
 |8=>SL 4 x w
 |9=>x=.pointer (some ⟨G,0,none⟩)
 |10=>BL 4 x
 |11=>AD x w
 |12=>IN x
 |13=>SL 3 x w
 |14=>x=.pointer (some ⟨G,0,none⟩)
 |15=>BL 3 x
 |16=>AD x w
 |17=>IN x
 |18=>x=.pointer (some ⟨G,0,none⟩)
 |19=>BL 60 x
 |20=>AG x
 |21=>Zdv w0 x w
 |22=>True
 |_=>True
def DJ(w0:World)(G:Nat)(a:Option Addr)(n cap:Nat)(zs:List Int)(w:World):Prop:=Zfr w G a n cap zs/\w0.grownBy w (some G)/\DSh w w0.heap.size/\G<w0.heap.size
section
variable {w0 w w1:World} {G:Nat} {a:Option Addr} {n cap:Nat} {zs:List Int}
theorem Zc2{B:Nat}{row:Option Nat}(h:DSh w B)(hg:w.grownBy w1 row)(hne:some B≠row):DSh w1 B:=by
 obtain⟨y,mo,d,hh,mi,s,g,z,h⟩:=h;exact⟨y,mo,d,hh,mi,s,g,z,(hg.block B (Array.getElem?_eq_some_iff.1 h).1 hne).trans h⟩
theorem ZzQ{B:Nat}(h:DSh w B):B<w.heap.size:=by
 obtain⟨y,mo,d,hh,mi,s,g,z,h⟩:=h;exact(Array.getElem?_eq_some_iff.1 h).1
theorem ZB0(h:DJ w0 G a n cap zs w):w0.heap.size<w.heap.size:=ZzQ h.2.2.1
theorem ZfW(h:DJ w0 G a n cap zs w)(o:Obj):DJ w0 G a n cap zs (w.alloc o):=
 ⟨ZaY h.1 o,ZaP h.2.1 (ZEn w o (some G)),Zc2 h.2.2.1 (ZEn w o none) (by simp),h.2.2.2⟩
theorem Zgn(h:DJ w0 G a n cap zs w)(hd:ZG G a n cap zs w w1):DJ w0 G a n cap zs w1:=
 ⟨hd.1,ZaP h.2.1 hd.2,Zc2 h.2.2.1 hd.2 (λe=>by cases e;have:=h.2.2.2;omega),h.2.2.2⟩
def Zkh(w0 w w1:World):Prop:=(∀(B:Nat) (xs:Array Value),w.heap[B]?=some (Obj.cells xs 2 (0,0))->w1.heap[B]?=some (Obj.cells xs 2 (0,0)))/\∀B,w0.heap.size<B->DSh w B->DSh w1 B
theorem Zkg(h:Zkh w0 w w1)(k:Nat)(x:Value)(hv:VV w0 G k x w):VV w0 G k x w1:=by
 have s:∀N,SL N x w->SL N x w1:=λN ⟨B,xs,h1,h2,h3⟩=>⟨B,xs,h1,h.1 B xs h2,h3⟩
 have d:AD x w->AD x w1:=λ⟨B,o,xs,y,h1,h2,h3⟩=>⟨B,o,xs,y,h1,h.1 B xs h2,h3⟩
 have b:Zdv w0 x w->Zdv w0 x w1:=λ⟨B,h1,h2,h3⟩=>⟨B,h1,h2,h.2 B h2 h3⟩
 unfold VV at hv ⊢;split at hv<;>first|exact s _ hv|exact d hv|exact b hv|exact hv
theorem Zl3(o:Obj):Zkh w0 w (w.alloc o):=
 ⟨λB xs hB=>((ZEn w o none).block B (Array.getElem?_eq_some_iff.1 hB).1 (by simp)).trans hB,λB _ hd=>Zc2 hd (ZEn w o none) (by simp)⟩
theorem Zhj(o:Obj)(k:Nat)(x:Value)(hv:VV w0 G k x w):VV w0 G k x (w.alloc o):=Zkg (Zl3 o) k x hv
theorem Zpu(hj:DJ w0 G a n cap zs w)(hd:ZG G a n cap zs w w1):Zkh w0 w w1:=by
 refine⟨λB xs hB=>?_,λB hlt hd'=>Zc2 hd' hd.2 (λe=>by cases e;have:=hj.2.2.2;omega)⟩;refine(hd.2.block B (Array.getElem?_eq_some_iff.1 hB).1 (λe=>?_)).trans hB;cases e;obtain⟨⟨p,_,hg⟩,_⟩:=hj.1;rw[hg]at hB;simp at hB
theorem ZhW(hj:DJ w0 G a n cap zs w)(hd:ZG G a n cap zs w w1)(k:Nat)(x:Value)(hv:VV w0 G k x w):VV w0 G k x w1:=Zkg (Zpu hj hd) k x hv
end
theorem Zan{w:World}{B:Nat}{y mo d h mi s:Int}{g:Bool}{z:Int}{T:TypeId}(hx:w.heap[B]?=some (.cells #[I y,I mo,I d,I h,I mi,I s,.bool g,I z] T (0,0))):
  (w.cell? ⟨B,0,none⟩=some (I y)/\w.cell? ⟨B,1,none⟩=some (I mo)/\w.cell? ⟨B,2,none⟩=some (I d)/\w.cell? ⟨B,3,none⟩=some (I h)/\w.cell? ⟨B,4,none⟩=some (I mi)/\w.cell? ⟨B,5,none⟩=some (I s)/\w.cell? ⟨B,6,none⟩=some (.bool g)/\w.cell? ⟨B,7,none⟩=some (I z))/\(w.frozen? ⟨B,0,none⟩=false/\w.frozen? ⟨B,1,none⟩=false/\w.frozen? ⟨B,2,none⟩=false/\w.frozen? ⟨B,3,none⟩=false/\w.frozen? ⟨B,4,none⟩=false/\w.frozen? ⟨B,5,none⟩=false/\w.frozen? ⟨B,6,none⟩=false/\w.frozen? ⟨B,7,none⟩=false):=
 ⟨⟨by rw[ZO w B 0 _ T (0,0) hx];rfl,by rw[ZO w B 1 _ T (0,0) hx];rfl,by rw[ZO w B 2 _ T (0,0) hx];rfl,by rw[ZO w B 3 _ T (0,0) hx];rfl,by rw[ZO w B 4 _ T (0,0) hx];rfl,by rw[ZO w B 5 _ T (0,0) hx];rfl,by rw[ZO w B 6 _ T (0,0) hx];rfl,by rw[ZO w B 7 _ T (0,0) hx];rfl⟩,ZEm w B 0 _ T hx,ZEm w B 1 _ T hx,ZEm w B 2 _ T hx,ZEm w B 3 _ T hx,ZEm w B 4 _ T hx,ZEm w B 5 _ T hx,ZEm w B 6 _ T hx,ZEm w B 7 _ T hx⟩
theorem Zhh{w:World}{B:Nat}(hx:DSh w B)(v:Int):DSh (w.setCell ⟨B,0,none⟩ (I v)) B:=by
 obtain⟨y,mo,d,h,mi,s,g,z,hx⟩:=hx;exact⟨v,mo,d,h,mi,s,g,z,ZEk w B 0 _ _ _ hx⟩
theorem Znh{w:World}{B:Nat}(hx:DSh w B)(v:Int):DSh (w.setCell ⟨B,1,none⟩ (I v)) B:=by
 obtain⟨y,mo,d,h,mi,s,g,z,hx⟩:=hx;exact⟨y,v,d,h,mi,s,g,z,ZEk w B 1 _ _ _ hx⟩
theorem ZfM{w:World}{B:Nat}(hx:DSh w B)(v:Int):DSh (w.setCell ⟨B,2,none⟩ (I v)) B:=by
 obtain⟨y,mo,d,h,mi,s,g,z,hx⟩:=hx;exact⟨y,mo,v,h,mi,s,g,z,ZEk w B 2 _ _ _ hx⟩
theorem ZnJ{w:World}{B:Nat}(hx:DSh w B)(v:Int):DSh (w.setCell ⟨B,3,none⟩ (I v)) B:=by
 obtain⟨y,mo,d,h,mi,s,g,z,hx⟩:=hx;exact⟨y,mo,d,v,mi,s,g,z,ZEk w B 3 _ _ _ hx⟩
theorem Zod{w:World}{B:Nat}(hx:DSh w B)(v:Int):DSh (w.setCell ⟨B,4,none⟩ (I v)) B:=by
 obtain⟨y,mo,d,h,mi,s,g,z,hx⟩:=hx;exact⟨y,mo,d,h,v,s,g,z,ZEk w B 4 _ _ _ hx⟩
theorem ZnQ{w:World}{B:Nat}(hx:DSh w B)(v:Int):DSh (w.setCell ⟨B,5,none⟩ (I v)) B:=by
 obtain⟨y,mo,d,h,mi,s,g,z,hx⟩:=hx;exact⟨y,mo,d,h,mi,v,g,z,ZEk w B 5 _ _ _ hx⟩
theorem Zj2{w:World}{B:Nat}(hx:DSh w B)(v:Bool):DSh (w.setCell ⟨B,6,none⟩ (.bool v)) B:=by
 obtain⟨y,mo,d,h,mi,s,g,z,hx⟩:=hx;exact⟨y,mo,d,h,mi,s,v,z,ZEk w B 6 _ _ _ hx⟩
theorem Zge{w:World}{B:Nat}(hx:DSh w B)(v:Int):DSh (w.setCell ⟨B,7,none⟩ (I v)) B:=by
 obtain⟨y,mo,d,h,mi,s,g,z,hx⟩:=hx;exact⟨y,mo,d,h,mi,s,g,v,ZEk w B 7 _ _ _ hx⟩
theorem ZdD{w:World}{B:Nat}{y mo d h mi s:Int}{g:Bool}{z:Int}{T:TypeId}(hx:w.heap[B]?=some (.cells #[I y,I mo,I d,I h,I mi,I s,.bool g,I z] T (0,0)))(x0 x1 x2 x3 x4 x5:Int)(x6:Bool)(x7:Int):
  ((((((((w.setCell ⟨B,0,none⟩ (I x0)).setCell ⟨B,1,none⟩ (I x1)).setCell ⟨B,2,none⟩ (I x2)).setCell ⟨B,3,none⟩ (I x3)).setCell ⟨B,4,none⟩ (I x4)).setCell ⟨B,5,none⟩ (I x5)).setCell ⟨B,6,none⟩ (.bool x6)).setCell ⟨B,7,none⟩ (I x7)).heap[B]?=some (.cells #[I x0,I x1,I x2,I x3,I x4,I x5,.bool x6,I x7] T (0,0)):=by
 have h0:=block_setCell (i:=0) hx (I x0);have h1:=block_setCell (i:=1) h0 (I x1);have h2:=block_setCell (i:=2) h1 (I x2);have h3:=block_setCell (i:=3) h2 (I x3);have h4:=block_setCell (i:=4) h3 (I x4);have h5:=block_setCell (i:=5) h4 (I x5);have h6:=block_setCell (i:=6) h5 (.bool x6);have h7:=block_setCell (i:=7) h6 (I x7);simpa using h7
theorem ZcG(w:World)(B i:Nat)(v:Value):w.grownBy (w.setCell ⟨B,i,none⟩ v) (some B):=
 ⟨rfl,rfl,rfl,by simp,λk hk hne=>Below.heap_setCell w ⟨B,i,none⟩ v k (λe=>hne (by rw[e]))⟩
theorem ZaR{w w3:World}{G B i:Nat}{a:Option Addr}{m cap:Nat}{zs:List Int}(h:ZG G a m cap zs w w3)(hB:w.heap.size<=B)(hG:G<w.heap.size)(v:Value):ZG G a m cap zs w (w3.setCell ⟨B,i,none⟩ v):=
 ⟨Zdo h.1 (ZcG w3 B i v) (λk hk=>by cases hk;omega),⟨h.2.os,h.2.tape,h.2.output,by have:=h.2.size;simpa using this,λk hk hne=>(Below.heap_setCell w3 ⟨B,i,none⟩ v k (by show k≠B;omega)).trans (h.2.block k hk hne)⟩⟩
theorem Zcu{w w3:World}{G B:Nat}{a:Option Addr}{m cap:Nat}{zs:List Int}(h:ZG G a m cap zs w w3)(hB:w.heap.size<=B)(hG:G<w.heap.size)(x0 x1 x2 x3 x4 x5 x6 x7:Value):ZG G a m cap zs w ((((((((w3.setCell ⟨B,0,none⟩ x0).setCell ⟨B,1,none⟩ x1).setCell ⟨B,2,none⟩ x2).setCell ⟨B,3,none⟩ x3).setCell ⟨B,4,none⟩ x4).setCell ⟨B,5,none⟩ x5).setCell ⟨B,6,none⟩ x6).setCell ⟨B,7,none⟩ x7):=
 ZaR (ZaR (ZaR (ZaR (ZaR (ZaR (ZaR (ZaR h hB hG x0) hB hG x1) hB hG x2) hB hG x3) hB hG x4) hB hG x5) hB hG x6) hB hG x7
def DT(w0:World)(G:Nat)(a:Option Addr)(n cap:Nat)(zs:List Int)(B:Nat)(w:World):Prop:=DJ w0 G a n cap zs w/\w0.heap.size<B/\DSh w B
section
variable {w0 w w1:World} {G B:Nat} {a:Option Addr} {n cap:Nat} {zs:List Int}
theorem Zom(h:DT w0 G a n cap zs B w)(o:Obj):DT w0 G a n cap zs B (w.alloc o):=⟨ZfW h.1 o,h.2.1,Zc2 h.2.2 (ZEn w o none) (by simp)⟩
theorem Zdu(h:DT w0 G a n cap zs B w)(hd:ZG G a n cap zs w w1):DT w0 G a n cap zs B w1:=⟨Zgn h.1 hd,h.2.1,Zc2 h.2.2 hd.2 (λe=>by cases e;have:=h.2.1;have:=h.1.2.2.2;omega)⟩
theorem Zc6{i:Nat}{v:Value}(h:DT w0 G a n cap zs B w)(hs:DSh (w.setCell ⟨B,i,none⟩ v) B):DT w0 G a n cap zs B (w.setCell ⟨B,i,none⟩ v):=by
 have hd:ZG G a n cap zs w0 (w.setCell ⟨B,i,none⟩ v):=ZaR ⟨h.1.1,h.1.2.1⟩ (Nat.le_of_lt h.2.1) h.1.2.2.2 v;exact⟨⟨hd.1,hd.2,Zc2 h.1.2.2.1 (ZcG w B i v) (λe=>by cases e;have:=h.2.1;omega),h.1.2.2.2⟩,h.2.1,hs⟩
theorem Zc1{i:Nat}{v:Value}(h:DT w0 G a n cap zs B w)(hs:DSh (w.setCell ⟨B,i,none⟩ v) B):Zkh w0 w (w.setCell ⟨B,i,none⟩ v):=by
 refine⟨λC xs hC=>?_,λC hlt hd=>?_⟩
 ·refine(Below.heap_setCell w ⟨B,i,none⟩ v C (λe=>?_)).trans hC;subst e;obtain⟨y,mo,d,hh,mi,s,g,z,hx⟩:=h.2.2;rw[hx]at hC;simp at hC
 ·by_cases e:C=B
  ·subst e;exact hs
  ·exact Zc2 hd (ZcG w B i v) (λh=>e (by cases h;rfl))
theorem Zcs{w2:World}(h:Zkh w0 w w1)(k:Zkh w0 w1 w2):Zkh w0 w w2:=⟨λC xs hC=>k.1 C xs (h.1 C xs hC),λC hlt hd=>k.2 C hlt (h.2 C hlt hd)⟩
theorem ZlG(h:DT w0 G a n cap zs B w)(x0 x1 x2 x3 x4 x5:Int)(x6:Bool)(x7:Int):DT w0 G a n cap zs B ((((((((w.setCell ⟨B,0,none⟩ (I x0)).setCell ⟨B,1,none⟩ (I x1)).setCell ⟨B,2,none⟩ (I x2)).setCell ⟨B,3,none⟩ (I x3)).setCell ⟨B,4,none⟩ (I x4)).setCell ⟨B,5,none⟩ (I x5)).setCell ⟨B,6,none⟩ (.bool x6)).setCell ⟨B,7,none⟩ (I x7))/\Zkh w0 w ((((((((w.setCell ⟨B,0,none⟩ (I x0)).setCell ⟨B,1,none⟩ (I x1)).setCell ⟨B,2,none⟩ (I x2)).setCell ⟨B,3,none⟩ (I x3)).setCell ⟨B,4,none⟩ (I x4)).setCell ⟨B,5,none⟩ (I x5)).setCell ⟨B,6,none⟩ (.bool x6)).setCell ⟨B,7,none⟩ (I x7)):=by
 have t0:=Zc6 h (Zhh h.2.2 x0);have s0:=Zc1 h (Zhh h.2.2 x0);have t1:=Zc6 t0 (Znh t0.2.2 x1);have s1:=Zcs s0 (Zc1 t0 (Znh t0.2.2 x1));have t2:=Zc6 t1 (ZfM t1.2.2 x2);have s2:=Zcs s1 (Zc1 t1 (ZfM t1.2.2 x2));have t3:=Zc6 t2 (ZnJ t2.2.2 x3);have s3:=Zcs s2 (Zc1 t2 (ZnJ t2.2.2 x3));have t4:=Zc6 t3 (Zod t3.2.2 x4);have s4:=Zcs s3 (Zc1 t3 (Zod t3.2.2 x4));have t5:=Zc6 t4 (ZnQ t4.2.2 x5);have s5:=Zcs s4 (Zc1 t4 (ZnQ t4.2.2 x5));have t6:=Zc6 t5 (Zj2 t5.2.2 x6);have s6:=Zcs s5 (Zc1 t5 (Zj2 t5.2.2 x6));have t7:=Zc6 t6 (Zge t6.2.2 x7);have s7:=Zcs s6 (Zc1 t6 (Zge t6.2.2 x7));exact⟨t7,s7⟩
theorem Zw4(h:DT w0 G a n cap zs B w)(x0 x1 x2 x3 x4 x5:Int)(x6:Bool)(x7:Int):DT w0 G a n cap zs B ((((((((w.setCell ⟨B,0,none⟩ (I x0)).setCell ⟨B,1,none⟩ (I x1)).setCell ⟨B,2,none⟩ (I x2)).setCell ⟨B,3,none⟩ (I x3)).setCell ⟨B,4,none⟩ (I x4)).setCell ⟨B,5,none⟩ (I x5)).setCell ⟨B,6,none⟩ (.bool x6)).setCell ⟨B,7,none⟩ (I x7)):=(ZlG h x0 x1 x2 x3 x4 x5 x6 x7).1
theorem Zpo(h:DT w0 G a n cap zs B w)(x0 x1 x2 x3 x4 x5:Int)(x6:Bool)(x7:Int):Zkh w0 w ((((((((w.setCell ⟨B,0,none⟩ (I x0)).setCell ⟨B,1,none⟩ (I x1)).setCell ⟨B,2,none⟩ (I x2)).setCell ⟨B,3,none⟩ (I x3)).setCell ⟨B,4,none⟩ (I x4)).setCell ⟨B,5,none⟩ (I x5)).setCell ⟨B,6,none⟩ (.bool x6)).setCell ⟨B,7,none⟩ (I x7)):=(ZlG h x0 x1 x2 x3 x4 x5 x6 x7).2
end
theorem ZkV{w w1:World}{G:Nat}{cs:Array Value}{T:TypeId}{x:Int}{N:Nat}(hg:(w.alloc (.cells cs T)).grownBy w1 (some G))(h0:0<=x)(hx:x<N)(hN:cs.size=N)(hG:G<w.heap.size)(hK:∀k,k<N->∃y:Int,cs[k]?=some (I y)):∃y:Int,w1.cell? ⟨w.heap.size,x.toNat,none⟩=some (I y):=by
 have hb:=hg.block w.heap.size (by simp) (λe=>by cases e;omega);rw[World.cell?_of_block (a:=⟨w.heap.size,x.toNat,none⟩) hb,ZO _ w.heap.size x.toNat _ T (0,0) (Zz w _)];exact hK x.toNat (by omega)
def DD:Nat->Nat:=λk=>if k<=20 then k+4 else if k=21 then 3 else 100
theorem ZBK(G:Nat)(a:Option Addr)(n cap:Nat)(zs:List Int)(w0:World)(h:Zfr w0 G a n cap zs):
  Calls prog 46 #[.pointer (some ⟨G,0,none⟩)] w0 λe w'=>∃(y mo d h mi s:Int) (g:Bool) (z:Int),e=.returned (.agg #[I y,I mo,I d,I h,I mi,I s,.bool g,I z])/\ZG G a n cap zs w0 w':=by
 have hJ:DJ w0 G a n cap zs (w0.alloc (.cells #[I 0,I 0,I 0,I 0,I 0,I 0,.bool false,I 0] 78)).drew:=
  ⟨ZaY h _,ZaP (ZEn w0 (.cells #[I 0,I 0,I 0,I 0,I 0,I 0,.bool false,I 0] 78) (some G)) ⟨rfl,rfl,rfl,Zb _,λ_ _ _=>rfl⟩,⟨_,_,_,_,_,_,_,_,Zz w0 _⟩,ZdC h⟩
 have HJ:=J hJ;clear hJ h;go_enter func46,ntmps46
 go_wp2_with fail
 refine ZjS (by kernel_rfl) (by kernel_rfl) (λu=>{ tmps:=#[.pointer (some ⟨G,0,none⟩),undef,.pointer (some ⟨w0.heap.size,0,none⟩),u 3,u 4,u 5,u 6,u 7,u 8,u 9,u 10,u 11,u 12,u 13,u 14,u 15,u 16,u 17,u 18,u 19,u 20,u 21,u 22,u 23,u 24,undef,undef,undef,undef,undef,undef,undef,undef,undef,undef,undef,undef,undef,undef,undef,undef,undef,undef,undef,undef,undef,undef,undef,undef,undef,undef,undef,undef,undef,undef,undef,undef,undef,undef,undef,undef,undef,undef],defers:=[] }) DD (VV w0 G) (DJ w0 G a n cap zs) (λ_=>undef) HJ.out ?hput ?hD ?step ?done
 case hput=>
  intro i o ho u v;have hi:=(Array.getElem?_eq_some_iff.1 ho).1;have hi':i<23:=hi;clear hi;rcases(show i=0\/i=1\/i=2\/i=3\/i=4\/i=5\/i=6\/i=7\/i=8\/i=9\/i=10\/i=11\/i=12\/i=13\/i=14\/i=15\/i=16\/i=17\/i=18\/i=19\/i=20\/i=21\/i=22 by omega) with e|e|e|e|e|e|e|e|e|e|e|e|e|e|e|e|e|e|e|e|e|e|e
  all_goals
   subst e;obtain rfl:=Option.some.inj ho;rfl
 case hD=>
  intro i k hi hk hne;have hi':i<23:=hi;have hk':k<23:=hk;unfold DD;split<;>split<;>(try split)<;>(try split)<;>omega
 case step=>
  intro i o ho u w hj hV K hK;have hi:=(Array.getElem?_eq_some_iff.1 ho).1;have hi':i<23:=hi;clear hi;rcases(show i=0\/i=1\/i=2\/i=3\/i=4\/i=5\/i=6\/i=7\/i=8\/i=9\/i=10\/i=11\/i=12\/i=13\/i=14\/i=15\/i=16\/i=17\/i=18\/i=19\/i=20\/i=21\/i=22 by omega) with e|e|e|e|e|e|e|e|e|e|e|e|e|e|e|e|e|e|e|e|e|e|e
  all_goals
   subst e;obtain rfl:=Option.some.inj ho;clear ho hi';try dsimp only at hV hK ⊢
  ·
   go_simp;refine hK _ _ (ZfW hj _) ⟨_,_,rfl,Zz w _,rfl,λk hk=>?_⟩ (Zhj _);rcases(show k=0\/k=1\/k=2\/k=3\/k=4\/k=5\/k=6 by omega) with e|e|e|e|e|e|e<;>subst e<;>exact⟨_,rfl⟩
  ·
   go_simp;exact hK _ _ hj rfl (λ_ _ h=>h)
  ·
   have hp:u 5=.pointer (some ⟨G,0,none⟩):=hV ⟨1,.data⟩ (by simp) rfl;rw[hp]at hK ⊢;go_simp;refine(Za1 G a n cap zs 7 _ (by omega) (by omega) hj.1).mono ?_;rintro e w1 ⟨x,hx0,hx1,rfl,hd⟩;exact hK _ _ (Zgn hj hd) ⟨x,rfl,hx0,hx1⟩ (ZhW hj hd)
  ·
   obtain⟨B,xs,e1,hB,hxs,hel⟩:SL 7 (u 4) w:=hV ⟨0,.data⟩ (by simp) rfl;obtain⟨x,e2,hx0,hx1⟩:BL 7 (u 6):=hV ⟨2,.data⟩ (by simp) rfl;obtain⟨y,hy⟩:=hel x.toNat (by omega);rw[e1,e2]at hK ⊢;go_simp;exact hK _ _ hj ⟨B,x.toNat,xs,y,rfl,hB,hy⟩ (λ_ _ h=>h)
  ·
   obtain⟨B,o,xs,y,e1,hB,hy⟩:AD (u 7) w:=hV ⟨3,.data⟩ (by simp) rfl;have hc:w.cell? ⟨B,o,none⟩=some (I y):=by rw[ZO _ B o xs 2 (0,0) hB];exact hy
   rw[e1]at hK ⊢;go_simp;exact hK _ _ hj ⟨y,rfl⟩ (λ_ _ h=>h)
  ·
   go_simp;exact hK _ _ hj rfl (λ_ _ h=>h)
  ·
   have hp:u 9=.pointer (some ⟨G,0,none⟩):=hV ⟨5,.data⟩ (by simp) rfl;rw[hp]at hK ⊢;go_simp;refine(Za1 G a n cap zs 12 _ (by omega) (by omega) hj.1).mono ?_;rintro e w1 ⟨x,hx0,hx1,rfl,hd⟩;exact hK _ _ (Zgn hj hd) ⟨x,rfl,hx0,hx1⟩ (ZhW hj hd)
  ·
   obtain⟨x,e1,hx0,hx1⟩:BL 12 (u 10):=hV ⟨6,.data⟩ (by simp) rfl;rw[e1]at hK ⊢;go_simp;exact hK _ _ hj ⟨_,rfl⟩ (λ_ _ h=>h)
  ·
   go_simp;refine hK _ _ (ZfW hj _) ⟨_,_,rfl,Zz w _,rfl,λk hk=>?_⟩ (Zhj _);rcases(show k=0\/k=1\/k=2\/k=3 by omega) with e|e|e|e<;>subst e<;>exact⟨_,rfl⟩
  ·
   go_simp;exact hK _ _ hj rfl (λ_ _ h=>h)
  ·
   have hp:u 13=.pointer (some ⟨G,0,none⟩):=hV ⟨9,.data⟩ (by simp) rfl;rw[hp]at hK ⊢;go_simp;refine(Za1 G a n cap zs 4 _ (by omega) (by omega) hj.1).mono ?_;rintro e w1 ⟨x,hx0,hx1,rfl,hd⟩;exact hK _ _ (Zgn hj hd) ⟨x,rfl,hx0,hx1⟩ (ZhW hj hd)
  ·
   obtain⟨B,xs,e1,hB,hxs,hel⟩:SL 4 (u 12) w:=hV ⟨8,.data⟩ (by simp) rfl;obtain⟨x,e2,hx0,hx1⟩:BL 4 (u 14):=hV ⟨10,.data⟩ (by simp) rfl;obtain⟨y,hy⟩:=hel x.toNat (by omega);rw[e1,e2]at hK ⊢;go_simp;exact hK _ _ hj ⟨B,x.toNat,xs,y,rfl,hB,hy⟩ (λ_ _ h=>h)
  ·
   obtain⟨B,o,xs,y,e1,hB,hy⟩:AD (u 15) w:=hV ⟨11,.data⟩ (by simp) rfl;have hc:w.cell? ⟨B,o,none⟩=some (I y):=by rw[ZO _ B o xs 2 (0,0) hB];exact hy
   rw[e1]at hK ⊢;go_simp;exact hK _ _ hj ⟨y,rfl⟩ (λ_ _ h=>h)
  ·
   go_simp;refine hK _ _ (ZfW hj _) ⟨_,_,rfl,Zz w _,rfl,λk hk=>?_⟩ (Zhj _);rcases(show k=0\/k=1\/k=2 by omega) with e|e|e<;>subst e<;>exact⟨_,rfl⟩
  ·
   go_simp;exact hK _ _ hj rfl (λ_ _ h=>h)
  ·
   have hp:u 18=.pointer (some ⟨G,0,none⟩):=hV ⟨14,.data⟩ (by simp) rfl;rw[hp]at hK ⊢;go_simp;refine(Za1 G a n cap zs 3 _ (by omega) (by omega) hj.1).mono ?_;rintro e w1 ⟨x,hx0,hx1,rfl,hd⟩;exact hK _ _ (Zgn hj hd) ⟨x,rfl,hx0,hx1⟩ (ZhW hj hd)
  ·
   obtain⟨B,xs,e1,hB,hxs,hel⟩:SL 3 (u 17) w:=hV ⟨13,.data⟩ (by simp) rfl;obtain⟨x,e2,hx0,hx1⟩:BL 3 (u 19):=hV ⟨15,.data⟩ (by simp) rfl;obtain⟨y,hy⟩:=hel x.toNat (by omega);rw[e1,e2]at hK ⊢;go_simp;exact hK _ _ hj ⟨B,x.toNat,xs,y,rfl,hB,hy⟩ (λ_ _ h=>h)
  ·
   obtain⟨B,o,xs,y,e1,hB,hy⟩:AD (u 20) w:=hV ⟨16,.data⟩ (by simp) rfl;have hc:w.cell? ⟨B,o,none⟩=some (I y):=by rw[ZO _ B o xs 2 (0,0) hB];exact hy
   rw[e1]at hK ⊢;go_simp;exact hK _ _ hj ⟨y,rfl⟩ (λ_ _ h=>h)
  ·
   go_simp;exact hK _ _ hj rfl (λ_ _ h=>h)
  ·
   have hp:u 22=.pointer (some ⟨G,0,none⟩):=hV ⟨18,.data⟩ (by simp) rfl;rw[hp]at hK ⊢;go_simp;refine(Za1 G a n cap zs 60 _ (by omega) (by omega) hj.1).mono ?_;rintro e w1 ⟨x,hx0,hx1,rfl,hd⟩;exact hK _ _ (Zgn hj hd) ⟨x,rfl,hx0,hx1⟩ (ZhW hj hd)
  ·
   obtain⟨y1,e1⟩:IN (u 8):=hV ⟨4,.data⟩ (by simp) rfl;obtain⟨y2,e2⟩:IN (u 11):=hV ⟨7,.data⟩ (by simp) rfl;obtain⟨y3,e3⟩:IN (u 16):=hV ⟨12,.data⟩ (by simp) rfl;obtain⟨y4,e4⟩:IN (u 21):=hV ⟨17,.data⟩ (by simp) rfl;obtain⟨y5,e5,_,_⟩:BL 60 (u 23):=hV ⟨19,.data⟩ (by simp) rfl;rw[e1,e2,e3,e4,e5]at hK ⊢;go_simp;exact hK _ _ hj ⟨_,_,_,_,_,rfl⟩ (λ_ _ h=>h)
  ·
   go_simp;exact hK _ _ (ZfW hj _) ⟨_,rfl,ZB0 hj,_,_,_,_,_,_,_,_,Zz w _⟩ (Zhj _)
  ·
   obtain⟨y1,y2,y3,y4,y5,e1⟩:AG (u 24):=hV ⟨20,.data⟩ (by simp) rfl;obtain⟨B,e2,hlt,hB⟩:Zdv w0 (u 3) w:=hV ⟨21,.data⟩ (by simp) rfl;have hDT:DT w0 G a n cap zs B w:=⟨hj,hlt,hB⟩;have HS:=J (Zw4 hDT y1 y2 0 y3 y4 y5 false 0);have HK:=J (Zpo hDT y1 y2 0 y3 y4 y5 false 0);obtain⟨z1,z2,z3,z4,z5,z6,z7,z8,hB⟩:=hB;obtain⟨⟨c0,c1,c2,c3,c4,c5,c6,c7⟩,f0,f1,f2,f3,f4,f5,f6,f7⟩:=Zan hB;clear hDT hB;rw[e1,e2]at hK ⊢;go_simp;exact hK undef _ HS.out.1 trivial (Zkg HK.out)
 case done=>
  intro u w hj hV;obtain⟨B,e3,hlt,hB⟩:Zdv w0 (u 3) w:=hV 21 (by decide);have T1:Hid (DT w0 G a n cap zs B w):=J ⟨hj,hlt,hB⟩;have hG:=ZdC hj.1;clear hj hV hB;rw[e3];clear e3;have hsh:=T1.out.2.2;obtain⟨ya,moa,da,ha,mia,sa,ga,za,hsh⟩:=hsh;obtain⟨⟨ac0,ac1,-,-,-,-,-,-⟩,af0,af1,-,-,-,-,-,-⟩:=Zan hsh;clear hsh;go_wp2_with fail
  refine Zc (Zhq ya moa _) ?_;go_wp2_with fail
  refine(Za1 G a n cap zs 4 _ (by omega) (by omega) (ZaY T1.out.1.1 _)).mono ?_;rintro e w2 ⟨x,hx0,hx1,rfl,hd⟩;obtain⟨v,hv⟩:=ZkV hd.2 hx0 hx1 rfl hG (λk hk=>by have hk2:k<4:=hk;rcases(show k=0\/k=1\/k=2\/k=3 by omega) with e|e|e|e<;>subst e<;>exact⟨_,rfl⟩);have T2:=J (Zdu (Zom T1.out _) hd);have T3:=J (Zc6 T2.out (ZfM T2.out.2.2 v));clear hd;have hsh:=T2.out.2.2;obtain⟨yc,moc,dc,hc,mic,sc,gc,zc,hsh⟩:=hsh;obtain⟨⟨-,-,cc2,-,-,-,-,-⟩,-,-,cf2,-,-,-,-,-⟩:=Zan hsh;clear hsh;go_wp2_with fail
  refine(Zdj G a n cap zs 2 _ (by omega) (by omega) T3.out.1.1).mono ?_;rintro e w3 ⟨b,rfl,hd⟩;have T4:=J (Zdu T3.out hd);have hG3:=ZdC hd.1;clear hd hv;cases b
  ·go_wp2_with fail
   refine(Za1 G a n cap zs 30 _ (by omega) (by omega) T4.out.1.1).mono ?_;rintro e w5 ⟨x,hx0,hx1,rfl,hd⟩;have U1:=J (Zdu T4.out hd);clear hd;rcases(show x=29\/x=28\/x=27\/x<=26 by omega) with hx|hx|hx|hx
   ·subst hx;go_wp2_with fail
    refine(ZiX G a n cap zs _ U1.out.1.1).mono ?_;rintro e w6 ⟨v,rfl,hd⟩;have U2:=J (Zdu U1.out hd);clear hd;have U3:=J (Zc6 U2.out (ZfM U2.out.2.2 v));have hsh:=U2.out.2.2;obtain⟨yb,mob,db,hb,mib,sb,gb,zb,hsh⟩:=hsh;obtain⟨⟨-,-,bc2,-,-,-,-,-⟩,-,-,bf2,-,-,-,-,-⟩:=Zan hsh;clear hsh;have hsh:=U3.out.2.2;obtain⟨yp,mop,dp,hp,mip,sp,gp,zp,hsh⟩:=hsh;obtain⟨⟨pc0,pc1,pc2,pc3,pc4,pc5,pc6,pc7⟩,pf0,pf1,pf2,pf3,pf4,pf5,pf6,pf7⟩:=Zan hsh;clear hsh;have hrr:=U3.out.1.2.2.1;obtain⟨yr,mor,dr,hr,mir,sr,gr,zr,hrr⟩:=hrr;have HC:=J (Zan (ZdD hrr yp mop dp hp mip sp gp zp)).1;obtain⟨⟨r0,r1,r2,r3,r4,r5,r6,r7⟩,q0,q1,q2,q3,q4,q5,q6,q7⟩:=Zan hrr;have HE:=J (Zcu (B:=w0.heap.size) ⟨U3.out.1.1,U3.out.1.2.1⟩ (Zb _) U3.out.1.2.2.2 (I yp) (I mop) (I dp) (I hp) (I mip) (I sp) (.bool gp) (I zp));clear hrr;go_wp2;obtain⟨t0,t1,t2,t3,t4,t5,t6,t7⟩:=HC.out;exact bodyPost_ret (v:=.agg #[I yp,I mop,I dp,I hp,I mip,I sp,.bool gp,I zp]) (by simp[results,results46,go_sem,t0,t1,t2,t3,t4,t5,t6,t7]) rfl ⟨_,_,_,_,_,_,_,_,rfl,HE.out⟩
   ·subst hx;go_wp2_with fail
    refine(Zfp G a n cap zs _ U1.out.1.1).mono ?_;rintro e w6 ⟨v,rfl,hd⟩;have U2:=J (Zdu U1.out hd);clear hd;have U3:=J (Zc6 U2.out (Zge U2.out.2.2 v));have hsh:=U2.out.2.2;obtain⟨yb,mob,db,hb,mib,sb,gb,zb,hsh⟩:=hsh;obtain⟨⟨-,-,-,-,-,-,-,bc7⟩,-,-,-,-,-,-,-,bf7⟩:=Zan hsh;clear hsh;have hsh:=U3.out.2.2;obtain⟨yp,mop,dp,hp,mip,sp,gp,zp,hsh⟩:=hsh;obtain⟨⟨pc0,pc1,pc2,pc3,pc4,pc5,pc6,pc7⟩,pf0,pf1,pf2,pf3,pf4,pf5,pf6,pf7⟩:=Zan hsh;clear hsh;have hrr:=U3.out.1.2.2.1;obtain⟨yr,mor,dr,hr,mir,sr,gr,zr,hrr⟩:=hrr;have HC:=J (Zan (ZdD hrr yp mop dp hp mip sp gp zp)).1;obtain⟨⟨r0,r1,r2,r3,r4,r5,r6,r7⟩,q0,q1,q2,q3,q4,q5,q6,q7⟩:=Zan hrr;have HE:=J (Zcu (B:=w0.heap.size) ⟨U3.out.1.1,U3.out.1.2.1⟩ (Zb _) U3.out.1.2.2.2 (I yp) (I mop) (I dp) (I hp) (I mip) (I sp) (.bool gp) (I zp));clear hrr;go_wp2;obtain⟨t0,t1,t2,t3,t4,t5,t6,t7⟩:=HC.out;exact bodyPost_ret (v:=.agg #[I yp,I mop,I dp,I hp,I mip,I sp,.bool gp,I zp]) (by simp[results,results46,go_sem,t0,t1,t2,t3,t4,t5,t6,t7]) rfl ⟨_,_,_,_,_,_,_,_,rfl,HE.out⟩
   ·subst hx;go_wp2_with fail
    refine(ZgQ G a n cap zs _ U1.out.1.1).mono ?_;rintro e w6 ⟨v,rfl,hd⟩;have U2:=J (Zdu U1.out hd);clear hd;have U3:=J (Zc6 U2.out (Zhh U2.out.2.2 v));have hsh:=U2.out.2.2;obtain⟨yb,mob,db,hb,mib,sb,gb,zb,hsh⟩:=hsh;obtain⟨⟨bc0,-,-,-,-,-,-,-⟩,bf0,-,-,-,-,-,-,-⟩:=Zan hsh;clear hsh;have hsh:=U3.out.2.2;obtain⟨yp,mop,dp,hp,mip,sp,gp,zp,hsh⟩:=hsh;obtain⟨⟨pc0,pc1,pc2,pc3,pc4,pc5,pc6,pc7⟩,pf0,pf1,pf2,pf3,pf4,pf5,pf6,pf7⟩:=Zan hsh;clear hsh;have hrr:=U3.out.1.2.2.1;obtain⟨yr,mor,dr,hr,mir,sr,gr,zr,hrr⟩:=hrr;have HC:=J (Zan (ZdD hrr yp mop dp hp mip sp gp zp)).1;obtain⟨⟨r0,r1,r2,r3,r4,r5,r6,r7⟩,q0,q1,q2,q3,q4,q5,q6,q7⟩:=Zan hrr;have HE:=J (Zcu (B:=w0.heap.size) ⟨U3.out.1.1,U3.out.1.2.1⟩ (Zb _) U3.out.1.2.2.2 (I yp) (I mop) (I dp) (I hp) (I mip) (I sp) (.bool gp) (I zp));clear hrr;go_wp2;obtain⟨t0,t1,t2,t3,t4,t5,t6,t7⟩:=HC.out;exact bodyPost_ret (v:=.agg #[I yp,I mop,I dp,I hp,I mip,I sp,.bool gp,I zp]) (by simp[results,results46,go_sem,t0,t1,t2,t3,t4,t5,t6,t7]) rfl ⟨_,_,_,_,_,_,_,_,rfl,HE.out⟩
   ·have hsh:=U1.out.2.2;obtain⟨yp,mop,dp,hp,mip,sp,gp,zp,hsh⟩:=hsh;obtain⟨⟨pc0,pc1,pc2,pc3,pc4,pc5,pc6,pc7⟩,pf0,pf1,pf2,pf3,pf4,pf5,pf6,pf7⟩:=Zan hsh;clear hsh;have hrr:=U1.out.1.2.2.1;obtain⟨yr,mor,dr,hr,mir,sr,gr,zr,hrr⟩:=hrr;have HC:=J (Zan (ZdD hrr yp mop dp hp mip sp gp zp)).1;obtain⟨⟨r0,r1,r2,r3,r4,r5,r6,r7⟩,q0,q1,q2,q3,q4,q5,q6,q7⟩:=Zan hrr;have HE:=J (Zcu (B:=w0.heap.size) ⟨U1.out.1.1,U1.out.1.2.1⟩ (Zb _) U1.out.1.2.2.2 (I yp) (I mop) (I dp) (I hp) (I mip) (I sp) (.bool gp) (I zp));clear hrr;have n1:(x==29)=false:=(by simp;omega);have n2:(x==28)=false:=(by simp;omega);have n3:(x==27)=false:=(by simp;omega);go_wp2;obtain⟨t0,t1,t2,t3,t4,t5,t6,t7⟩:=HC.out;exact bodyPost_ret (v:=.agg #[I yp,I mop,I dp,I hp,I mip,I sp,.bool gp,I zp]) (by simp[results,results46,go_sem,t0,t1,t2,t3,t4,t5,t6,t7]) rfl ⟨_,_,_,_,_,_,_,_,rfl,HE.out⟩
  ·have T5:=J (Zc6 T4.out (Zj2 T4.out.2.2 true));have hsh:=T4.out.2.2;obtain⟨ye,moe,de,he,mie,se,ge,ze,hsh⟩:=hsh;obtain⟨⟨-,-,-,-,-,-,ec6,-⟩,-,-,-,-,-,-,ef6,-⟩:=Zan hsh;clear hsh;go_wp2_with fail
   refine(Za1 G a n cap zs 6 _ (by omega) (by omega) (ZaY T5.out.1.1 _)).mono ?_;rintro e w4 ⟨x,hx0,hx1,rfl,hd⟩;obtain⟨v,hv⟩:=ZkV hd.2 hx0 hx1 rfl (ZdC T5.out.1.1) (λk hk=>by have hk2:k<6:=hk;rcases(show k=0\/k=1\/k=2\/k=3\/k=4\/k=5 by omega) with e|e|e|e|e|e<;>subst e<;>exact⟨_,rfl⟩);have hv2:w4.cell? ⟨w3.heap.size,x.toNat,none⟩=some (I v):=by simpa using hv
   clear hv;have T6:=J (Zdu (Zom T5.out _) hd);have T7:=J (Zc6 T6.out (Zge T6.out.2.2 v));clear hd;have hsh:=T6.out.2.2;obtain⟨yf,mof,df,hf,mif,sf,gf,zf,hsh⟩:=hsh;obtain⟨⟨-,-,-,-,-,-,-,fc7⟩,-,-,-,-,-,-,-,ff7⟩:=Zan hsh;clear hsh;go_wp2_with fail
   refine(Za1 G a n cap zs 30 _ (by omega) (by omega) T7.out.1.1).mono ?_;rintro e w5 ⟨x,hx0,hx1,rfl,hd⟩;have U1:=J (Zdu T7.out hd);clear hd;rcases(show x=29\/x=28\/x=27\/x<=26 by omega) with hx|hx|hx|hx
   ·subst hx;go_wp2_with fail
    refine(ZiX G a n cap zs _ U1.out.1.1).mono ?_;rintro e w6 ⟨v,rfl,hd⟩;have U2:=J (Zdu U1.out hd);clear hd;have U3:=J (Zc6 U2.out (ZfM U2.out.2.2 v));have hsh:=U2.out.2.2;obtain⟨yb,mob,db,hb,mib,sb,gb,zb,hsh⟩:=hsh;obtain⟨⟨-,-,bc2,-,-,-,-,-⟩,-,-,bf2,-,-,-,-,-⟩:=Zan hsh;clear hsh;have hsh:=U3.out.2.2;obtain⟨yp,mop,dp,hp,mip,sp,gp,zp,hsh⟩:=hsh;obtain⟨⟨pc0,pc1,pc2,pc3,pc4,pc5,pc6,pc7⟩,pf0,pf1,pf2,pf3,pf4,pf5,pf6,pf7⟩:=Zan hsh;clear hsh;have hrr:=U3.out.1.2.2.1;obtain⟨yr,mor,dr,hr,mir,sr,gr,zr,hrr⟩:=hrr;have HC:=J (Zan (ZdD hrr yp mop dp hp mip sp gp zp)).1;obtain⟨⟨r0,r1,r2,r3,r4,r5,r6,r7⟩,q0,q1,q2,q3,q4,q5,q6,q7⟩:=Zan hrr;have HE:=J (Zcu (B:=w0.heap.size) ⟨U3.out.1.1,U3.out.1.2.1⟩ (Zb _) U3.out.1.2.2.2 (I yp) (I mop) (I dp) (I hp) (I mip) (I sp) (.bool gp) (I zp));clear hrr;go_wp2;obtain⟨t0,t1,t2,t3,t4,t5,t6,t7⟩:=HC.out;exact bodyPost_ret (v:=.agg #[I yp,I mop,I dp,I hp,I mip,I sp,.bool gp,I zp]) (by simp[results,results46,go_sem,t0,t1,t2,t3,t4,t5,t6,t7]) rfl ⟨_,_,_,_,_,_,_,_,rfl,HE.out⟩
   ·subst hx;go_wp2_with fail
    refine(Zfp G a n cap zs _ U1.out.1.1).mono ?_;rintro e w6 ⟨v,rfl,hd⟩;have U2:=J (Zdu U1.out hd);clear hd;have U3:=J (Zc6 U2.out (Zge U2.out.2.2 v));have hsh:=U2.out.2.2;obtain⟨yb,mob,db,hb,mib,sb,gb,zb,hsh⟩:=hsh;obtain⟨⟨-,-,-,-,-,-,-,bc7⟩,-,-,-,-,-,-,-,bf7⟩:=Zan hsh;clear hsh;have hsh:=U3.out.2.2;obtain⟨yp,mop,dp,hp,mip,sp,gp,zp,hsh⟩:=hsh;obtain⟨⟨pc0,pc1,pc2,pc3,pc4,pc5,pc6,pc7⟩,pf0,pf1,pf2,pf3,pf4,pf5,pf6,pf7⟩:=Zan hsh;clear hsh;have hrr:=U3.out.1.2.2.1;obtain⟨yr,mor,dr,hr,mir,sr,gr,zr,hrr⟩:=hrr;have HC:=J (Zan (ZdD hrr yp mop dp hp mip sp gp zp)).1;obtain⟨⟨r0,r1,r2,r3,r4,r5,r6,r7⟩,q0,q1,q2,q3,q4,q5,q6,q7⟩:=Zan hrr;have HE:=J (Zcu (B:=w0.heap.size) ⟨U3.out.1.1,U3.out.1.2.1⟩ (Zb _) U3.out.1.2.2.2 (I yp) (I mop) (I dp) (I hp) (I mip) (I sp) (.bool gp) (I zp));clear hrr;go_wp2;obtain⟨t0,t1,t2,t3,t4,t5,t6,t7⟩:=HC.out;exact bodyPost_ret (v:=.agg #[I yp,I mop,I dp,I hp,I mip,I sp,.bool gp,I zp]) (by simp[results,results46,go_sem,t0,t1,t2,t3,t4,t5,t6,t7]) rfl ⟨_,_,_,_,_,_,_,_,rfl,HE.out⟩
   ·subst hx;go_wp2_with fail
    refine(ZgQ G a n cap zs _ U1.out.1.1).mono ?_;rintro e w6 ⟨v,rfl,hd⟩;have U2:=J (Zdu U1.out hd);clear hd;have U3:=J (Zc6 U2.out (Zhh U2.out.2.2 v));have hsh:=U2.out.2.2;obtain⟨yb,mob,db,hb,mib,sb,gb,zb,hsh⟩:=hsh;obtain⟨⟨bc0,-,-,-,-,-,-,-⟩,bf0,-,-,-,-,-,-,-⟩:=Zan hsh;clear hsh;have hsh:=U3.out.2.2;obtain⟨yp,mop,dp,hp,mip,sp,gp,zp,hsh⟩:=hsh;obtain⟨⟨pc0,pc1,pc2,pc3,pc4,pc5,pc6,pc7⟩,pf0,pf1,pf2,pf3,pf4,pf5,pf6,pf7⟩:=Zan hsh;clear hsh;have hrr:=U3.out.1.2.2.1;obtain⟨yr,mor,dr,hr,mir,sr,gr,zr,hrr⟩:=hrr;have HC:=J (Zan (ZdD hrr yp mop dp hp mip sp gp zp)).1;obtain⟨⟨r0,r1,r2,r3,r4,r5,r6,r7⟩,q0,q1,q2,q3,q4,q5,q6,q7⟩:=Zan hrr;have HE:=J (Zcu (B:=w0.heap.size) ⟨U3.out.1.1,U3.out.1.2.1⟩ (Zb _) U3.out.1.2.2.2 (I yp) (I mop) (I dp) (I hp) (I mip) (I sp) (.bool gp) (I zp));clear hrr;go_wp2;obtain⟨t0,t1,t2,t3,t4,t5,t6,t7⟩:=HC.out;exact bodyPost_ret (v:=.agg #[I yp,I mop,I dp,I hp,I mip,I sp,.bool gp,I zp]) (by simp[results,results46,go_sem,t0,t1,t2,t3,t4,t5,t6,t7]) rfl ⟨_,_,_,_,_,_,_,_,rfl,HE.out⟩
   ·have hsh:=U1.out.2.2;obtain⟨yp,mop,dp,hp,mip,sp,gp,zp,hsh⟩:=hsh;obtain⟨⟨pc0,pc1,pc2,pc3,pc4,pc5,pc6,pc7⟩,pf0,pf1,pf2,pf3,pf4,pf5,pf6,pf7⟩:=Zan hsh;clear hsh;have hrr:=U1.out.1.2.2.1;obtain⟨yr,mor,dr,hr,mir,sr,gr,zr,hrr⟩:=hrr;have HC:=J (Zan (ZdD hrr yp mop dp hp mip sp gp zp)).1;obtain⟨⟨r0,r1,r2,r3,r4,r5,r6,r7⟩,q0,q1,q2,q3,q4,q5,q6,q7⟩:=Zan hrr;have HE:=J (Zcu (B:=w0.heap.size) ⟨U1.out.1.1,U1.out.1.2.1⟩ (Zb _) U1.out.1.2.2.2 (I yp) (I mop) (I dp) (I hp) (I mip) (I sp) (.bool gp) (I zp));clear hrr;have n1:(x==29)=false:=(by simp;omega);have n2:(x==28)=false:=(by simp;omega);have n3:(x==27)=false:=(by simp;omega);go_wp2;obtain⟨t0,t1,t2,t3,t4,t5,t6,t7⟩:=HC.out;exact bodyPost_ret (v:=.agg #[I yp,I mop,I dp,I hp,I mip,I sp,.bool gp,I zp]) (by simp[results,results46,go_sem,t0,t1,t2,t3,t4,t5,t6,t7]) rfl ⟨_,_,_,_,_,_,_,_,rfl,HE.out⟩
end
section
open Go.RowKit
def cnR(R:Nat->Nat->Prop):Nat->Nat->Nat->Prop
 |0,i,j=>i=j
 |k+1,i,j=>∃m,R i m/\cnR R k m j
def stR(R:Nat->Nat->Prop)(i j:Nat):Prop:=∃k,cnR R k i j
theorem Zes{R:Nat->Nat->Prop}:∀(k i j:Nat),cnR R (k+1) i j↔∃m,cnR R k i m/\R m j
 |0,i,j=>by
  constructor
  ·rintro ⟨m,h,rfl⟩;exact⟨i,rfl,h⟩
  ·rintro ⟨m,rfl,h⟩;exact⟨j,h,rfl⟩
 |k+1,i,j=>by
  constructor
  ·rintro ⟨m,h,h2⟩;obtain⟨u,h3,h4⟩:=(Zes k m j).1 h2;exact⟨u,⟨m,h,h3⟩,h4⟩
  ·rintro ⟨u,⟨m,h,h3⟩,h4⟩;exact⟨m,h,(Zes k m j).2 ⟨u,h3,h4⟩⟩
theorem Znw{R:Nat->Nat->Prop}:∀(k l i m j:Nat),cnR R k i m->cnR R l m j->cnR R (k+l) i j
 |0,l,i,m,j,h,h2=>by cases h;rw[ZDE];exact h2
 |k+1,l,i,m,j,⟨u,h,h3⟩,h2=>by
  rw[Nat.succ_add];exact⟨u,h,Znw k l u m j h3 h2⟩
theorem Zm6{R:Nat->Nat->Prop}:∀(k l i j:Nat),cnR R (k+l) i j->∃m,cnR R k i m/\cnR R l m j
 |0,l,i,j,h=>⟨i,rfl,by rw[ZDE]at h;exact h⟩
 |k+1,l,i,j,h=>by
  rw[Nat.succ_add]at h;obtain⟨u,h1,h2⟩:=h;obtain⟨m,h3,h4⟩:=Zm6 k l u j h2;exact⟨m,⟨u,h1,h3⟩,h4⟩
theorem Zsz{R R':Nat->Nat->Prop}(h:∀i j,R i j->R' i j):∀(k i j:Nat),cnR R k i j->cnR R' k i j
 |0,i,j,e=>e
 |k+1,i,j,⟨m,h1,h2⟩=>⟨m,h _ _ h1,Zsz h k m j h2⟩
theorem ZtJ{R:Nat->Nat->Prop}{i m j:Nat}(h:stR R i m)(h2:stR R m j):stR R i j:=by
 obtain⟨k,h⟩:=h;obtain⟨l,h2⟩:=h2;exact⟨k+l,Znw k l i m j h h2⟩
theorem ZAS{R R':Nat->Nat->Prop}(h:∀i j,R' i j->stR R i j):∀(k i j:Nat),cnR R' k i j->stR R i j
 |0,i,j,e=>⟨0,e⟩
 |k+1,i,j,⟨m,h1,h2⟩=>ZtJ (h _ _ h1) (ZAS h k m j h2)
def ctR(mn mx:Int)(R:Nat->Nat->Prop)(i j:Nat):Prop:=∃k:Nat,mn<=(k:Int)/\(mx = -1\/(k:Int)<=mx)/\cnR R k i j
theorem ZxF{R:Nat->Nat->Prop}{mx:Int}(h:mx=1\/mx = -1)(i j:Nat):stR (ctR 0 mx R) i j↔stR R i j:=by
 constructor
 ·rintro ⟨k,hk⟩;refine ZAS (λa b hab=>?_) k i j hk;obtain⟨q,-,-,hq⟩:=hab;exact⟨q,hq⟩
 ·rintro ⟨k,hk⟩;exact⟨k,Zsz (λa b hab=>⟨1,by omega,by omega,⟨b,hab,rfl⟩⟩) k i j hk⟩
def tkX(X:Rx)(c:Nat->Nat->Bool)(n:Nat):Nat->Nat->Prop:=
 if X.K n=2 then λi j=>j=i+1/\c n i=true
 else if X.K n=3 then (if h:(X.A n).toNat<n/\(X.B n).toNat<n then λi j=>∃m,tkX X c (X.A n).toNat i m/\tkX X c (X.B n).toNat m j else λ_ _=>False)
 else if X.K n=4 then (if h:(X.A n).toNat<n/\(X.B n).toNat<n then λi j=>tkX X c (X.A n).toNat i j\/tkX X c (X.B n).toNat i j else λ_ _=>False)
 else if X.K n=5 then (if h:(X.A n).toNat<n then ctR (X.MN n) (X.MX n) (tkX X c (X.A n).toNat) else λ_ _=>False)
 else λi j=>i=j
termination_by n
decreasing_by all_goals omega
section
variable {X:Rx} {c:Nat->Nat->Bool} {n a b:Nat}
theorem Zoq(h:X.K n=2):tkX X c n=λi j=>j=i+1/\c n i=true:=by rw[tkX,Zd h]
theorem Zv2(h:X.K n=3)(hA:X.A n=(a:Int))(hB:X.B n=(b:Int))(ha:a<n)(hb:b<n):tkX X c n=λi j=>∃m,tkX X c a i m/\tkX X c b m j:=by
 rw[tkX,Za (by omega),Zd h,hA,hB];simp only[ZDK];rw[dif_pos ⟨ha,hb⟩]
theorem ZzG(h:X.K n=4)(hA:X.A n=(a:Int))(hB:X.B n=(b:Int))(ha:a<n)(hb:b<n):tkX X c n=λi j=>tkX X c a i j\/tkX X c b i j:=by
 rw[tkX,Za (by omega),Za (by omega),Zd h,hA,hB];simp only[ZDK];rw[dif_pos ⟨ha,hb⟩]
theorem Zsb(h:X.K n=5)(hA:X.A n=(a:Int))(ha:a<n):tkX X c n=ctR (X.MN n) (X.MX n) (tkX X c a):=by
 rw[tkX,Za (by omega),Za (by omega),Za (by omega),Zd h,hA];simp only[ZDK];rw[dif_pos ha]
theorem ZnB(h:X.K n=1):tkX X c n=λi j=>i=j:=by
 rw[tkX,Za (by omega),Za (by omega),Za (by omega),Za (by omega)]
end
def clX(X:Rx)(C:List Int)(n i:Nat):Bool:=decide (i<C.length)&&inC (X.NT n) (X.NR n) (X.L n) (X.H n) (C[i]?.getD 0)
theorem ZAm{X:Rx}{C:List Int}{n i:Nat}(h:clX X C n i=true):i<C.length:=by
 unfold clX at h;rw[ZW,ZD1]at h;exact h.1
theorem ZvQ{X:Rx}{C:List Int}{n i:Nat}(h:i<C.length):clX X C n i=inC (X.NT n) (X.NR n) (X.L n) (X.H n) (C[i]?.getD 0):=by
 unfold clX;rw[Zh h,Bool.true_and]
structure Sp where
 fk:Bool
 cs:Nat
 nx:Nat
 ot:Nat
deriving DecidableEq
def ac(M:List Sp)(c:Nat->Nat->Bool)(N:Nat):Nat->Nat->Nat->Prop
 |0,p,i=>p=0/\i=N
 |l+1,p,i=>(p=0/\i=N)\/∃s,M[p]?=some s/\((s.fk=true/\(ac M c N l s.nx i\/ac M c N l s.ot i))\/(s.fk=false/\c s.cs i=true/\ac M c N l s.nx (i+1)))
section
variable {M:List Sp} {c:Nat->Nat->Bool} {N:Nat}
def Ld(M:List Sp)(c:Nat->Nat->Bool)(N p:Nat)(Q:Nat->Nat->Prop)(q:Nat):Prop:=
 (∀l i,ac M c N l p i->∃j l',l'<=l/\Q i j/\ac M c N l' q j)/\(∀i j l,Q i j->ac M c N l q j->∃l',ac M c N l' p i)
theorem Zxr(p:Nat):Ld M c N p (λi j=>i=j) p:=⟨λl i h=>⟨i,l,Zb _,rfl,h⟩,λi j l e h=>by cases e;exact⟨l,h⟩⟩
theorem Zuh{p q:Nat}{Q Q':Nat->Nat->Prop}(h:Ld M c N p Q q)(e:∀i j,Q i j↔Q' i j):Ld M c N p Q' q:=by
 have:Q=Q':=by funext i j;exact propext (e i j)
 rw[<-this];exact h
theorem Zxn{p q r:Nat}{Q Q':Nat->Nat->Prop}(h:Ld M c N p Q q)(k:Ld M c N q Q' r):Ld M c N p (λi j=>∃m,Q i m/\Q' m j) r:=by
 refine⟨λl i hl=>?_,λi j l hq hl=>?_⟩
 ·obtain⟨m,l1,h1,h2,h3⟩:=h.1 l i hl;obtain⟨j,l2,h4,h5,h6⟩:=k.1 l1 m h3;exact⟨j,l2,by omega,⟨m,h2,h5⟩,h6⟩
 ·obtain⟨m,h1,h2⟩:=hq;obtain⟨l1,h3⟩:=k.2 m j l h2 hl;exact h.2 i m l1 h1 h3
theorem Zum{p cs nx ot:Nat}(hp:p≠0)(hs:M[p]?=some ⟨false,cs,nx,ot⟩):Ld M c N p (λi j=>j=i+1/\c cs i=true) nx:=by
 refine⟨λl i hl=>?_,λi j l hq hl=>?_⟩
 ·cases l with
  |zero=>exact absurd hl.1 hp
  |succ l=>
   rcases hl with h|⟨s,h1,h2⟩
   ·exact absurd h.1 hp
   ·rw[hs]at h1;cases h1;rcases h2 with h2|h2
    ·exact absurd h2.1 (by simp)
    ·exact⟨i+1,l,by omega,⟨rfl,h2.2.1⟩,h2.2.2⟩
 ·obtain⟨rfl,h⟩:=hq;exact⟨l+1,.inr ⟨_,hs,.inr ⟨rfl,h,hl⟩⟩⟩
theorem Zw2{p cs nx ot r:Nat}{Q Q':Nat->Nat->Prop}(hp:p≠0)(hs:M[p]?=some ⟨true,cs,nx,ot⟩)(h:Ld M c N nx Q r)(k:Ld M c N ot Q' r):Ld M c N p (λi j=>Q i j\/Q' i j) r:=by
 refine⟨λl i hl=>?_,λi j l hq hl=>?_⟩
 ·cases l with
  |zero=>exact absurd hl.1 hp
  |succ l=>
   rcases hl with h1|⟨s,h1,h2⟩
   ·exact absurd h1.1 hp
   ·rw[hs]at h1;cases h1;rcases h2 with ⟨-,h2|h2⟩|h2
    ·obtain⟨j,l',h3,h4,h5⟩:=h.1 l i h2;exact⟨j,l',by omega,.inl h4,h5⟩
    ·obtain⟨j,l',h3,h4,h5⟩:=k.1 l i h2;exact⟨j,l',by omega,.inr h4,h5⟩
    ·exact absurd h2.1 (by simp)
 ·rcases hq with hq|hq
  ·obtain⟨l',h1⟩:=h.2 i j l hq hl;exact⟨l'+1,.inr ⟨_,hs,.inl ⟨rfl,.inl h1⟩⟩⟩
  ·obtain⟨l',h1⟩:=k.2 i j l hq hl;exact⟨l'+1,.inr ⟨_,hs,.inl ⟨rfl,.inr h1⟩⟩⟩
theorem Zxy{p r:Nat}{Q Q':Nat->Nat->Prop}(h:Ld M c N p Q r)(k:Ld M c N p Q' r):Ld M c N p (λi j=>Q i j\/Q' i j) r:=by
 refine⟨λl i hl=>?_,λi j l hq hl=>?_⟩
 ·obtain⟨j,l',h3,h4,h5⟩:=h.1 l i hl;exact⟨j,l',h3,.inl h4,h5⟩
 ·rcases hq with hq|hq
  ·exact h.2 i j l hq hl
  ·exact k.2 i j l hq hl
theorem Zuu{p cs nx ot r:Nat}{Q Q':Nat->Nat->Prop}(hs:M[p]?=some ⟨true,cs,nx,ot⟩)(h:Ld M c N p Q r)(k:Ld M c N ot Q' r):Ld M c N p (λi j=>Q i j\/Q' i j) r:=by
 refine⟨λl i hl=>?_,λi j l hq hl=>?_⟩
 ·obtain⟨j,l',h3,h4,h5⟩:=h.1 l i hl;exact⟨j,l',h3,.inl h4,h5⟩
 ·rcases hq with hq|hq
  ·exact h.2 i j l hq hl
  ·obtain⟨l',h1⟩:=k.2 i j l hq hl;exact⟨l'+1,.inr ⟨_,hs,.inl ⟨rfl,.inr h1⟩⟩⟩
theorem Zyr{b cs body r:Nat}{Q:Nat->Nat->Prop}(hp:b≠0)(hs:M[b]?=some ⟨true,cs,body,r⟩)(h:Ld M c N body Q b):Ld M c N b (stR Q) r:=by
 refine⟨?_,?_⟩
 ·have key:∀(m l i:Nat),l<m->ac M c N l b i->∃j l',l'<=l/\stR Q i j/\ac M c N l' r j:=by
   intro m;induction m with
   |zero=>intro l i hlm;omega
   |succ m ih=>
    intro l i hlm hl;cases l with
    |zero=>exact absurd hl.1 hp
    |succ l=>
     rcases hl with h1|⟨s,h1,h2⟩
     ·exact absurd h1.1 hp
     ·rw[hs]at h1;cases h1;rcases h2 with ⟨-,h2|h2⟩|h2
      ·obtain⟨j,l',h3,h4,h5⟩:=h.1 l i h2;obtain⟨j2,l2,h6,h7,h8⟩:=ih l' j (by omega) h5;refine⟨j2,l2,by omega,?_,h8⟩;obtain⟨k,hk⟩:=h7;exact⟨k+1,j,h4,hk⟩
      ·exact⟨i,l,by omega,⟨0,rfl⟩,h2⟩
      ·exact absurd h2.1 (by simp)
  exact λl i hl=>key (l+1) l i (by omega) hl
 ·have key:∀(k i j l:Nat),cnR Q k i j->ac M c N l r j->∃l',ac M c N l' b i:=by
   intro k;induction k with
   |zero=>
    intro i j l e hl;cases e;exact⟨l+1,.inr ⟨_,hs,.inl ⟨rfl,.inr hl⟩⟩⟩
   |succ k ih=>
    rintro i j l ⟨m,h1,h2⟩ hl;obtain⟨l1,h3⟩:=ih m j l h2 hl;obtain⟨l2,h4⟩:=h.2 i m l1 h1 h3;exact⟨l2+1,.inr ⟨_,hs,.inl ⟨rfl,.inl h4⟩⟩⟩
  rintro i j l ⟨k,hk⟩ hl;exact key k i j l hk hl
end
def Agr(M M':List Sp):Prop:=∀(k:Nat) (s:Sp),M[k]?=some s->s≠(⟨true,0,k,k⟩:Sp)->M'[k]?=some s
theorem ZuT(M:List Sp):Agr M M:=λk s h _=>h
theorem Zgs{M E M':List Sp}(h:Agr (M++E) M'):Agr M M':=λk s hk hs=>h k s (by
 have hl:k<M.length:=(List.getElem?_eq_some_iff.1 hk).1;rw[List.getElem?_append_left hl];exact hk) hs
theorem Zxu{M M':List Sp}{k:Nat}{s:Sp}(hk:M[k]?=some ⟨true,0,k,k⟩)(h:Agr (M.set k s) M'):Agr M M':=λj t hj ht=>by
 by_cases e:j=k
 ·subst e;rw[hk]at hj;cases hj;exact absurd rfl ht
 ·exact h j t (by rw[List.getElem?_set_ne (λx=>e x.symm)];exact hj) ht
def Wf(X:Rx)(M:List Sp):Prop:=∀(k:Nat) (s:Sp),M[k]?=some s->s.nx<M.length/\s.ot<M.length/\(s.fk=false->s.cs<X.len/\X.K s.cs=2)
theorem Zp4{X:Rx}{M:List Sp}{s:Sp}(h:Wf X M)(h1:s.nx<=M.length)(h2:s.ot<=M.length)(h3:s.fk=false->s.cs<X.len/\X.K s.cs=2):Wf X (M++[s]):=λk u hk=>by
 have hl:(M++[s]).length=M.length+1:=by simp
 rw[hl];by_cases e:k<M.length
 ·rw[List.getElem?_append_left e]at hk;obtain⟨a,b,c⟩:=h k u hk;exact⟨by omega,by omega,c⟩
 ·have hk2:k<M.length+1:=by have:=(List.getElem?_eq_some_iff.1 hk).1;omega
  have:k=M.length:=by omega
  subst this;simp at hk;subst hk;exact⟨by omega,by omega,h3⟩
theorem Zzt{X:Rx}{M:List Sp}{k:Nat}{s:Sp}(h:Wf X M)(h1:s.nx<M.length)(h2:s.ot<M.length)(h3:s.fk=false->s.cs<X.len/\X.K s.cs=2):Wf X (M.set k s):=λj u hj=>by
 rw[List.length_set];by_cases e:k=j
 ·subst e;have hl:k<M.length:=by have:=(List.getElem?_eq_some_iff.1 hj).1;simpa using this
  rw[List.getElem?_set_self hl]at hj;cases hj;exact⟨h1,h2,h3⟩
 ·rw[List.getElem?_set_ne e]at hj;exact h j u hj
def Ent(X:Rx)(M:List Sp)(Q:(Nat->Nat->Bool)->Nat->Nat->Prop)(next p:Nat)(M':List Sp):Prop:=
 (∃E,M'=M++E)/\p<M'.length/\(∀M2 c N,Agr M' M2->Ld M2 c N p (Q c) next)/\(next<M.length->Wf X M->Wf X M')
section
variable {X:Rx}
theorem ZjJ{M:List Sp}{next:Nat}(h:next<M.length):Ent X M (λ_ i j=>i=j) next next M:=⟨⟨[],by simp⟩,h,λM2 c N _=>Zxr _,λ_ h=>h⟩
theorem Zbw{M M':List Sp}{Q Q':(Nat->Nat->Bool)->Nat->Nat->Prop}{next p:Nat}(h:Ent X M Q next p M')(e:∀c i j,Q c i j↔Q' c i j):Ent X M Q' next p M':=⟨h.1,h.2.1,λM2 c N k=>Zuh (h.2.2.1 M2 c N k) (e c),h.2.2.2⟩
theorem ZqH{M:List Sp}{next n:Nat}(h0:M≠[])(hn:n<X.len/\X.K n=2):Ent X M (λc i j=>j=i+1/\c n i=true) next M.length (M++[⟨false,n,next,0⟩]):=by
 have hl:0<M.length:=List.length_pos_iff.2 h0;refine⟨⟨_,rfl⟩,by simp,λM2 c N k=>?_,λhx hw=>Zp4 hw (Nat.le_of_lt hx) (Zx _) (λ_=>hn)⟩;exact Zum (ot:=0) (by omega) (k M.length _ (by simp) (by simp))
theorem Zhn{M M1 M2:List Sp}{Q Q':(Nat->Nat->Bool)->Nat->Nat->Prop}{next p q:Nat}(h:Ent X M Q' next q M1)(k:Ent X M1 Q q p M2):Ent X M (λc i j=>∃m,Q c i m/\Q' c m j) next p M2:=by
 obtain⟨⟨E,rfl⟩,h2,h3,h4⟩:=h;obtain⟨⟨E',rfl⟩,k2,k3,k4⟩:=k;exact⟨⟨E++E',by rw[List.append_assoc]⟩,k2,λM9 c N g=>Zxn (k3 M9 c N g) (h3 M9 c N (Zgs g)),λhx hw=>k4 h2 (h4 hx hw)⟩
theorem Zjb{M M1 M2 M3:List Sp}{Q Q':(Nat->Nat->Bool)->Nat->Nat->Prop}{next p q r:Nat}(h0:M≠[])(h:Ent X M Q next p M1)(k:Ent X M1 Q' next q M2)
  (hr:(p=q/\r=p/\M3=M2)\/(p≠q/\(∃cs nx,M2[p]?=some ⟨true,cs,nx,q⟩)/\r=p/\M3=M2)\/(p≠q/\r=M2.length/\M3=M2++[⟨true,0,p,q⟩])):Ent X M (λc i j=>Q c i j\/Q' c i j) next r M3:=by
 obtain⟨⟨E,rfl⟩,h2,h3,h4⟩:=h;obtain⟨⟨E',rfl⟩,k2,k3,k4⟩:=k;have hl:0<M.length:=List.length_pos_iff.2 h0;have hp:p<(M++E++E').length:=by rw[ZDz];omega
 have hw2:next<M.length->Wf X M->Wf X (M++E++E'):=λhx hw=>k4 (by rw[ZDz];omega) (h4 hx hw)
 rcases hr with ⟨rfl,rfl,rfl⟩|⟨hne,⟨cs,nx,hs⟩,rfl,rfl⟩|⟨hne,rfl,rfl⟩
 ·exact⟨⟨E++E',by rw[List.append_assoc]⟩,k2,λM9 c N g=>Zxy (h3 M9 c N (Zgs g)) (k3 M9 c N g),hw2⟩
 ·refine⟨⟨E++E',by rw[List.append_assoc]⟩,hp,λM9 c N g=>Zuu (g _ _ hs ?_) (h3 M9 c N (Zgs g)) (k3 M9 c N g),hw2⟩;intro e;cases e;exact hne rfl
 ·refine⟨⟨E++(E'++[⟨true,0,p,q⟩]),by simp⟩,by simp,λM9 c N g=>?_,λhx hw=>Zp4 (hw2 hx hw) (Nat.le_of_lt hp) (Nat.le_of_lt k2) (λe=>by cases e)⟩;refine Zw2 (cs:=0) (by rw[ZDz,ZDz];omega) (g (M++E++E').length ⟨true,0,p,q⟩ (by simp) ?_) (h3 M9 c N (Zgs (Zgs g))) (k3 M9 c N (Zgs g));intro e;have:p=(M++E++E').length:=by injection e
  omega
theorem ZuZ{M M2:List Sp}{Q:(Nat->Nat->Bool)->Nat->Nat->Prop}{next body:Nat}(h0:M≠[])(hn:next<M.length)(h:Ent X (M++[⟨true,0,M.length,M.length⟩]) Q M.length body M2):
  Ent X M (λc=>stR (Q c)) next M.length (M2.set M.length ⟨true,0,body,next⟩):=by
 obtain⟨⟨E,rfl⟩,h2,h3,h4⟩:=h;have hl:0<M.length:=List.length_pos_iff.2 h0;refine⟨⟨⟨true,0,body,next⟩::E,by simp⟩,by simp,λM9 c N g=>?_,λhx hw=>Zzt (h4 (by simp) (Zp4 hw (Zb _) (Zb _) (λe=>by cases e))) h2 (by simp;omega) (λe=>by cases e)⟩;refine Zyr (cs:=0) (by omega) (g M.length _ (by simp) ?_) (h3 M9 c N (Zxu (by simp) g));intro e;have:next=M.length:=by injection e
 omega
end
def tsX(X:Rx)(n:Nat):Nat:=
 if X.K n=2 then 1
 else if X.K n=3 then (if h:(X.A n).toNat<n/\(X.B n).toNat<n then tsX X (X.A n).toNat+tsX X (X.B n).toNat else 0)
 else if X.K n=4 then (if h:(X.A n).toNat<n/\(X.B n).toNat<n then tsX X (X.A n).toNat+tsX X (X.B n).toNat+1 else 0)
 else if X.K n=5 then (if h:(X.A n).toNat<n then (muX X n).toNat*(tsX X (X.A n).toNat+1) else 0)
 else 0
termination_by n
decreasing_by all_goals omega
section
variable {X:Rx} {n a b:Nat}
theorem Zoh(h:X.K n=2):tsX X n=1:=by rw[tsX,Zd h]
theorem ZvB(h:X.K n=3)(hA:X.A n=(a:Int))(hB:X.B n=(b:Int))(ha:a<n)(hb:b<n):tsX X n=tsX X a+tsX X b:=by
 rw[tsX,Za (by omega),Zd h,hA,hB];simp only[ZDK];rw[dif_pos ⟨ha,hb⟩]
theorem Zzg(h:X.K n=4)(hA:X.A n=(a:Int))(hB:X.B n=(b:Int))(ha:a<n)(hb:b<n):tsX X n=tsX X a+tsX X b+1:=by
 rw[tsX,Za (by omega),Za (by omega),Zd h,hA,hB];simp only[ZDK];rw[dif_pos ⟨ha,hb⟩]
theorem ZqL(h:X.K n=5)(hA:X.A n=(a:Int))(ha:a<n):tsX X n=(muX X n).toNat*(tsX X a+1):=by
 rw[tsX,Za (by omega),Za (by omega),Za (by omega),Zd h,hA];simp only[ZDK];rw[dif_pos ha]
theorem Zth(h:X.K n=1):tsX X n=0:=by
 rw[tsX,Za (by omega),Za (by omega),Za (by omega),Za (by omega)]
end
theorem Zph(X:Rx)(len:Nat)(hm:ZBT X len):∀(m n f:Nat),n<m->n<len->trX X n=some f->wtX X n<=2000->tsX X n<=(wtX X n).toNat*(n+1-f)/\1<=wtX X n/\f<=n
 |0,n,f,h,_,_,_=>by omega
 |m+1,n,f,h,hl,ht,hw=>by
  have hfn:f<=n:=Ziq _ _ _ _ ht;obtain⟨h5,h2,hk⟩:=hm n hl;have leaf:X.K n=1\/X.K n=2->f=n/\wtX X n=1:=λhk=>by
   have g2:¬ZeA X.K n=true:=by unfold ZeA;rw[ZD1];omega
   have g5:¬ZgD X.K n=true:=by unfold ZgD;rw[ZD1];omega
   refine⟨?_,ZlZ _ _ _ _ _ g2 g5⟩;unfold trX at ht;rw[Zic _ _ _ _ g2 g5]at ht;cases ht;rfl
  have pair:∀c,X.K n=3\/X.K n=4->trX X (n-1)=some c->trX X (c-1)=some f->1<=c->c<=n-1->X.A n=((c-1:Nat):Int)->X.B n=((n-1:Nat):Int)->n-1<n->wtX X n=min (wtX X (c-1)+wtX X (n-1)) 2001:=λc hk t1 t2 h1 hc hA hB hn=>by
   have g2:ZeA X.K n=true:=Zh hk;exact ZpU _ _ _ _ (muX X) g2 (by omega) t1 (by omega) t2
  rcases hk with k1|k2|k3|k4|k5
  ·obtain⟨e1,e2⟩:=leaf (.inl k1);rw[Zth k1,e2];exact⟨Zx _,by omega,hfn⟩
  ·obtain⟨e1,e2⟩:=leaf (.inr k2);rw[Zoh k2,e2];refine⟨?_,by omega,hfn⟩;show 1<=1*(n+1-f);omega
  ·obtain⟨c,hA,hB,ha,hb,h1,hc,t1,t2⟩:=Ze9 ht (.inl k3);have hw2:=pair c (.inl k3) t1 t2 h1 hc hA hB hb;have p1:=ZeQ X (c-1);have p2:=ZeQ X (n-1);obtain⟨i1,i2,i3⟩:=Zph X len hm m (c-1) f (by omega) (by omega) t2 (by omega);obtain⟨j1,j2,j3⟩:=Zph X len hm m (n-1) c (by omega) (by omega) t1 (by omega);rw[ZvB k3 hA hB ha hb];refine⟨?_,by omega,hfn⟩;have e:(wtX X n).toNat=(wtX X (c-1)).toNat+(wtX X (n-1)).toNat:=by omega
   rw[e,Nat.add_mul];exact Nat.add_le_add (ZDA i1 (Nat.mul_le_mul (Zb _) (by omega))) (ZDA j1 (Nat.mul_le_mul (Zb _) (by omega)))
  ·obtain⟨c,hA,hB,ha,hb,h1,hc,t1,t2⟩:=Ze9 ht (.inr k4);have hw2:=pair c (.inr k4) t1 t2 h1 hc hA hB hb;have p1:=ZeQ X (c-1);have p2:=ZeQ X (n-1);obtain⟨i1,i2,i3⟩:=Zph X len hm m (c-1) f (by omega) (by omega) t2 (by omega);obtain⟨j1,j2,j3⟩:=Zph X len hm m (n-1) c (by omega) (by omega) t1 (by omega);rw[Zzg k4 hA hB ha hb];refine⟨?_,by omega,hfn⟩;have e:(wtX X n).toNat=(wtX X (c-1)).toNat+(wtX X (n-1)).toNat:=by omega
   have q1:(wtX X (c-1)).toNat*(c-1+1-f)+(wtX X (c-1)).toNat<=(wtX X (c-1)).toNat*(n+1-f):=by
    rw[<-Nat.mul_succ];exact Nat.mul_le_mul (Zb _) (by omega)
   have q2:(wtX X (n-1)).toNat*(n-1+1-c)<=(wtX X (n-1)).toNat*(n+1-f):=Nat.mul_le_mul (Zb _) (by omega);rw[e,Nat.add_mul];omega
  ·obtain⟨hA,ha,t1⟩:=Zhe ht k5;have g2:¬ZeA X.K n=true:=by unfold ZeA;rw[ZD1];omega
   have g5:ZgD X.K n=true:=Zh k5;have hw2:wtX X n=min (wtX X (n-1)*muX X n) 2001:=ZqA _ _ _ _ (muX X) g2 g5 (by omega) t1;have p1:=ZeQ X (n-1);have p2:=Zrc X n;have hle:wtX X (n-1)<=wtX X (n-1)*muX X n:=by
    have:=Int.mul_le_mul_of_nonneg_left p2 p1;rw[Int.mul_one]at this;exact this
   obtain⟨i1,i2,i3⟩:=Zph X len hm m (n-1) f (by omega) (by omega) t1 (by omega);rw[ZqL k5 hA ha];refine⟨?_,by omega,hfn⟩;have e:(wtX X n).toNat=(muX X n).toNat*(wtX X (n-1)).toNat:=by
    have e1:wtX X n=wtX X (n-1)*muX X n:=(by omega);rw[e1,Int.toNat_mul p1 (by omega),Nat.mul_comm]
   rw[e,Nat.mul_assoc];refine Nat.mul_le_mul (Zb _) ?_;have:(wtX X (n-1)).toNat*(n-1+1-f)+(wtX X (n-1)).toNat<=(wtX X (n-1)).toNat*(n+1-f):=by
    rw[<-Nat.mul_succ];exact Nat.mul_le_mul (Zb _) (by omega)
   omega
end
end Go.Proofs.YtcdnilpdohknfaaGreatDoor
