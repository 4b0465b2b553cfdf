import Derived.Test.YtcdnilpdohknfaaGreatDoorJ24
import Derived.Laws.ResultCell
set_option linter.unusedVariables false
set_option linter.unusedSimpArgs false
set_option maxRecDepth 100000
set_option maxHeartbeats 16000000
namespace Go.Proofs.YtcdnilpdohknfaaGreatDoor
open Tryz
section
open Go.RowKit Go.Joins
theorem Zbo(G:Nat)(a:Option Addr)(n cap:Nat)(zs:List Int)(m:Int)(w:World)(hm:1<=m)(hm':m<=256)(h:Zfr w G a n cap zs):
  Calls prog 22 #[.pointer (some ⟨G,0,none⟩),I m] w λe w'=>∃x:Int,0<=x/\x<m/\e=.returned (I x)/\ZG G a n cap zs w w':=by
 by_cases h2:2<=m
 ·exact Za1 G a n cap zs m w h2 hm' h
 ·have h1:m<=1:=by omega
  have HH:=J h;clear h;go_enter func22,ntmps22
  go_wp2;go_ret;exact⟨0,by omega,by omega,rfl,HH.out,ZiJ w _⟩
theorem ZsA(y mo d h mi s:Int)(g:Bool)(z:Int):(dtB y mo d h mi s g z).size<=25:=by
 unfold dtB;split
 ·have hz:(Zcq g z).size<=6:=by
   unfold Zcq;split
   ·decide
   ·split
    ·decide
    ·split<;>(unfold ZbS;simp only[Z5];exact(show 1+(2+(1+2))<=6 by decide))
  unfold Zs2 Zg8 ZbS;simp only[Z5];show 2+2+(1+(2+(1+2)))+(1+(2+(1+2)+(1+(2+(Zcq g z).size))))<=25;omega
 ·decide
theorem ZjV{w w1 w2:World}{G:Nat}{a:Option Addr}{n cap:Nat}{zs:List Int}(h:ZG G a n cap zs w w1)(k:ZL w1 w2):ZG G a n cap zs w w2:=
 ⟨Zdo (row:=none) h.1 ⟨k.os,k.tape,k.output,k.size,λj hj _=>k.block j hj⟩ (λk hk=>by cases hk),ZaP h.2 ⟨k.os,k.tape,k.output,k.size,λj hj _=>k.block j hj⟩⟩
theorem Zd6{w w1:World}{G:Nat}(K:Nat){cs:Array Value}{T:TypeId}{x:Int}{N:Nat}(hg:(w.alloc (.cells cs T)).grownBy w1 (some G))(h0:0<=x)(hx:x<N)(hN:cs.size=N)(hG:G<w.heap.size)(hK:∀k,k<N->∃s:ZB,cs[k]?=some (.string s)/\s.size<=K):∃s:ZB,w1.cell? ⟨w.heap.size,x.toNat,none⟩=some (.string s)/\s.size<=K:=by
 have hb:=hg.block w.heap.size (by simp) (λe=>by cases e;omega);rw[World.cell?_of_block (a:=⟨w.heap.size,x.toNat,none⟩) hb,ZO _ w.heap.size x.toNat _ T (0,0) (Zz w _)];exact hK x.toNat (by omega)
def VdA(G:Nat)(a:Option Addr)(n cap:Nat)(zs:List Int)(w:World)(e:Ending)(w':World):Prop:=∃s:ZB,s.size<=100/\e=.returned (.string s)/\ZG G a n cap zs w w'
theorem Zkd(G:Nat)(a:Option Addr)(n cap:Nat)(zs:List Int)(w:World)(h:Zfr w G a n cap zs):
  Calls prog 25 #[.pointer (some ⟨G,0,none⟩)] w (VdA G a n cap zs w):=by
 have HH:=J h;have hG:=ZdC h;clear h;go_enter func25,ntmps25
 go_wp2_with fail
 refine(Zbo G a n cap zs 7 _ (by omega) (by omega) HH.out).mono ?_;rintro e w1 ⟨x,hx0,hx7,rfl,hd⟩;have HD:=J hd;have hG1:G<w1.heap.size:=ZdC hd.1;clear hd;have hx:x=0\/x=1\/x=2\/x=3\/x=4\/x=5\/x=6:=by omega
 clear hx0 hx7;rcases hx with rfl|rfl|rfl|rfl|rfl|rfl|rfl
 ·go_wp2_with fail
  refine(ZrI G a n cap zs _ HD.out.1).mono ?_;rintro e w2 ⟨s,hs,rfl,hd⟩;have HD2:=J (Zaj HD.out hd);clear hd;go_wp2;go_ret;exact⟨s,by omega,rfl,HD2.out⟩
 ·go_wp2_with fail
  refine(ZBK G a n cap zs _ HD.out.1).mono ?_;rintro e w2 ⟨x0,x1,x2,x3,x4,x5,x6,x7,rfl,hd⟩;have HD2:=J (Zaj HD.out hd);clear hd;go_wp2_with fail
  refine ZM (ZlV x0 x1 x2 x3 x4 x5 x6 x7 _) ?_;rintro w3 hb;have HD3:=J (ZjV HD2.out hb);have hz:=ZsA x0 x1 x2 x3 x4 x5 x6 x7;generalize dtB x0 x1 x2 x3 x4 x5 x6 x7=s at hz;clear hb;go_wp2;go_ret;exact⟨s,by omega,rfl,HD3.out⟩
 ·go_wp2_with fail
  refine(Zbo G a n cap zs 5 _ (by omega) (by omega) (ZaY HD.out.1 _)).mono ?_;rintro e w2 ⟨x,hx0,hx1,rfl,hd⟩;obtain⟨s,hs,hs1⟩:=Zd6 8 hd.2 hx0 hx1 rfl hG1 (λk hk=>by
   have hk':k<5:=hk;have hx:k=0\/k=1\/k=2\/k=3\/k=4:=by omega
   rcases hx with e|e|e|e|e<;>subst e<;>exact⟨_,rfl,by decide⟩)
  have HD2:=J (Zaj HD.out (Zbi _ hd));clear hd;go_wp2;go_ret;exact⟨s,by omega,rfl,HD2.out⟩
 ·go_wp2_with fail
  refine(Zv9 G a n cap zs _ HD.out.1).mono ?_;rintro e w2 ⟨s,hs1,hs5,rfl,hd⟩;have HD2:=J (Zaj HD.out hd);clear hd;go_wp2_with fail
  refine(Zv9 G a n cap zs _ HD2.out.1).mono ?_;rintro e w3 ⟨t,ht1,ht5,rfl,hd⟩;have HD3:=J (Zaj HD2.out hd);clear hd;go_wp2;go_ret;refine⟨_,?_,rfl,HD3.out⟩;simp only[Z5];show s.size+1+t.size<=100;omega
 ·go_wp2_with fail
  refine(Zbo G a n cap zs 7 _ (by omega) (by omega) (ZaY HD.out.1 _)).mono ?_;rintro e w2 ⟨x,hx0,hx1,rfl,hd⟩;obtain⟨s,hs,hs1⟩:=Zd6 8 hd.2 hx0 hx1 rfl hG1 (λk hk=>by
   have hk':k<7:=hk;have hx:k=0\/k=1\/k=2\/k=3\/k=4\/k=5\/k=6:=by omega
   rcases hx with e|e|e|e|e|e|e<;>subst e<;>exact⟨_,rfl,by decide⟩)
  have HD2:=J (Zaj HD.out (Zbi _ hd));clear hd;go_wp2;go_ret;exact⟨s,by omega,rfl,HD2.out⟩
 all_goals
  go_wp2_with fail
  refine(ZAU G a n cap zs _ HD.out.1).mono ?_;rintro e w2 ⟨s,hs,rfl,hd⟩;have HD2:=J (Zaj HD.out hd);clear hd;go_wp2;go_ret;exact⟨s,by omega,rfl,HD2.out⟩
theorem Zq4(w:World)(xs:List Int):
  (convert 22 9 (.slice (some ⟨w.heap.size,0,none⟩) xs.length xs.length)).run prog (w.alloc (.cells (xs.map (Value.int .u8)).toArray 5))=.ok (.string (strOfNums xs)) (w.alloc (.cells (xs.map (Value.int .u8)).toArray 5)):=by
 refine run_convert_bytes_arg _ 22 5 underlying22 underlying5 w.heap.size 0 xs.length xs.length xs rfl ?_ 9 underlying9;intro i hi;rw[show(0+i)=i by omega,ZO _ w.heap.size i _ 5 (0,0) (Zz w _)];simp[Zv hi]
theorem ZBc(n:Int)(w:World)(h0:0<=n)(h9:n<10):Calls prog 73 #[I n] w λe w'=>∃s:ZB,s.size<=4/\e=.returned (.string s)/\ZL w w':=by
 have hcv:=Zq4 w [48+n];simp only[List.map_cons,List.map_nil,ZDB,List.length_nil,ZDE]at hcv;have hsz:(strOfNums [48+n]).size=1:=rfl;obtain⟨S,hS⟩:=ZX (strOfNums [48+n]);rw[hS]at hcv hsz;have hs1:S.size<=1:=by omega
 have HZ:=J hs1;clear hS hsz;go_enter func73,ntmps73
 go_wp2
 go_loopw [0,3] (λnv sv wr=>nv=I n/\sv=.string ⟨#[]⟩/\wr=w) (λ_ _ _=>0)
 case atStart=>exact⟨rfl,rfl,rfl⟩
 case round=>
  obtain⟨rfl,rfl,rfl⟩:=hrel;go_wp2;go_ret;refine⟨_,?_,rfl,(Ze _ _).alloc (Zb _) _⟩;first|(have h8:=HZ.out;omega)|(rw[Z5];have h8:=HZ.out;show 0+_<=_;omega)|(rw[Z5];have h8:=HZ.out;show _+0<=_;omega)
def tyN(nm:ZB)(kd:Int):Ty:=⟨nm,kd,0,[],-1,-1,⟨#[]⟩,⟨#[]⟩,⟨#[]⟩,[]⟩
structure SJ (G:Nat) (a:Option Addr) (n cap:Nat) (zs:List Int) (w0:World) (X:Nat) (q:Tq) (w:World):Prop where
 gl:G<w0.heap.size
 xa:w0.heap.size+1<=X
 box:w.heap[X]?=some (.cells (tqV q).toArray 33 (0,0))
 res:w.heap[w0.heap.size]?=some (.cells (tqV tq0).toArray 33 (0,0))
 row:TqR (X+1) w q
 ok:TqK q.x
 drew:ZG G a n cap zs w0 w
section
variable {G:Nat} {a:Option Addr} {n cap:Nat} {zs:List Int} {w0 w w1:World} {X:Nat} {q q':Tq}
theorem Zgq(h:SJ G a n cap zs w0 X q w):X<w.heap.size/\G<w.heap.size/\w0.heap.size<w.heap.size:=by
 have h1:=(Array.getElem?_eq_some_iff.1 h.box).1;have h2:=h.xa;have h3:=h.gl;exact⟨h1,by omega,by omega⟩
theorem Zot{row:Option Nat}(h:SJ G a n cap zs w0 X q w)(hg:w.grownBy w1 row)(hr:∀k,row=some k->w.heap.size<=k\/k=G)(hd:Zfr w1 G a n cap zs):SJ G a n cap zs w0 X q w1:=by
 obtain⟨l1,l2,l3⟩:=Zgq h;have hxa:=h.xa;have hgl:=h.gl;have ne:∀k,row=some k->X≠k/\w0.heap.size≠k:=λk hk=>by rcases hr k hk with e|e<;>omega
 exact⟨h.gl,h.xa,(hg.block X l1 (λe=>(ne X e.symm).1 rfl)).trans h.box,(hg.block w0.heap.size l3 (λe=>(ne _ e.symm).2 rfl)).trans h.res,Ztn h.row hg (λk hk=>by rcases hr k hk with e|e<;>omega),h.ok,hd,⟨hg.os.trans h.drew.2.os,hg.tape.trans h.drew.2.tape,hg.output.trans h.drew.2.output,ZDA h.drew.2.size hg.size,λk hk hne=>(hg.block k (ZDy hk h.drew.2.size) (λe=>by rcases hr k e.symm with e2|e2;have:=h.drew.2.size;omega;exact hne (by rw[e2]))).trans (h.drew.2.block k hk hne)⟩⟩
theorem Zcf(h:SJ G a n cap zs w0 X q w)(hd:ZG G a n cap zs w w1):SJ G a n cap zs w0 X q w1:=Zot h hd.2 (λk hk=>by cases hk;exact .inr rfl) hd.1
theorem Zdl(h:SJ G a n cap zs w0 X q w)(hb:ZL w w1):SJ G a n cap zs w0 X q w1:=
 Zot h (row:=none) ⟨hb.os,hb.tape,hb.output,hb.size,λk hk _=>hb.block k hk⟩ (λk hk=>by cases hk) (Zdo (row:=none) h.drew.1 ⟨hb.os,hb.tape,hb.output,hb.size,λk hk _=>hb.block k hk⟩ (λk hk=>by cases hk))
theorem Zbt(w:World)(B i:Nat)(v:Value):w.grownBy (w.setCell ⟨B,i,none⟩ v) (some B):=
 ⟨rfl,rfl,rfl,by rw[ZcS];exact Zb _,λk hk hne=>Zc9 _ _ _ _ (λe=>hne (by rw[<-e]))⟩
theorem ZdS(h:SJ G a n cap zs w0 X q w)(i:Nat)(v:Value)(e:(tqV q).toArray.setIfInBounds i v=(tqV q').toArray)(hr:TqR (X+1) w q')(hk:TqK q'.x):SJ G a n cap zs w0 X q' (w.setCell ⟨X,i,none⟩ v):=by
 obtain⟨l1,l2,l3⟩:=Zgq h;have hxa:=h.xa;have hgl:=h.gl;have hg:=Zbt w X i v;refine⟨h.gl,h.xa,by rw[ZEk w X i _ _ v h.box,e],(hg.block w0.heap.size l3 (λe=>by cases e;omega)).trans h.res,⟨Zbv hr.1 hg (λk hk e=>by cases hk;have:=(hr.1.lt X e).1;omega),Zbv hr.2 hg (λk hk e=>by cases hk;have:=(hr.2.lt X e).1;omega)⟩,hk,Zdo h.drew.1 hg (λk hk=>by cases hk;omega),ZhG h.drew.2 hg (λk hk=>by cases hk;omega)⟩
theorem Za9(h:SJ G a n cap zs w0 X q w)(i:Nat):w.cell? ⟨X,i,none⟩=(tqV q)[i]?/\w.frozen? ⟨X,i,none⟩=false:=⟨by rw[ZO w X i _ _ (0,0) h.box];simp,ZEm w X i _ _ h.box⟩
theorem ZdL(h:SJ G a n cap zs w0 X q w)(i:Nat):w.cell? ⟨w0.heap.size,i,none⟩=(tqV tq0)[i]?/\w.frozen? ⟨w0.heap.size,i,none⟩=false:=⟨by rw[ZO w w0.heap.size i _ _ (0,0) h.res];simp,ZEm w w0.heap.size i _ _ h.res⟩
theorem ZAG{y:Int}{ad:Option Addr}{c:Nat}(h:SJ G a n cap zs w0 X q w)(hg:w.grownBy w1 (Value.slice q.am q.x.ms.length q.cm).ownBlock)(ho:w1.ownsRow (X+1) 2 1 (.slice ad (q.x.ms.length+1) c) (q.x.ms.length+1) (q.x.ms.map (Value.int .i64)++[I y]))
  (hl:q.x.ms.length<=3) (hy:0<=y/\y<=100) (he:q.x.en=[]) (hea:q.ae=none) (hce:q.ce=0):SJ G a n cap zs w0 X { q with x:={ q.x with ms:=q.x.ms++[y] },am:=ad,cm:=c } (w1.setCell ⟨X,3,none⟩ (.slice ad (q.x.ms.length+1) c)):=by
 obtain⟨l1,l2,l3⟩:=Zgq h;have hxa:=h.xa;have hgl:=h.gl;have hk:∀k,(Value.slice q.am q.x.ms.length q.cm).ownBlock=some k->X+1<=k:=λk e=>(h.row.1.lt k e).1
 have hb:=(hg.block X l1 (λe=>by have:=hk X e.symm;omega)).trans h.box;have hgs:=Zbt w1 X 3 (.slice ad (q.x.ms.length+1) c);have hd1:ZG G a n cap zs w0 w1:=⟨Zdo h.drew.1 hg (λk e=>by have:=hk k e;omega),ZhG h.drew.2 hg (λk e=>by have:=hk k e;omega)⟩;obtain⟨k1,k2,k3,k4,⟨k5,k6⟩,k7,k8,k9⟩:=h.ok;refine⟨h.gl,h.xa,?_,?_,⟨?_,?_⟩,⟨k1,k2,k3,k4,⟨?_,λm hm=>?_⟩,k7,k8,k9⟩,?_,?_⟩
 ·rw[ZEk w1 X 3 _ _ _ hb];have:(q.x.ms++[y]).length=q.x.ms.length+1:=by simp
  simp only[tqV,this];rfl
 ·exact(hgs.block _ (by have:=hg.size;omega) (λe=>by cases e;omega)).trans ((hg.block w0.heap.size l3 (λe=>by have:=hk _ e.symm;omega)).trans h.res)
 ·have:(q.x.ms++[y]).length=q.x.ms.length+1:=by simp
  show(w1.setCell ⟨X,3,none⟩ _).ownsRow (X+1) _ 1 (.slice ad (q.x.ms++[y]).length c) (q.x.ms++[y]).length ((q.x.ms++[y]).map (Value.int .i64));rw[this,List.map_append];exact Zbv ho hgs (λk hk e=>by cases hk;have:=(ho.lt X e).1;omega)
 ·show(w1.setCell ⟨X,3,none⟩ _).ownsRow (X+1) _ 1 (.slice q.ae q.x.en.length q.ce) q.x.en.length (q.x.en.map Value.string);rw[he,hea,hce];exact ZEo _ _ _ _
 ·simp;omega
 ·rcases List.mem_append.1 hm with hm|hm
  ·exact k6 m hm
  ·rw[List.mem_singleton]at hm;subst hm;exact hy
 ·exact Zdo hd1.1 hgs (λk e=>by cases e;omega)
 ·exact ZhG hd1.2 hgs (λk e=>by cases e;omega)
theorem Zzs(h:SJ G a n cap zs w0 X q w)(hg:w.grownBy w1 (Value.slice q.am q.x.ms.length q.cm).ownBlock):(∀i,w1.cell? ⟨X,i,none⟩=(tqV q)[i]?)/\∀i,w1.frozen? ⟨X,i,none⟩=false:=by
 obtain⟨l1,l2,l3⟩:=Zgq h;have hk:∀k,(Value.slice q.am q.x.ms.length q.cm).ownBlock=some k->X+1<=k:=λk e=>(h.row.1.lt k e).1
 have hb:=(hg.block X l1 (λe=>by have:=hk X e.symm;omega)).trans h.box;exact⟨λi=>by rw[ZO w1 X i _ _ (0,0) hb];simp,λi=>ZEm w1 X i _ _ hb⟩
theorem Zq5(w:World)(B:Nat)(v0 v1 v2 v3 v4 v5 v6 v7 v8 v9:Value):w.grownBy ((((((((((w.setCell ⟨B,0,none⟩ v0).setCell ⟨B,1,none⟩ v1).setCell ⟨B,2,none⟩ v2).setCell ⟨B,3,none⟩ v3).setCell ⟨B,4,none⟩ v4).setCell ⟨B,5,none⟩ v5).setCell ⟨B,6,none⟩ v6).setCell ⟨B,7,none⟩ v7).setCell ⟨B,8,none⟩ v8).setCell ⟨B,9,none⟩ v9) (some B):=
 ZaP (ZaP (ZaP (ZaP (ZaP (ZaP (ZaP (ZaP (ZaP (Zbt _ _ _ _) (Zbt _ _ _ _)) (Zbt _ _ _ _)) (Zbt _ _ _ _)) (Zbt _ _ _ _)) (Zbt _ _ _ _)) (Zbt _ _ _ _)) (Zbt _ _ _ _)) (Zbt _ _ _ _)) (Zbt _ _ _ _)
theorem Zy3{w:World}{B:Nat}{cs:Array Value}{T:TypeId}(h:w.heap[B]?=some (.cells cs T (0,0)))(hc:cs.size=10)(v0 v1 v2 v3 v4 v5 v6 v7 v8 v9:Value):((((((((((w.setCell ⟨B,0,none⟩ v0).setCell ⟨B,1,none⟩ v1).setCell ⟨B,2,none⟩ v2).setCell ⟨B,3,none⟩ v3).setCell ⟨B,4,none⟩ v4).setCell ⟨B,5,none⟩ v5).setCell ⟨B,6,none⟩ v6).setCell ⟨B,7,none⟩ v7).setCell ⟨B,8,none⟩ v8).setCell ⟨B,9,none⟩ v9).heap[B]?=some (.cells #[v0,v1,v2,v3,v4,v5,v6,v7,v8,v9] T (0,0)):=by
 obtain⟨l⟩:=cs
 match l,hc with
 |[a0,a1,a2,a3,a4,a5,a6,a7,a8,a9],_=>
  have h0:(w.setCell ⟨B,0,none⟩ v0).heap[B]?=some (.cells #[v0,a1,a2,a3,a4,a5,a6,a7,a8,a9] T (0,0)):=ZEk w B 0 _ _ v0 h;have h1:((w.setCell ⟨B,0,none⟩ v0).setCell ⟨B,1,none⟩ v1).heap[B]?=some (.cells #[v0,v1,a2,a3,a4,a5,a6,a7,a8,a9] T (0,0)):=ZEk (w.setCell ⟨B,0,none⟩ v0) B 1 _ _ v1 h0;have h2:(((w.setCell ⟨B,0,none⟩ v0).setCell ⟨B,1,none⟩ v1).setCell ⟨B,2,none⟩ v2).heap[B]?=some (.cells #[v0,v1,v2,a3,a4,a5,a6,a7,a8,a9] T (0,0)):=ZEk ((w.setCell ⟨B,0,none⟩ v0).setCell ⟨B,1,none⟩ v1) B 2 _ _ v2 h1;have h3:((((w.setCell ⟨B,0,none⟩ v0).setCell ⟨B,1,none⟩ v1).setCell ⟨B,2,none⟩ v2).setCell ⟨B,3,none⟩ v3).heap[B]?=some (.cells #[v0,v1,v2,v3,a4,a5,a6,a7,a8,a9] T (0,0)):=ZEk (((w.setCell ⟨B,0,none⟩ v0).setCell ⟨B,1,none⟩ v1).setCell ⟨B,2,none⟩ v2) B 3 _ _ v3 h2;have h4:(((((w.setCell ⟨B,0,none⟩ v0).setCell ⟨B,1,none⟩ v1).setCell ⟨B,2,none⟩ v2).setCell ⟨B,3,none⟩ v3).setCell ⟨B,4,none⟩ v4).heap[B]?=some (.cells #[v0,v1,v2,v3,v4,a5,a6,a7,a8,a9] T (0,0)):=ZEk ((((w.setCell ⟨B,0,none⟩ v0).setCell ⟨B,1,none⟩ v1).setCell ⟨B,2,none⟩ v2).setCell ⟨B,3,none⟩ v3) B 4 _ _ v4 h3;have h5:((((((w.setCell ⟨B,0,none⟩ v0).setCell ⟨B,1,none⟩ v1).setCell ⟨B,2,none⟩ v2).setCell ⟨B,3,none⟩ v3).setCell ⟨B,4,none⟩ v4).setCell ⟨B,5,none⟩ v5).heap[B]?=some (.cells #[v0,v1,v2,v3,v4,v5,a6,a7,a8,a9] T (0,0)):=ZEk (((((w.setCell ⟨B,0,none⟩ v0).setCell ⟨B,1,none⟩ v1).setCell ⟨B,2,none⟩ v2).setCell ⟨B,3,none⟩ v3).setCell ⟨B,4,none⟩ v4) B 5 _ _ v5 h4;have h6:(((((((w.setCell ⟨B,0,none⟩ v0).setCell ⟨B,1,none⟩ v1).setCell ⟨B,2,none⟩ v2).setCell ⟨B,3,none⟩ v3).setCell ⟨B,4,none⟩ v4).setCell ⟨B,5,none⟩ v5).setCell ⟨B,6,none⟩ v6).heap[B]?=some (.cells #[v0,v1,v2,v3,v4,v5,v6,a7,a8,a9] T (0,0)):=ZEk ((((((w.setCell ⟨B,0,none⟩ v0).setCell ⟨B,1,none⟩ v1).setCell ⟨B,2,none⟩ v2).setCell ⟨B,3,none⟩ v3).setCell ⟨B,4,none⟩ v4).setCell ⟨B,5,none⟩ v5) B 6 _ _ v6 h5;have h7:((((((((w.setCell ⟨B,0,none⟩ v0).setCell ⟨B,1,none⟩ v1).setCell ⟨B,2,none⟩ v2).setCell ⟨B,3,none⟩ v3).setCell ⟨B,4,none⟩ v4).setCell ⟨B,5,none⟩ v5).setCell ⟨B,6,none⟩ v6).setCell ⟨B,7,none⟩ v7).heap[B]?=some (.cells #[v0,v1,v2,v3,v4,v5,v6,v7,a8,a9] T (0,0)):=ZEk (((((((w.setCell ⟨B,0,none⟩ v0).setCell ⟨B,1,none⟩ v1).setCell ⟨B,2,none⟩ v2).setCell ⟨B,3,none⟩ v3).setCell ⟨B,4,none⟩ v4).setCell ⟨B,5,none⟩ v5).setCell ⟨B,6,none⟩ v6) B 7 _ _ v7 h6;have h8:(((((((((w.setCell ⟨B,0,none⟩ v0).setCell ⟨B,1,none⟩ v1).setCell ⟨B,2,none⟩ v2).setCell ⟨B,3,none⟩ v3).setCell ⟨B,4,none⟩ v4).setCell ⟨B,5,none⟩ v5).setCell ⟨B,6,none⟩ v6).setCell ⟨B,7,none⟩ v7).setCell ⟨B,8,none⟩ v8).heap[B]?=some (.cells #[v0,v1,v2,v3,v4,v5,v6,v7,v8,a9] T (0,0)):=ZEk ((((((((w.setCell ⟨B,0,none⟩ v0).setCell ⟨B,1,none⟩ v1).setCell ⟨B,2,none⟩ v2).setCell ⟨B,3,none⟩ v3).setCell ⟨B,4,none⟩ v4).setCell ⟨B,5,none⟩ v5).setCell ⟨B,6,none⟩ v6).setCell ⟨B,7,none⟩ v7) B 8 _ _ v8 h7;exact ZEk (((((((((w.setCell ⟨B,0,none⟩ v0).setCell ⟨B,1,none⟩ v1).setCell ⟨B,2,none⟩ v2).setCell ⟨B,3,none⟩ v3).setCell ⟨B,4,none⟩ v4).setCell ⟨B,5,none⟩ v5).setCell ⟨B,6,none⟩ v6).setCell ⟨B,7,none⟩ v7).setCell ⟨B,8,none⟩ v8) B 9 _ _ v9 h8
theorem ZzN(h:SJ G a n cap zs w0 X q w):(((((((((((w.setCell ⟨w0.heap.size,0,none⟩ (.string q.x.nm)).setCell ⟨w0.heap.size,1,none⟩ (I q.x.kd)).setCell ⟨w0.heap.size,2,none⟩ (I q.x.bs)).setCell ⟨w0.heap.size,3,none⟩ (.slice q.am q.x.ms.length q.cm)).setCell ⟨w0.heap.size,4,none⟩ (I q.x.mn)).setCell ⟨w0.heap.size,5,none⟩ (I q.x.mx)).setCell ⟨w0.heap.size,6,none⟩ (.string q.x.lo)).setCell ⟨w0.heap.size,7,none⟩ (.string q.x.hi)).setCell ⟨w0.heap.size,8,none⟩ (.string q.x.pt)).setCell ⟨w0.heap.size,9,none⟩ (.slice q.ae q.x.en.length q.ce))).heap[w0.heap.size]?=some (.cells (tqV q).toArray 33 (0,0))/\TqR w0.heap.size (((((((((((w.setCell ⟨w0.heap.size,0,none⟩ (.string q.x.nm)).setCell ⟨w0.heap.size,1,none⟩ (I q.x.kd)).setCell ⟨w0.heap.size,2,none⟩ (I q.x.bs)).setCell ⟨w0.heap.size,3,none⟩ (.slice q.am q.x.ms.length q.cm)).setCell ⟨w0.heap.size,4,none⟩ (I q.x.mn)).setCell ⟨w0.heap.size,5,none⟩ (I q.x.mx)).setCell ⟨w0.heap.size,6,none⟩ (.string q.x.lo)).setCell ⟨w0.heap.size,7,none⟩ (.string q.x.hi)).setCell ⟨w0.heap.size,8,none⟩ (.string q.x.pt)).setCell ⟨w0.heap.size,9,none⟩ (.slice q.ae q.x.en.length q.ce))) q/\ZG G a n cap zs w0 (((((((((((w.setCell ⟨w0.heap.size,0,none⟩ (.string q.x.nm)).setCell ⟨w0.heap.size,1,none⟩ (I q.x.kd)).setCell ⟨w0.heap.size,2,none⟩ (I q.x.bs)).setCell ⟨w0.heap.size,3,none⟩ (.slice q.am q.x.ms.length q.cm)).setCell ⟨w0.heap.size,4,none⟩ (I q.x.mn)).setCell ⟨w0.heap.size,5,none⟩ (I q.x.mx)).setCell ⟨w0.heap.size,6,none⟩ (.string q.x.lo)).setCell ⟨w0.heap.size,7,none⟩ (.string q.x.hi)).setCell ⟨w0.heap.size,8,none⟩ (.string q.x.pt)).setCell ⟨w0.heap.size,9,none⟩ (.slice q.ae q.x.en.length q.ce))):=by
 have hg:=Zq5 w w0.heap.size (.string q.x.nm) (I q.x.kd) (I q.x.bs) (.slice q.am q.x.ms.length q.cm) (I q.x.mn) (I q.x.mx) (.string q.x.lo) (.string q.x.hi) (.string q.x.pt) (.slice q.ae q.x.en.length q.ce);have hgl:=h.gl;have hxa:=h.xa;refine⟨Zy3 h.res rfl _ _ _ _ _ _ _ _ _ _,⟨Zbv (ZdB h.row.1 (by omega)) hg (λk hk e=>by cases hk;have:=(h.row.1.lt _ e).1;omega),Zbv (ZdB h.row.2 (by omega)) hg (λk hk e=>by cases hk;have:=(h.row.2.lt _ e).1;omega)⟩,Zdo h.drew.1 hg (λk hk=>by cases hk;omega),ZhG h.drew.2 hg (λk hk=>by cases hk;omega)⟩
theorem Zr5{x:Ty}(h:TqK x)(k:Int)(hk:1<=k/\k<=10):TqK { x with kd:=k }:=by obtain⟨k1,k2,k3,k4,k5,k7,k8,k9⟩:=h;exact⟨k1,k2,k3,k4,k5,k7,k8,hk⟩
theorem Zwy{x:Ty}(h:TqK x)(k:Int)(hk:0<=k/\k<=100):TqK { x with bs:=k }:=by obtain⟨k1,k2,k3,k4,k5,k7,k8,k9⟩:=h;exact⟨k1,k2,k3,k4,k5,k7,hk,k9⟩
theorem Zwn{x:Ty}(h:TqK x)(k:Int):TqK { x with mn:=k }:=by obtain⟨k1,k2,k3,k4,k5,k7,k8,k9⟩:=h;exact⟨k1,k2,k3,k4,k5,k7,k8,k9⟩
theorem ZAO{x:Ty}(h:TqK x)(k:Int):TqK { x with mx:=k }:=by obtain⟨k1,k2,k3,k4,k5,k7,k8,k9⟩:=h;exact⟨k1,k2,k3,k4,k5,k7,k8,k9⟩
theorem Zwh{x:Ty}(h:TqK x)(t:ZB)(ht:t.size<=4000):TqK { x with lo:=t }:=by obtain⟨k1,k2,k3,k4,k5,k7,k8,k9⟩:=h;exact⟨k1,ht,k3,k4,k5,k7,k8,k9⟩
theorem ZvJ{x:Ty}(h:TqK x)(t:ZB)(ht:t.size<=4000):TqK { x with hi:=t }:=by obtain⟨k1,k2,k3,k4,k5,k7,k8,k9⟩:=h;exact⟨k1,k2,ht,k4,k5,k7,k8,k9⟩
theorem ZA3{x:Ty}(h:TqK x)(t:ZB)(ht:t.size<=4000):TqK { x with pt:=t }:=by obtain⟨k1,k2,k3,k4,k5,k7,k8,k9⟩:=h;exact⟨k1,k2,k3,ht,k5,k7,k8,k9⟩
theorem ZzC{x:Ty}(h:TqK x)(e:List ZB)(hl:e.length<=4)(he:∀t∈e,t.size<=4000):TqK { x with en:=e }:=by obtain⟨k1,k2,k3,k4,k5,k7,k8,k9⟩:=h;exact⟨k1,k2,k3,k4,k5,⟨hl,he⟩,k8,k9⟩
end
theorem Zzv:(prog.info? 2).map (λi=>(i.zero,i.size,i.bytes))=some (some (I 0),1,8):=by kernel_rfl
def SmA(G:Nat)(a:Option Addr)(n cap:Nat)(zs:List Int)(w:World)(e:Ending)(w':World):Prop:=∃q:Tq,e=.returned (.agg (tqV q).toArray)/\TqK q.x/\TqR w.heap.size w' q/\ZG G a n cap zs w w'
theorem ZsL(n:Int):∀u∈[I n],u.oneCell'=true:=by
 intro u hu;rw[List.mem_singleton]at hu;subst hu;rfl
theorem ZrZ{w:World}{B:Nat}{e:TypeId}(xs:List Value)(hb:B<=w.heap.size)(hm:xs.length<=maxLen):(w.alloc (.cells xs.toArray e)).ownsRow B e 1 (.slice (some ⟨w.heap.size,0,none⟩) xs.length xs.length) xs.length xs:=⟨by simp,.inr ⟨w.heap.size,xs.length,xs.toArray,rfl,hb,Zz w _,Zb _,hm,by simp,by simp⟩⟩
theorem ZwG{G:Nat}{a:Option Addr}{n cap:Nat}{zs:List Int}{w0 w:World}{X:Nat}{q:Tq}{s1 s2:ZB}(h:SJ G a n cap zs w0 X q w)(h1:s1.size<=4000)(h2:s2.size<=4000):
  SJ G a n cap zs w0 X { q with x:={ q.x with en:=[s1,s2,⟨#[49]⟩] },ae:=some ⟨w.heap.size,0,none⟩,ce:=3 } ((w.setCell ⟨X,9,none⟩ (.slice (some ⟨w.heap.size,0,none⟩) 3 3)).alloc (.cells #[.string s1,.string s2,.string ⟨#[49]⟩] 9)):=by
 rw[<-World.setCell_alloc_past _ _ _ _ (Zgq h).1];have h6:=Zdl h ((Ze _ _).alloc (Zb _) (.cells #[.string s1,.string s2,.string ⟨#[49]⟩] 9));have hX5:=(Zgq h).1;exact ZdS (q':={ q with x:={ q.x with en:=[s1,s2,⟨#[49]⟩] },ae:=some ⟨w.heap.size,0,none⟩,ce:=3 }) h6 9 (.slice (some ⟨w.heap.size,0,none⟩) 3 3) rfl ⟨h6.row.1,ZrZ [.string s1,.string s2,.string ⟨#[49]⟩] (by omega) (by unfold maxLen;simp)⟩ (ZzC h6.ok _ (by simp) (λt ht=>by
  simp only[List.mem_cons,List.mem_nil_iff,Z4]at ht;rcases ht with rfl|rfl|rfl
  ·omega
  ·omega
  ·show 1<=4000;omega))
theorem Zts(G:Nat)(a:Option Addr)(n cap:Nat)(zs:List Int)(k:Nat)(w0:World)(hk:k<=6)(h:Zfr w0 G a n cap zs):
  Calls prog 41 #[.pointer (some ⟨G,0,none⟩),I (k:Int)] w0 (SmA G a n cap zs w0):=by
 have HH:=J h;have hG:=ZdC h;obtain⟨i0,hi0,hz0,hz1,hz2⟩:=info_parts Zzv;clear h;go_enter func41,ntmps41
 go_wp2_with fail
 refine(ZBc k _ (by omega) (by omega)).mono ?_;rintro e w1 ⟨t,ht,rfl,hb1⟩;have HP1:Hid (ZG G a n cap zs w0 w1/\w1.heap[w0.heap.size]?=some (.cells (tqV tq0).toArray 33 (0,0))):=J ⟨ZjV ⟨ZaY HH.out _,ZEn w0 _ _⟩ hb1,(hb1.block w0.heap.size (by simp)).trans (Zz w0 _)⟩;clear hb1;go_wp2_with fail
 refine(Zbo G a n cap zs 7 _ (by omega) (by omega) HP1.out.1.1).mono ?_;rintro e w2 ⟨x,hx0,hx7,rfl,hd⟩;have HP2:Hid (ZG G a n cap zs w0 w2/\w2.heap[w0.heap.size]?=some (.cells (tqV tq0).toArray 33 (0,0))):=J ⟨Zaj HP1.out.1 hd,(hd.2.block w0.heap.size (Array.getElem?_eq_some_iff.1 HP1.out.2).1 (λe=>by cases e;omega)).trans HP1.out.2⟩;have hw2:w0.heap.size<w2.heap.size:=(Array.getElem?_eq_some_iff.1 HP2.out.2).1;clear hd;have hS1:¬9223372036854775807<1+t.size:=by omega
 go_upto_region 2 with fail
 have HS0:Hid (SJ G a n cap zs w0 w2.heap.size ⟨tyN (⟨#[116]⟩++t) (1+x),none,0,none,0⟩ (w2.alloc (.cells (tqV ⟨tyN (⟨#[116]⟩++t) (1+x),none,0,none,0⟩).toArray 33))):=J ⟨hG,hw2,Zz w2 _,by
  have:=HP2.out.2;exact(heap_alloc_old w2 _ hw2).trans this,⟨ZEo _ _ _ _,ZEo _ _ _ _⟩,⟨by show(⟨#[116]⟩++t:ZB).size<=4000;rw[Z5];have h7:(⟨#[116]⟩:ZB).size=1:=rfl;omega,Zx _,Zx _,Zx _,⟨Zx _,λm hm=>by cases hm⟩,⟨Zx _,λe he=>by cases he⟩,⟨Int.le_refl 0,by show(0:Int)<=100;omega⟩,⟨by show 1<=1+x;omega,by show 1+x<=10;omega⟩⟩,⟨ZaY HP2.out.1.1 _,ZaP HP2.out.1.2 (ZEn w2 _ _)⟩⟩
 obtain⟨q0,hq0⟩:∃q:Tq,q=⟨tyN (⟨#[116]⟩++t) (1+x),none,0,none,0⟩:=⟨_,rfl⟩;obtain⟨X,hX⟩:=ZX w2.heap.size;have HQ0:Hid (q0.x.en=[]/\q0.ae=none/\q0.ce=0/\q0.x.ms=[]):=J (by rw[hq0];exact⟨rfl,rfl,rfl,rfl⟩);have hW:w2.alloc (.cells #[.string (⟨#[116]⟩++t),I (1+x),I 0,.slice none 0 0,I (-1),I (-1),.string ⟨#[]⟩,.string ⟨#[]⟩,.string ⟨#[]⟩,.slice none 0 0] 33)=w2.alloc (.cells (tqV q0).toArray 33):=by rw[hq0];rfl
 rw[hW];rw[<-hq0]at HS0;rw[hX]at HS0 ⊢;clear hW hq0 hS1;obtain⟨W0,hW0⟩:=ZX (w2.alloc (.cells (tqV q0).toArray 33));rw[hW0]at HS0 ⊢;clear hW0 hX hw2 HP1 HP2 ht hx0 hx7
 go_cut [19] (λv19 wx=>∃o:Bool,v19=.bool o/\(o=true->0<k)/\Hid (SJ G a n cap zs w0 X q0 wx))
 case first=>
  by_cases k0:0<k
  ·have k0i:(0:Int)<(k:Int):=by omega
   go_wp2_with fail
   refine(Zdj G a n cap zs 2 _ (by omega) (by omega) HS0.out.drew.1).mono ?_;rintro e w3 ⟨o,rfl,hd⟩;have HS3:=J (Zcf HS0.out hd);clear hd;go_wp2;go_meet
   exact⟨o,rfl,λ_=>k0,HS3⟩
  ·have k0i:¬(0:Int)<(k:Int):=by omega
   go_wp2;go_meet
   exact⟨false,rfl,λe=>(by cases e),HS0⟩
 obtain⟨o,rfl,ho,HS1⟩:=hcut;clear HS0
 go_upto_if 19 with fail
 go_cut [] (λwx=>∃q:Tq,Hid (SJ G a n cap zs w0 X q wx)/\Hid (q.x.en=[]/\q.ae=none/\q.ce=0))
 case first=>
  cases o
  ·go_wp2;go_meet
   exact⟨q0,HS1,J ⟨HQ0.out.1,HQ0.out.2.1,HQ0.out.2.2.1⟩⟩
  ·have hk1:1<=(k:Int):=by have:=ho rfl;omega
   go_wp2_with fail
   refine(Zbo G a n cap zs 3 _ (by omega) (by omega) HS1.out.drew.1).mono ?_;rintro e w4 ⟨y,hy0,hy3,rfl,hd⟩;have HS4:=J (Zcf HS1.out hd);clear hd HS1;have hy:y=0\/y=1\/y=2:=by omega
   obtain⟨c1,f1⟩:=Za9 HS4.out 1;simp only[tqV,List.getElem?_cons_succ,List.getElem?_cons_zero]at c1;clear hy0 hy3;rcases hy with rfl|rfl|rfl
   ·have HS5:=J (ZdS (q':={ q0 with x:={ q0.x with kd:=8 } }) HS4.out 1 (I 8) rfl HS4.out.row (Zr5 HS4.out.ok 8 (by omega)));go_wp2_with fail
    refine(Zbo G a n cap zs (k:Int) _ hk1 (by omega) HS5.out.drew.1).mono ?_;rintro e w6 ⟨z,hza,hzk,rfl,hd⟩;have HS6:=J (Zcf HS5.out hd);obtain⟨c2,f2⟩:=Za9 HS6.out 2;simp only[tqV,List.getElem?_cons_succ,List.getElem?_cons_zero]at c2;clear hd c1 f1;go_wp2;go_meet
    exact⟨_,J (ZdS (q':={ q0 with x:={ q0.x with kd:=8,bs:=z } }) HS6.out 2 (I z) rfl HS6.out.row (Zwy HS6.out.ok z (by omega))),J ⟨HQ0.out.1,HQ0.out.2.1,HQ0.out.2.2.1⟩⟩
   ·have HS5:=J (ZdS (q':={ q0 with x:={ q0.x with kd:=9 } }) HS4.out 1 (I 9) rfl HS4.out.row (Zr5 HS4.out.ok 9 (by omega)));go_wp2_with fail
    refine(Zbo G a n cap zs 3 _ (by omega) (by omega) HS5.out.drew.1).mono ?_;rintro e w6 ⟨z,hza,hzk,rfl,hd⟩;have HS6:=J (Zcf HS5.out hd);obtain⟨z,rfl⟩:∃u:Nat,z=u:=⟨z.toNat,by omega⟩;clear hd c1 f1;go_wp2_with fail
    go_loopw [6] (λiv wr=>∃(i:Nat) (q:Tq),iv=I i/\i+q.x.ms.length<=3/\Hid (SJ G a n cap zs w0 X q wr)/\Hid (q.x.en=[]/\q.ae=none/\q.ce=0)) (λiv _=>(Zi iv).toNat)
    case atStart=>exact⟨1+z,{ q0 with x:={ q0.x with kd:=9 } },by go_num,by show 1+z+q0.x.ms.length<=3;rw[HQ0.out.2.2.2];simp;omega,HS6,J ⟨HQ0.out.1,HQ0.out.2.1,HQ0.out.2.2.1⟩⟩
    case round=>
     obtain⟨i,q,rfl,hi3,HS,HQ⟩:=hrel;by_cases hip:0<i
     ·have hii:(0:Int)<(i:Int):=(by omega);obtain⟨hX,hGl,-⟩:=Zgq HS.out;have hcd:wr.drew.cell? ⟨X,3,none⟩=some (.slice q.am q.x.ms.length q.cm):=(Za9 HS.out 3).1;go_wp2_with fail
      go_region_law (first
       |(go_simp;go_at_call 22;refine(Zbo G a n cap zs (k:Int) wr.drew hk1 (by omega) HS.out.drew.1).mono ?_;rintro e w7 ⟨z7,hz70,hz7k,rfl,hd7⟩;have HS7:=J (Zcf HS.out (show ZG G a n cap zs wr w7 from⟨hd7.1,⟨hd7.2.os,hd7.2.tape,hd7.2.output,hd7.2.size,hd7.2.block⟩⟩));have hc2:w7.cell? ⟨X,3,none⟩=some (.slice q.am q.x.ms.length q.cm):=(Za9 HS7.out 3).1;have hc2a:∀o,(w7.alloc o).cell? ⟨X,3,none⟩=some (.slice q.am q.x.ms.length q.cm):=λo=>(Za9 (Zdl HS7.out ((Ze _ _).alloc (Zb _) o)) 3).1;have HOW:=J HS7.out.row.1;have hX7:X<w7.heap.size:=(Zgq HS7.out).1;clear hd7)
       |(refine step_append_lies _ (by rfl) _ _ _ (by rfl) (X+1) 2 i0 _ 1 8 underlying30 hi0 hz0 hz1 hz2 rfl (by omega) (.slice q.am q.x.ms.length q.cm) q.x.ms.length (q.x.ms.map (Value.int .i64)) (by rfl) (HOW.out.alloc _) ⟨w7.heap.size,0,none⟩ 1 1 [I z7] (by rfl) (by rfl) (λj u hj=>Zf1 w7 _ _ j u hj) (ZsL _) (by omega) (by unfold maxLen;omega) (by omega) (by simp;omega) (w7.heap.size+1) (by simp) ?_;intro gg cap9 w8 hown8 hgrow8 hat8 hlt8;have HS8:=J (ZAG (y:=z7) (Zdl HS7.out ((Ze _ _).alloc (Zb _) _)) hgrow8 hown8 (by omega) ⟨hz70,by omega⟩ HQ.out.1 HQ.out.2.1 HQ.out.2.2);have hfz:=(Zzs (Zdl HS7.out ((Ze _ _).alloc (Zb _) _)) hgrow8).2 3;have hcz:w8.cell? ⟨X,3,none⟩=some (.slice q.am q.x.ms.length q.cm):=(Zzs (Zdl HS7.out ((Ze _ _).alloc (Zb _) _)) hgrow8).1 3;clear hown8 hgrow8 hat8)
       |(fail))
      all_goals
       clear hfz hcz HOW hc2 hc2a HS7 hcd;go_wp2
       go_roundw
       case rel=>exact⟨i-1,_,by go_num,by simp;omega,HS8,J ⟨HQ.out.1,HQ.out.2.1,HQ.out.2.2⟩⟩
       case measure=>simp[Zi];omega
     ·have hie:i=0:=(by omega);subst hie;go_wp2;go_meet
      exact⟨q,HS,HQ⟩
   ·have HS5:=J (ZdS (q':={ q0 with x:={ q0.x with kd:=10 } }) HS4.out 1 (I 10) rfl HS4.out.row (Zr5 HS4.out.ok 10 (by omega)));go_wp2_with fail
    refine(Zbo G a n cap zs (k:Int) _ hk1 (by omega) HS5.out.drew.1).mono ?_;rintro e w6 ⟨z,hza,hzk,rfl,hd⟩;have HS6:=J (Zcf HS5.out hd);obtain⟨c2,f2⟩:=Za9 HS6.out 2;simp only[tqV,List.getElem?_cons_succ,List.getElem?_cons_zero]at c2;clear hd c1 f1;go_wp2;go_meet
    exact⟨_,J (ZdS (q':={ q0 with x:={ q0.x with kd:=10,bs:=z } }) HS6.out 2 (I z) rfl HS6.out.row (Zwy HS6.out.ok z (by omega))),J ⟨HQ0.out.1,HQ0.out.2.1,HQ0.out.2.2.1⟩⟩
 obtain⟨q,HS2,HQ2⟩:=hcut;clear HS1 HQ0;go_wp2_with fail
 refine(Zbo G a n cap zs 8 _ (by omega) (by omega) HS2.out.drew.1).mono ?_;rintro e w3 ⟨y,hy0,hy8,rfl,hd⟩;have HS3:=J (Zcf HS2.out hd);rename_i K2 a2 K1 a1 K0 a0;refine a0 _ _ ?_;refine a1 _ _ ?_;have hy:y=0\/y=1\/y=2\/y=3\/y=4\/y=5\/y=6\/y=7:=by omega
 clear hd HS2 hy0 hy8
 go_cut [] (λwx=>∃q:Tq,Hid (SJ G a n cap zs w0 X q wx))
 case first=>
  rcases hy with rfl|rfl|rfl|rfl|rfl|rfl|rfl|rfl
  ·obtain⟨c4,f4⟩:=Za9 HS3.out 4;simp only[tqV,List.getElem?_cons_succ,List.getElem?_cons_zero]at c4;go_wp2_with fail
   refine(Zbo G a n cap zs 4 _ (by omega) (by omega) HS3.out.drew.1).mono ?_;rintro e w4 ⟨u,hu0,hu4,rfl,hd⟩;have HS4:=J (Zcf HS3.out hd);clear hd c4 f4;obtain⟨c4,f4⟩:=Za9 HS4.out 4;simp only[tqV,List.getElem?_cons_succ,List.getElem?_cons_zero]at c4;have HS5:=J (ZdS (q':={ q with x:={ q.x with mn:=u } }) HS4.out 4 (I u) rfl HS4.out.row (Zwn HS4.out.ok u));obtain⟨W5,hW5⟩:∃W,w4.setCell ⟨X,4,none⟩ (I u)=W:=⟨_,rfl⟩;rw[hW5]at HS5;go_upto_region 13 with fail
   clear hW5 c4 f4;have hcd:W5.drew.cell? ⟨X,4,none⟩=some (I u):=(Za9 HS5.out 4).1
   go_region_law (first
    |(go_simp;go_at_call 22;refine(Zbo G a n cap zs 4 W5.drew (by omega) (by omega) HS5.out.drew.1).mono ?_;rintro e w7 ⟨z7,hz70,hz7k,rfl,hd7⟩;have HS7:=J (Zcf HS5.out (show ZG G a n cap zs W5 w7 from⟨hd7.1,⟨hd7.2.os,hd7.2.tape,hd7.2.output,hd7.2.size,hd7.2.block⟩⟩));have hc2:w7.cell? ⟨X,4,none⟩=some (I u):=(Za9 HS7.out 4).1;obtain⟨hc5,hf5⟩:=Za9 HS7.out 5;simp only[tqV,List.getElem?_cons_succ,List.getElem?_cons_zero]at hc5;clear hd7)
    |(fail))
   all_goals
    have HS8:=J (ZdS (q':={ q with x:={ q.x with mn:=u,mx:=u+z7 } }) HS7.out 5 (I (u+z7)) rfl HS7.out.row (ZAO (Zwn HS4.out.ok u) (u+z7)));clear hc2 hc5 hf5 hcd;have hwr:IntKind.i64.wrap (u+z7)=u+z7:=(by rw[ZY];omega);rw[hwr];clear hwr;obtain⟨W8,hW8⟩:∃W,w7.setCell ⟨X,5,none⟩ (I (u+z7))=W:=⟨_,rfl⟩;rw[hW8]at HS8;rw[hW8];clear hW8;go_wp2;go_meet
    exact⟨_,HS8⟩
  ·go_wp2_with fail
   refine(Zbo G a n cap zs 3 _ (by omega) (by omega) (ZaY HS3.out.drew.1 _)).mono ?_;rintro e w4 ⟨x1,hx10,hx11,rfl,hd1⟩;obtain⟨s,hs,hs1⟩:=Zd6 8 hd1.2 hx10 hx11 rfl (Zgq HS3.out).2.1 (λk hk=>by
    have hk':k<3:=hk;have hx:k=0\/k=1\/k=2:=(by omega);rcases hx with e|e|e<;>subst e<;>exact⟨_,rfl,by decide⟩)
   have HS4:=J (Zcf (Zdl HS3.out ((Ze _ _).alloc (Zb _) _)) hd1);obtain⟨c6,f6⟩:=Za9 HS4.out 6;simp only[tqV,List.getElem?_cons_succ,List.getElem?_cons_zero]at c6;have HS5:=J (ZdS (q':={ q with x:={ q.x with lo:=s } }) HS4.out 6 (.string s) rfl HS4.out.row (Zwh HS4.out.ok s (by omega)));clear hd1;obtain⟨W5,hW5⟩:∃W,w4.setCell ⟨X,6,none⟩ (.string s)=W:=⟨_,rfl⟩;rw[hW5]at HS5;go_wp2_with fail
   refine(Zbo G a n cap zs 3 _ (by omega) (by omega) (ZaY HS5.out.drew.1 _)).mono ?_;rintro e w6 ⟨x2,hx20,hx21,rfl,hd2⟩;clear hs c6 f6 hW5;obtain⟨s2,hs2,hs21⟩:=Zd6 8 hd2.2 hx20 hx21 rfl (Zgq HS5.out).2.1 (λk hk=>by
    have hk':k<3:=hk;have hx:k=0\/k=1\/k=2:=(by omega);rcases hx with e|e|e<;>subst e<;>exact⟨_,rfl,by decide⟩)
   have HS6:=J (Zcf (Zdl HS5.out ((Ze _ _).alloc (Zb _) _)) hd2);obtain⟨c7,f7⟩:=Za9 HS6.out 7;simp only[tqV,List.getElem?_cons_succ,List.getElem?_cons_zero]at c7;have HS7:=J (ZdS (q':={ q with x:={ q.x with lo:=s,hi:=s2 } }) HS6.out 7 (.string s2) rfl HS6.out.row (ZvJ HS6.out.ok s2 (by omega)));clear hd2;go_wp2;go_meet
   exact⟨_,HS7⟩
  ·go_wp2_with fail
   refine(Zbo G a n cap zs 3 _ (by omega) (by omega) (ZaY HS3.out.drew.1 _)).mono ?_;rintro e w4 ⟨x1,hx10,hx11,rfl,hd1⟩;obtain⟨s,hs,hs1⟩:=Zd6 8 hd1.2 hx10 hx11 rfl (Zgq HS3.out).2.1 (λk hk=>by
    have hk':k<3:=hk;have hx:k=0\/k=1\/k=2:=(by omega);rcases hx with e|e|e<;>subst e<;>exact⟨_,rfl,by decide⟩)
   have HS4:=J (Zcf (Zdl HS3.out ((Ze _ _).alloc (Zb _) _)) hd1);obtain⟨c6,f6⟩:=Za9 HS4.out 6;simp only[tqV,List.getElem?_cons_succ,List.getElem?_cons_zero]at c6;have HS5:=J (ZdS (q':={ q with x:={ q.x with lo:=s } }) HS4.out 6 (.string s) rfl HS4.out.row (Zwh HS4.out.ok s (by omega)));clear hd1;obtain⟨W5,hW5⟩:∃W,w4.setCell ⟨X,6,none⟩ (.string s)=W:=⟨_,rfl⟩;rw[hW5]at HS5;go_wp2_with fail
   refine(Zbo G a n cap zs 3 _ (by omega) (by omega) (ZaY HS5.out.drew.1 _)).mono ?_;rintro e w6 ⟨x2,hx20,hx21,rfl,hd2⟩;clear hs c6 f6 hW5;obtain⟨s2,hs2,hs21⟩:=Zd6 8 hd2.2 hx20 hx21 rfl (Zgq HS5.out).2.1 (λk hk=>by
    have hk':k<3:=hk;have hx:k=0\/k=1\/k=2:=(by omega);rcases hx with e|e|e<;>subst e<;>exact⟨_,rfl,by decide⟩)
   have HS6:=J (Zcf (Zdl HS5.out ((Ze _ _).alloc (Zb _) _)) hd2);obtain⟨c7,f7⟩:=Za9 HS6.out 7;simp only[tqV,List.getElem?_cons_succ,List.getElem?_cons_zero]at c7;have HS7:=J (ZdS (q':={ q with x:={ q.x with lo:=s,hi:=s2 } }) HS6.out 7 (.string s2) rfl HS6.out.row (ZvJ HS6.out.ok s2 (by omega)));clear hd2;go_wp2;go_meet
   exact⟨_,HS7⟩
  ·go_wp2_with fail
   refine(Zkd G a n cap zs _ HS3.out.drew.1).mono ?_;rintro e w4 ⟨s1,hs1,rfl,hd1⟩;have HS4:=J (Zcf HS3.out hd1);clear hd1;go_wp2_with fail
   refine(Zkd G a n cap zs _ HS4.out.drew.1).mono ?_;rintro e w5 ⟨s2,hs2,rfl,hd2⟩;have HS5:=J (Zcf HS4.out hd2);clear hd2;have hX5:=(Zgq HS5.out).1;obtain⟨c9,f9⟩:=Za9 HS5.out 9;simp only[tqV,List.getElem?_cons_succ,List.getElem?_cons_zero]at c9;have HS7:=J (ZwG (s1:=s1) (s2:=s2) HS5.out (by omega) (by omega));go_wp2;go_meet
   exact⟨_,HS7⟩
  ·go_wp2_with fail
   refine(ZCX G a n cap zs 2 (by omega) _ HS3.out.drew.1).mono ?_;rintro e w4 ⟨s1,hs1,rfl,hd1⟩;have HS4:=J (Zcf HS3.out hd1);have hb:=ZzZ 2 (by omega);obtain⟨c8,f8⟩:=Za9 HS4.out 8;simp only[tqV,List.getElem?_cons_succ,List.getElem?_cons_zero]at c8;have HS5:=J (ZdS (q':={ q with x:={ q.x with pt:=s1 } }) HS4.out 8 (.string s1) rfl HS4.out.row (ZA3 HS4.out.ok s1 (by omega)));clear hd1;go_wp2;go_meet
   exact⟨_,HS5⟩
  all_goals
   go_wp2;go_meet
   exact⟨_,HS3⟩
 obtain⟨q,HS8⟩:=hcut;obtain⟨c0,-⟩:=Za9 HS8.out 0;obtain⟨c1,-⟩:=Za9 HS8.out 1;obtain⟨c2,-⟩:=Za9 HS8.out 2;obtain⟨c3,-⟩:=Za9 HS8.out 3;obtain⟨c4,-⟩:=Za9 HS8.out 4;obtain⟨c5,-⟩:=Za9 HS8.out 5;obtain⟨c6,-⟩:=Za9 HS8.out 6;obtain⟨c7,-⟩:=Za9 HS8.out 7;obtain⟨c8,-⟩:=Za9 HS8.out 8;obtain⟨c9,-⟩:=Za9 HS8.out 9;obtain⟨e0,g0⟩:=ZdL HS8.out 0;obtain⟨e1,g1⟩:=ZdL HS8.out 1;obtain⟨e2,g2⟩:=ZdL HS8.out 2;obtain⟨e3,g3⟩:=ZdL HS8.out 3;obtain⟨e4,g4⟩:=ZdL HS8.out 4;obtain⟨e5,g5⟩:=ZdL HS8.out 5;obtain⟨e6,g6⟩:=ZdL HS8.out 6;obtain⟨e7,g7⟩:=ZdL HS8.out 7;obtain⟨e8,g8⟩:=ZdL HS8.out 8;obtain⟨e9,g9⟩:=ZdL HS8.out 9;simp only[tqV,tq0,ty0,List.length_nil,List.getElem?_cons_succ,List.getElem?_cons_zero]at c0 c1 c2 c3 c4 c5 c6 c7 c8 c9 e0 e1 e2 e3 e4 e5 e6 e7 e8 e9;have hne9:X≠w0.heap.size:=by have:=HS8.out.xa;omega
 go_wp2;obtain⟨hT,hrw,hdw⟩:=ZzN HS8.out;refine bodyPost_ret (v:=.agg (tqV _).toArray) ?_ rfl ⟨_,rfl,HS8.out.ok,hrw,hdw⟩;exact results_cell_row results41 _ _ w0.heap.size 33 _ _ _ rfl hT underlying33 rfl (by kernel_rfl)
end
end Go.Proofs.YtcdnilpdohknfaaGreatDoor
