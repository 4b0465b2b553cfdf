import Derived.Test.YtcdnilpdohknfaaGreatDoorJ13
import Derived.Test.YtcdnilpdohknfaaGreatDoorJ12
set_option linter.unusedVariables false
set_option linter.unusedSimpArgs false
set_option maxRecDepth 100000
set_option maxHeartbeats 16000000
namespace Go.Proofs.YtcdnilpdohknfaaGreatDoor
open Tryz
section
open Go.RowKit
def jnB(s:ZB):ZB:=⟨(Lib.join (wdB [] s.data.toList) [32]).toArray⟩
def whB(s:ZB)(i:Int):ZB:=if i=1 then ⟨(reB s.data.toList).toArray⟩ else if i=2 then jnB s else s
theorem Znj{B:Nat}{w:World}{ad:Option Addr}{c:Nat}{W:List (List UInt8)}(h:w.ownsRow B 9 1 (.slice ad W.length c) W.length (wsV W))(h0:W≠[]):∃g,ad=some ⟨g,0,none⟩/\g<w.heap.size/\W.length<=c/\∀(j:Nat) (hj:j<W.length),w.cell? ⟨g,0+j,none⟩=some (.string ⟨W[j].toArray⟩):=by
 have h9:=h;obtain⟨hl,h⟩:=h;rcases h with ⟨-,hz⟩|⟨g,cap,cur,hv,hB,hh,hcap,-⟩
 ·exact absurd (List.length_eq_zero_iff.1 hz) h0
 ·simp only[ZDG]at hv;obtain⟨rfl,-,rfl⟩:=hv;refine⟨g,rfl,(Array.getElem?_eq_some_iff.1 hh).1,by omega,λj hj=>?_⟩;rw[ZDE];have h8:=h9.cellAt j (by simpa using hj);rw[h8];simp[wsV,hj]
theorem ZvK(B:Nat)(W:List (List UInt8))(ad:Option Addr)(c:Nat)(w:World)(hW:Zip W<=1048578)(ho:w.ownsRow B 9 1 (.slice ad W.length c) W.length (wsV W)):
  Calls prog 58 #[.slice ad W.length c] w λe w'=>e=.returned (.string ⟨(Lib.join W [32]).toArray⟩)/\w'=w:=by
 have HO:=J ho;have HT:=J hW;obtain⟨n,hn⟩:=ZX W.length;have HN:=J hn;have hnl:n<=1048578:=by
  have:∀l:List (List UInt8),l.length<=Zip l:=λl=>by
   induction l with
   |nil=>simp
   |cons t l ih=>simp only[Zip,ZDB];omega
  have:=this W;omega
 rw[hn];clear hn ho hW;go_enter func58,ntmps58
 go_wp2
 go_loopw [3,4] (λtv iv wr=>∃(m:Nat) (T:ZB),m<=n/\iv=I m/\tv=.string T/\Hid (T.data.toList=Lib.join (W.take m) [32])/\wr=w) (λ_ iv _=>n-(Zi iv).toNat)
 case atStart=>exact⟨0,⟨#[]⟩,Zx _,rfl,rfl,J rfl,rfl⟩
 case round=>
  obtain⟨m,T,hm,rfl,rfl,HJ,hw⟩:=hrel;subst hw;have hTs:T.size<=1048578:=by
   have h1:=Zgd [32] rfl (W.take m);have h2:=ZhC W m;have h3:=HT.out;rw[<-HJ.out]at h1;have h4:T.data.toList.length=T.size:=by simp
   omega
  by_cases hlt:m<n
  ·have hlti:(m:Int)<(n:Int):=by omega
   have hm0:(0:Int)<=(m:Int):=by omega
   have hmW:m<W.length:=by rw[HN.out];exact hlt
   have hW0:W≠[]:=λe=>by rw[e]at hmW;simp at hmW
   obtain⟨g,rfl,hg,hcl,hcell⟩:=Znj HO.out hW0;have hx:=hcell m hmW;rw[ZDE]at hx;rw[HN.out]at hcl;have HK:=J (ZoE [32] W m hmW);obtain⟨X,hX⟩:∃X:ZB,X=⟨W[m].toArray⟩:=⟨_,rfl⟩;have HX:Hid (X.data.toList=W[m]):=J (by rw[hX]);rw[<-hX]at hx;have hXs:T.size+1+X.size<=2097158:=by
    have h1:=Zgd [32] rfl (W.take (m+1));have h2:=ZhC W (m+1);have h3:=HT.out;rw[HK.out,<-HX.out]at h1;have h4:X.data.toList.length=X.size:=(by simp);rw[ZDz]at h1;omega
   clear hX hcell hW0;by_cases h0:m=0
   ·subst h0;have HT2:Hid ((T++X).data.toList=Lib.join (W.take (0+1)) [32]):=J (by
     rw[HK.out,ByteArray.data_append,Array.toList_append,HJ.out,HX.out];rfl)
    go_wp2
    go_roundw
    case rel=>exact⟨0+1,_,by omega,by go_num,rfl,HT2,by first|rfl|trivial⟩
    case measure=>simp[Zi];omega
   ·have h0i:(0:Int)<(m:Int):=(by omega);have HT2:Hid (((T++⟨#[32]⟩)++X).data.toList=Lib.join (W.take (m+1)) [32]):=J (by
     rw[HK.out,Za h0,ByteArray.data_append,Array.toList_append,ByteArray.data_append,Array.toList_append,HJ.out,HX.out])
    go_wp2
    go_roundw
    case rel=>exact⟨m+1,_,by omega,by go_num,rfl,HT2,by first|rfl|trivial⟩
    case measure=>simp[Zi];omega
  ·have e:m=n:=by omega
   subst e;have hlti:¬(m:Int)<(m:Int):=by omega
   have HE:Hid (T=⟨(Lib.join W [32]).toArray⟩):=J (by
    have h:=HJ.out;rw[ZD2 (by rw[HN.out];exact Zb _)]at h;rw[<-h])
   go_wp2;go_ret;refine⟨?_,rfl⟩;rw[<-HE.out];rfl
theorem ZpY(s:ZB)(i:Int)(w:World)(hs:s.size<=1048576):
  Calls prog 102 #[.string s,I i] w λe w'=>e=.returned (.string (whB s i))/\ZL w w':=by
 by_cases h1:i=1
 ·subst h1;refine ZM (Zs4 s w hs) ?_;rintro w' hb;exact⟨rfl,hb⟩
 ·have e1:(i==1)=false:=by simpa using h1
  by_cases h2:i=2
  ·subst h2;have CW:=J (Zmk s w hs);have hbd:=Zou s.data.toList [];have HQ:Hid (Zip (wdB [] s.data.toList)<=1048578):=J (by
    have:s.data.toList.length=s.size:=by simp
    rw[this]at hbd;simp at hbd;omega)
   have HE:Hid (whB s 2=jnB s):=J rfl;clear hbd;go_enter func102,ntmps102
   go_wp2_with (first|(go_at_call 57;refine CW.out.mono ?_;rintro e w1 ⟨ad,c,rfl,ho,hb⟩;have CJ:=J (ZvK w.heap.size _ ad c w1 HQ.out ho);have HB:=J hb;clear ho hb)|(go_at_call 58;refine Zc CJ.out ?_))
   go_ret;refine⟨?_,HB.out⟩;rw[HE.out];rfl
  ·have e2:(i==2)=false:=by simpa using h2
   have HE:Hid (whB s i=s):=J (by unfold whB;rw[Za h1,Za h2]);go_enter func102,ntmps102
   go_wp2;go_ret;refine⟨?_,Ze _ _⟩;rw[HE.out];rfl
theorem Zj3:∀(l:List UInt8) (c:UInt8),(∀b∈l,b.toNat<128)->128<=c.toNat->Lib.indexByte l c = -1
 |[],_,_,_=>rfl
 |b::l,c,h,hc=>by
  have h0:=h b (ZDH ..);have hne:(b==c)=false:=beq_eq_false_iff_ne.2 (λe=>by rw[e]at h0;omega);have ih:=Zj3 l c (λd hd=>h d (ZDN _ hd)) hc;unfold Lib.indexByte;rw[hne,ih];rfl
theorem ZBL(r:Int)(h:128<=r)(hv:Lib.validRune r=true):(∃a b:UInt8,Utf8.encode r=⟨#[a,b]⟩/\128<=b.toNat)\/(∃a b c:UInt8,Utf8.encode r=⟨#[a,b,c]⟩/\128<=c.toNat)\/(∃a b c d:UInt8,Utf8.encode r=⟨#[a,b,c,d]⟩/\128<=d.toNat):=by
 have hv2:Utf8.valid r=true:=by
  unfold Lib.validRune at hv;unfold Utf8.valid;simp at hv ⊢;omega
 have hb:∀n:Nat,128<=(UInt8.ofNat (0x80+n%64)).toNat:=λn=>by
  rw[UInt8.toNat_ofNat'];omega
 unfold Utf8.encode;simp only[hv2,if_true];rw[Za (by omega)];by_cases h1:r.toNat<0x800
 ·rw[Zd h1];exact .inl ⟨_,_,rfl,hb _⟩
 ·rw[Za h1];by_cases h2:r.toNat<0x10000
  ·rw[Zd h2];exact .inr (.inl ⟨_,_,_,rfl,hb _⟩)
  ·rw[Za h2];exact .inr (.inr ⟨_,_,_,_,rfl,hb _⟩)
theorem Zmq(r:Int)(w:World):(convert 21 9 (.int .i32 r)).run prog w=.ok (.string (Utf8.encode r)) w:=by kernel_rfl
def Zpi(w:World)(e:Ending)(w':World):Prop:=e=.returned (I (-1))/\ZL w w'
theorem ZB9(r:Int)(w:World)(h:128<=r)(h2:r<=1114111)(hv:Lib.validRune r=false)(he:r≠65533):Calls prog 119 #[.string ⟨#[32,9,10,13]⟩,.int .i32 r] w (Zpi w):=by
 have CV:=J (ZFc r w);rw[hv]at CV;have hnot:∀(x:Bool) (w:World),(Op.unary .not (.bool x)).run prog w=.ok (.bool (!x)) w:=λ_ _=>rfl
 have h0:(0:Int)<=r:=by omega
 have h1:¬r<128:=by omega
 have e1:(r==65533)=false:=by simpa using he
 go_enter func119,ntmps119
 go_wp2_with (go_at_call 155;refine Zc CV.out ?_)
 go_ret;exact⟨rfl,Ze _ _⟩
theorem ZCv(w:World):Calls prog 119 #[.string ⟨#[32,9,10,13]⟩,.int .i32 65533] w (Zpi w):=by
 go_enter func119,ntmps119
 go_wp2_with fail
 go_loopw [] (λwr=>∃pos:Nat,pos<=4/\Hid (wr.heap[w.heap.size]?=some (.stringIter ⟨#[32,9,10,13]⟩ pos))/\Hid (ZL w wr)) (λwr=>match wr.heap[w.heap.size]? with|some (.stringIter _ p)=>4-p|_=>0)
 case atStart=>exact⟨0,by omega,J (World.iter_heap w _ 0),J ((Ze _ _).alloc (Zb _) _)⟩
 case round=>
  obtain⟨pos,hp,HI,HB⟩:=hrel;by_cases hlt:pos<4
  ·have hlt':pos<(⟨#[32,9,10,13]⟩:ZB).size:=hlt;have ha:((⟨#[32,9,10,13]⟩:ZB)[pos]'hlt').toNat<128:=by
    rcases(show pos=0\/pos=1\/pos=2\/pos=3 by omega) with e|e|e|e<;>subst e<;>(first|(show _<_;decide)|exact ZDY rfl)
   have hnx:=λty=>Lib.run_next_ascii_at (P:=prog) wr w.heap.size ⟨#[32,9,10,13]⟩ pos ty HI.out hlt' ha
   obtain⟨x,hx⟩:∃x:Nat,((⟨#[32,9,10,13]⟩:ZB)[pos]'hlt').toNat=x:=⟨_,rfl⟩;rw[hx]at hnx ha;have e1:((x:Int)==65533)=false:=by
    have:¬(x:Int)=65533:=by omega
    simpa using this
   have HI2:=J (Lib.iterAt_heap wr w.heap.size _ pos (pos+1) HI.out);have HB2:=J (Lib.below_iterAt HB.out (k:=w.heap.size) (Zb _) ⟨#[32,9,10,13]⟩ (pos+1));clear hx;go_wp2
   go_roundw
   case rel=>exact⟨pos+1,by omega,HI2,HB2⟩
   case measure=>rw[HI2.out,HI.out];simp;omega
  ·have hnx:=λty=>Lib.run_next_end_at (P:=prog) wr w.heap.size ⟨#[32,9,10,13]⟩ pos ty HI.out (λh9=>hlt h9)
   go_wp2;go_ret;exact⟨rfl,HB.out⟩
end
section
open Go.RowKit Go.Joins
theorem ZzK:(prog.info? 233).map (λi=>(i.zero,i.size,i.bytes))=some (some (.agg #[.bool false,I 0,I 0,I 0]),4,32):=by kernel_rfl
theorem Zjh{w w':World}{row:Option Nat}(h:w.drew.grownBy w' row):w.grownBy w' row:=⟨h.os,h.tape,h.output,h.size,h.block⟩
def Zzd(s:Sp):List Value:=[.bool s.fk,I s.cs,I s.nx,I s.ot]
def spV:List Sp->List Value
 |[]=>[]
 |s::t=>Zzd s++spV t
theorem ZrY:∀(M:List Sp) (s:Sp),spV (M++[s])=spV M++Zzd s
 |[],s=>by rw[List.nil_append,spV,spV,spV,List.append_nil,List.nil_append]
 |a::t,s=>by rw[List.cons_append,spV,spV,ZrY t s,List.append_assoc]
theorem Zp3:∀(M:List Sp) (k:Nat) (s:Sp),M[k]?=some s->∀i,i<4->(spV M)[k*4+i]?=(Zzd s)[i]?
 |[],k,s,h,i,hi=>by simp at h
 |a::t,0,s,h,i,hi=>by
  simp at h;subst h;rw[spV,List.getElem?_append_left (by show 0*4+i<4;omega),Nat.zero_mul,ZDE]
 |a::t,k+1,s,h,i,hi=>by
  rw[spV,List.getElem?_append_right (by show 4<=_;omega)];have e:(k+1)*4+i-(Zzd a).length=k*4+i:=by show _-4=_;omega
  rw[e];exact Zp3 t k s (by simpa using h) i hi
theorem Zqz:∀(M:List Sp) (k:Nat) (s:Sp),k<M.length->spV (M.set k s)=((((spV M).set (k*4) (.bool s.fk)).set (k*4+1) (I s.cs)).set (k*4+2) (I s.nx)).set (k*4+3) (I s.ot)
 |[],k,s,h=>by simp at h
 |a::t,0,s,h=>by rfl
 |a::t,k+1,s,h=>by
  have e:∀i,(k+1)*4+i=(k*4+i)+1+1+1+1:=λi=>by omega
  have e0:(k+1)*4=(k*4)+1+1+1+1:=by omega
  rw[Zl,spV,Zqz t k s (by simpa using h),spV,e 1,e 2,e 3,e0];rfl
def Bf(B R:Nat)(w w':World):Prop:=Below B w w'/\Kp (λj=>j=R\/∃cur,w.heap[j]?=some (.cells cur 233 (0,0))) w w'
theorem Zbe{B R:Nat}{w w1 w2:World}(h:Bf B R w w1)(k:Bf B R w1 w2):Bf B R w w2:=by
 refine⟨h.1.trans k.1,h.2.trans k.2 (λj hj hT=>?_)⟩;by_cases hs:j=R\/∃cur,w.heap[j]?=some (.cells cur 233 (0,0))
 ·exact hs
 ·have e:=h.2.block j hj hs;rcases hT with e1|⟨cur,hc⟩
  ·exact .inl e1
  ·rw[e]at hc;exact .inr ⟨cur,hc⟩
theorem Zxz(B R:Nat)(w:World):Bf B R w w:=⟨Ze _ _,Kp.refl _ _⟩
theorem ZdI{B R:Nat}{w:World}(h:B<=w.heap.size)(o:Obj):Bf B R w (w.alloc o):=⟨(Ze _ _).alloc h _,Zay _ _⟩
theorem ZCH{B R:Nat}{w w':World}(h:B<=w.heap.size)(k:ZL w w'):Bf B R w w':=⟨k.mono h,⟨k.os,k.tape,k.output,k.size,λj hj _=>k.block j hj⟩⟩
theorem ZmG{B R:Nat}{w w':World}(h:Bf B R w w'):Bf B R w w'.drew:=⟨h.1.trans ⟨rfl,rfl,rfl,Zb _,λ_ _=>rfl⟩,h.2.trans (ZhM (S:=λ_=>False) _) (λ_ _ x=>x.elim)⟩
def BXm(w:World)(G:Nat)(kd:Int)(nt:Bool)(a:Option Addr)(n c:Nat)(A B mn mx:Int):Prop:=w.heap[G]?=some (.cells #[I kd,.bool nt,.slice a n c,I A,I B,I mn,I mx] 204 (0,0))
theorem ZdN{B R:Nat}{w w':World}{G:Nat}{kd:Int}{nt:Bool}{a:Option Addr}{n c:Nat}{A B' mn mx:Int}(h:Bf B R w w')(hn:BXm w G kd nt a n c A B' mn mx)(hR:G≠R):BXm w' G kd nt a n c A B' mn mx:=by
 unfold BXm at hn ⊢;refine(h.2.block G (Array.getElem?_eq_some_iff.1 hn).1 ?_).trans hn;rintro (e|⟨cur,hc⟩)
 ·exact hR e
 ·rw[hn]at hc;simp only[ZDJ,Obj.cells.injEq]at hc;exact absurd hc.2.1 (by decide)
theorem Zfk{w:World}{G:Nat}{kd:Int}{nt:Bool}{a:Option Addr}{n c:Nat}{A B mn mx:Int}(h:BXm w G kd nt a n c A B mn mx):ZeG w G kd nt a n c A B mn mx:=⟨_,h⟩
theorem Zfs(w:World)(kd:Int)(nt:Bool)(a:Option Addr)(n c:Nat)(A B mn mx:Int):BXm (w.alloc (.cells #[I kd,.bool nt,.slice a n c,I A,I B,I mn,I mx] 204)) w.heap.size kd nt a n c A B mn mx:=Zz w _
def MX(w:World)(R:Nat)(v0 v2 v3:Value)(sa:Option Addr)(m sc:Nat):Prop:=w.heap[R]?=some (.cells #[v0,.slice sa m sc,v2,v3] 62 (0,0))
def MA(B:Nat)(w:World)(R:Nat)(v0 v2 v3:Value)(M:List Sp):Prop:=B<=R/\∃sa sc,MX w R v0 v2 v3 sa M.length sc/\w.ownsRow B 233 4 (.slice sa M.length sc) M.length (spV M)
section
variable {w w':World} {B R m sc:Nat} {v0 v2 v3:Value} {sa:Option Addr} {M:List Sp}
theorem ZdG(h:MX w R v0 v2 v3 sa m sc):w.cell? ⟨R,0,none⟩=some v0/\w.cell? ⟨R,1,none⟩=some (.slice sa m sc)/\w.cell? ⟨R,2,none⟩=some v2/\w.cell? ⟨R,3,none⟩=some v3:=by
 have e:∀i,w.cell? ⟨R,i,none⟩=(#[v0,.slice sa m sc,v2,v3]:Array Value)[i]?:=λi=>by rw[ZO w R i _ _ (0,0) h]
 exact⟨e 0,e 1,e 2,e 3⟩
theorem Zk9(h:MX w R v0 v2 v3 sa m sc)(i:Nat):w.frozen? ⟨R,i,none⟩=false:=ZEm w R i _ _ h
theorem Zo9(h:MX w R v0 v2 v3 sa m sc):R<w.heap.size:=(Array.getElem?_eq_some_iff.1 h).1
theorem ZDk(h:MX w R v0 v2 v3 sa m sc)(sa':Option Addr)(m' sc':Nat):MX (w.setCell ⟨R,1,none⟩ (.slice sa' m' sc')) R v0 v2 v3 sa' m' sc':=ZEk w R 1 _ _ (.slice sa' m' sc') h
theorem Zz4{S:Nat->Prop}(h:MA B w R v0 v2 v3 M)(k:Kp S w w')(hR:¬S R)(hS:∀j cur,S j->w.heap[j]?≠some (.cells cur 233 (0,0))):MA B w' R v0 v2 v3 M:=by
 obtain⟨h0,sa,sc,h1,h2⟩:=h;refine⟨h0,sa,sc,(k.block R (Zo9 h1) hR).trans h1,Zcd h2 k (λj hj hs=>?_)⟩;obtain⟨cur,hc⟩:=Zff h2 hj;exact hS j cur hs hc
theorem Zg4(h:MA B w R v0 v2 v3 M)(k:ZL w w'):MA B w' R v0 v2 v3 M:=Zz4 (S:=λj=>w.heap.size<=j) h ⟨k.os,k.tape,k.output,k.size,λj hj _=>k.block j hj⟩ (λhs=>by obtain⟨h0,sa,sc,h1,h2⟩:=h;have:=Zo9 h1;have hs':w.heap.size<=R:=hs;omega) (λj cur hs e=>by have hs':w.heap.size<=j:=hs;rw[Array.getElem?_eq_none hs']at e;cases e)
theorem Zey(h:MA B w R v0 v2 v3 M):B<=w.heap.size/\R<w.heap.size:=by
 obtain⟨h0,sa,sc,h1,h2⟩:=h;have:=Zo9 h1;exact⟨by omega,this⟩
theorem ZfZ(h:MA B w R v0 v2 v3 M):∃sa sc,w.cell? ⟨R,0,none⟩=some v0/\w.cell? ⟨R,1,none⟩=some (.slice sa M.length sc)/\w.cell? ⟨R,2,none⟩=some v2/\w.cell? ⟨R,3,none⟩=some v3/\∀k s,M[k]?=some s->∃g,sa=some ⟨g,0,none⟩/\g<w.heap.size/\w.cell? ⟨g,k*4,none⟩=some (.bool s.fk)/\w.cell? ⟨g,k*4+1,none⟩=some (I s.cs)/\w.cell? ⟨g,k*4+2,none⟩=some (I s.nx)/\w.cell? ⟨g,k*4+3,none⟩=some (I s.ot):=by
 obtain⟨h0,sa,sc,h1,h2⟩:=h;obtain⟨c0,c1,c2,c3⟩:=ZdG h1;refine⟨sa,sc,c0,c1,c2,c3,λk s hk=>?_⟩;have hl:k<M.length:=(List.getElem?_eq_some_iff.1 hk).1;have hx:=Zp3 M k s hk;rcases h2.2 with ⟨-,hz⟩|⟨g,cap,cur,hv,hg⟩
 ·omega
 ·simp only[ZDG]at hv;obtain⟨rfl,-,-⟩:=hv;have ha:∀i,i<4->w.cell? ⟨g,k*4+i,none⟩=(Zzd s)[i]?:=λi hi=>by
   rw[World.ownsRow.cellAt h2 (k*4+i) (by omega),hx i hi]
  exact⟨g,rfl,(h2.lt g rfl).2,ha 0 (by omega),ha 1 (by omega),ha 2 (by omega),ha 3 (by omega)⟩
theorem Zzw{s:Sp}{gg cap':Nat}{w9:World}{o:Obj}(hm:M.length=m)(h0:B<=R)(h1:MX w R v0 v2 v3 sa M.length sc)(h2:w.ownsRow B 233 4 (.slice sa M.length sc) M.length (spV M))
  (hown9:w9.ownsRow B 233 4 (.slice (some ⟨gg,0,none⟩) (m+1) cap') (m+1) (spV M++[.bool s.fk,I s.cs,I s.nx,I s.ot])) (hg:(w.alloc o).grownBy w9 (Value.slice sa m sc).ownBlock):
  w9.cell? ⟨R,1,none⟩=some (.slice sa m sc)/\w9.frozen? ⟨R,1,none⟩=false/\MA B (w9.setCell ⟨R,1,none⟩ (.slice (some ⟨gg,0,none⟩) (m+1) cap')) R v0 v2 v3 (M++[s])/\Bf B R w (w9.setCell ⟨R,1,none⟩ (.slice (some ⟨gg,0,none⟩) (m+1) cap')):=by
 subst hm;have hlt:=Zo9 h1;have hkp:Kp (λj=>(Value.slice sa M.length sc).ownBlock=some j) w w9:=(Zay w o).trans (Zca (S:=λj=>(Value.slice sa M.length sc).ownBlock=some j) hg (λj hj=>hj)) (λj _ hj=>hj);have r9:MX w9 R v0 v2 v3 sa M.length sc:=(hkp.block R hlt (λe=>Zbf h2 e h1 (by decide) rfl)).trans h1;have b9:Below B w w9:=ZaB hkp (by omega) (λk hk9=>(h2.lt k hk9).1);have hkp2:Kp (λj=>j=R\/∃cur,w.heap[j]?=some (.cells cur 233 (0,0))) w w9:=⟨hkp.os,hkp.tape,hkp.output,hkp.size,λj hj hs=>hkp.block j hj (λe=>hs (.inr (Zff h2 e)))⟩;have ks:Kp (λj=>j=R) w9 (w9.setCell ⟨R,1,none⟩ (.slice (some ⟨gg,0,none⟩) (M.length+1) cap')):=Zex (S:=λj=>j=R) _ _ _ rfl;have bs:Below B w9 (w9.setCell ⟨R,1,none⟩ (.slice (some ⟨gg,0,none⟩) (M.length+1) cap')):=ZaB ks (by have:=hkp.size;omega) (λj hj=>by have hj':j=R:=hj;omega);have hl:(M++[s]).length=M.length+1:=by simp
 refine⟨(ZdG r9).2.1,Zk9 r9 1,⟨h0,some ⟨gg,0,none⟩,cap',?_,?_⟩,b9.trans bs,hkp2.trans ks (λj _ hj => .inl hj)⟩
 ·rw[hl];exact ZDk r9 _ _ _
 ·rw[hl,ZrY];exact Zcd hown9 ks (λj hj=>Zbf hown9 hj r9 (by decide))
end
theorem Zsa(B R:Nat)(v0 v2 v3:Value)(M:List Sp)(s:Sp)(m:Nat)(w:World)(hM:M.length=m)(hX:m<=400000)(h:MA B w R v0 v2 v3 M):
  Calls prog 225 #[.pointer (some ⟨R,0,none⟩),.agg #[.bool s.fk,I s.cs,I s.nx,I s.ot]] w λe w'=>e=.returned (I m)/\MA B w' R v0 v2 v3 (M++[s])/\Bf B R w w':=by
 obtain⟨i0,hi0,hz0,hz1,hz2⟩:=info_parts ZzK;obtain⟨fk,cs,nx,ot⟩:=s;have hbB:=Zey h;have bA:Bf B R w (w.alloc (.cells #[.bool fk,I cs,I nx,I ot] 233)):=ZdI hbB.1 _;have hA:=Zg4 h ((Ze w.heap.size w).alloc (Zb _) (.cells #[.bool fk,I cs,I nx,I ot] 233));have hG:=Zz w (.cells #[.bool fk,I cs,I nx,I ot] 233);have hsz:w.heap.size<(w.alloc (.cells #[.bool fk,I cs,I nx,I ot] 233)).heap.size:=by simp
 obtain⟨G,hGw⟩:=ZX w.heap.size;go_enter func225,ntmps225
 go_wp2_with fail
 obtain⟨W,hW⟩:=ZX (w.alloc (.cells #[.bool fk,I cs,I nx,I ot] 233));rw[hGw]at hG hsz;rw[hW]at hG hA hsz bA;rw[hW];clear hW;obtain⟨h0,sa,sc,h1,h2⟩:=hA;have hBW:B<=W.heap.size:=by omega
 have hRW:=Zo9 h1;have cG:∀i,W.drew.cell? ⟨G,i,none⟩=(#[.bool fk,I cs,I nx,I ot]:Array Value)[i]?:=λi=>by rw[ZO W.drew G i _ _ (0,0) hG]
 have g0:W.drew.cell? ⟨G,0,none⟩=some (.bool fk):=cG 0;have g1:W.drew.cell? ⟨G,1,none⟩=some (I cs):=cG 1;have g2:W.drew.cell? ⟨G,2,none⟩=some (I nx):=cG 2;have g3:W.drew.cell? ⟨G,3,none⟩=some (I ot):=cG 3;have r1:W.drew.cell? ⟨R,1,none⟩=some (.slice sa M.length sc):=(ZdG (w:=W.drew) h1).2.1;have r1a:∀o,(W.alloc o).cell? ⟨R,1,none⟩=some (.slice sa M.length sc):=λo=>(ZdG (w:=W.alloc o) ((Zay (S:=λ_=>False) W o).block R hRW (λx=>x) |>.trans h1)).2.1
 have r1b:∀o,(W.alloc o).drew.cell? ⟨R,1,none⟩=some (.slice sa M.length sc):=λo=>r1a o
 have H1:=J h1;have H2:=J h2;have HOW:=J h2;have HA:=J bA;have HM:=J hM;rw[hM]at r1 r1a r1b HOW;clear cG h1 h2 bA h hG hM hGw hbB
 go_region_law (first
  |(refine step_append_lies _ (by rfl) _ _ _ (by rfl) B 233 i0 _ 4 32 underlying58 hi0 hz0 hz1 hz2 rfl (by omega) (.slice sa m sc) m (spV M) (by rfl) (HOW.out.alloc _).drew ⟨W.heap.size,0,none⟩ 1 1 [.bool fk,I cs,I nx,I ot] (by rfl) (by rfl) (World.news_of_block (cs:=#[.bool fk,I cs,I nx,I ot]) (t:=233) (fr:=(0,0)) (Zz W _)) (by simp[Value.oneCell']) (by omega) (by unfold maxLen;omega) (by omega) (by simp;omega) (W.heap.size+1) (by simp) ?_;intro gg cap' w9 hown9 hgrow9 hat9 hlt9;have hgr9:=Zjh hgrow9;obtain⟨hc9,hf9,h9,hb9⟩:=Zzw (s:=⟨fk,cs,nx,ot⟩) HM.out h0 H1.out H2.out hown9 hgr9;have H9:=J h9;have HB9:=J (Zbe HA.out hb9);clear hown9 hgrow9 hgr9 hat9 h9 hb9)
  |(fail))
 all_goals
  obtain⟨sa9,sc9,d0,d1,d2,d3,-⟩:=ZfZ H9.out;rw[ZDz,HM.out]at d1;have e1:IntKind.i64.wrap (((m+[(⟨fk,cs,nx,ot⟩:Sp)].length:Nat):Int)-1)=(m:Int):=by rw[ZY];simp;omega
  clear hc9 hf9;go_wp2;go_ret;refine⟨?_,H9.out,HB9.out⟩;first|rfl|(congr 2;omega)|(simp;omega)
def XR(w:World)(R:Nat)(ta:Option Addr)(n tc:Nat)(ad:Option Addr)(m c:Nat):Prop:=w.heap[R]?=some (.cells #[.slice ta n tc,.slice ad m c] 240 (0,0))
def Tx(B:Nat)(w:World)(ta:Option Addr)(tc:Nat)(u:List Int):Prop:=u.length<=tc/\tc<=maxLen/\(0<u.length->∃b off,ta=some ⟨b,off,none⟩/\b<B/\∀j c,u[j]?=some c->w.cell? ⟨b,off+j,none⟩=some (I c))/\∀c∈u,chB c=true
def RD(S:Nat->Prop)(B R:Nat)(w:World)(u:List Int)(X:List Nd):Prop:=B<=R/\∃ta tc ad c,XR w R ta u.length tc ad X.length c/\Tx B w ta tc u/\XOZ 500 B S w ad c X/\∀k,(Value.slice ad X.length c).ownBlock=some k->S k
section
variable {w w':World} {B R n tc m c:Nat} {ta ad:Option Addr} {u:List Int} {X:List Nd}
theorem ZdH(h:XR w R ta n tc ad m c):w.cell? ⟨R,0,none⟩=some (.slice ta n tc)/\w.cell? ⟨R,1,none⟩=some (.slice ad m c):=by
 have e:∀i,w.cell? ⟨R,i,none⟩=(#[.slice ta n tc,.slice ad m c]:Array Value)[i]?:=λi=>by rw[ZO w R i _ _ (0,0) h]
 exact⟨e 0,e 1⟩
theorem Zlj(h:XR w R ta n tc ad m c)(i:Nat):w.frozen? ⟨R,i,none⟩=false:=ZEm w R i _ _ h
theorem Zk1(h:XR w R ta n tc ad m c):R<w.heap.size:=(Array.getElem?_eq_some_iff.1 h).1
theorem ZC3(h:XR w R ta n tc ad m c)(ta':Option Addr)(n' tc':Nat):XR (w.setCell ⟨R,0,none⟩ (.slice ta' n' tc')) R ta' n' tc' ad m c:=ZEk w R 0 _ _ (.slice ta' n' tc') h
theorem ZC8(h:XR w R ta n tc ad m c)(ad':Option Addr)(m' c':Nat):XR (w.setCell ⟨R,1,none⟩ (.slice ad' m' c')) R ta n tc ad' m' c':=ZEk w R 1 _ _ (.slice ad' m' c') h
theorem ZbG(h:Tx B w ta tc u)(k:Below B w w'):Tx B w' ta tc u:=by
 obtain⟨h1,h2,h3,h4⟩:=h;refine⟨h1,h2,λh0=>?_,h4⟩;obtain⟨b,off,rfl,hb,hc⟩:=h3 h0;exact⟨b,off,rfl,hb,λj c hj=>by
  have:=hc j c hj;simp only[World.cell?]at this ⊢;rw[k.block b hb];exact this⟩
theorem Zd9(w:World)(R:Nat)(i:Nat)(v:Value):Kp (λj=>j=R) w (w.setCell ⟨R,i,none⟩ v):=Zex (S:=λj=>j=R) _ _ _ rfl
theorem ZCU(hx:XR w R ta n tc ad m c){ad':Option Addr}{c':Nat}{Z:Nat}{S:Nat->Prop}(h:XOZ Z B S w ad' c' X)(k:Kp (λj=>j=R) w w'):XOZ Z B S w' ad' c' X:=by
 obtain⟨xs,h1,h2,h3⟩:=h;refine⟨xs,Zcd h1 k (λj hj=>Zbf h1 hj hx (by decide)),Zh2 h2 k (λB' z n v ys j hv hj _=>Zbf hv hj hx (by decide)),h3⟩
end
section
variable {S:Nat->Prop} {w w':World} {B R:Nat} {u:List Int} {X:List Nd}
theorem Zg2(h:RD S B R w u X):B<=w.heap.size:=by
 obtain⟨h0,ta,tc,ad,c,h1,-⟩:=h;have:=Zk1 h1;omega
theorem ZwS(h:RD S B R w u X):∀c∈u,chB c=true:=by
 obtain⟨h0,ta,tc,ad,c,h1,h2,h3⟩:=h;exact h2.2.2.2
theorem ZcY(h:RD S B R w u X)(k:Kp (λj=>j=R) w w'):Below B w w':=ZaB k (Zg2 h) (λj hj=>by have:=h.1;have hj':j=R:=hj;omega)
theorem ZfH{c:Int}{r:List Int}(h:RD S B R w (c::r) X):∃b off tc ad cp,w.cell? ⟨R,0,none⟩=some (.slice (some ⟨b,off,none⟩) (r.length+1) tc)/\w.frozen? ⟨R,0,none⟩=false/\w.cell? ⟨R,1,none⟩=some (.slice ad X.length cp)/\w.cell? ⟨b,off,none⟩=some (I c)/\r.length+1<=tc/\tc<=maxLen/\
  Hid (∀(W:World) (o':Nat),(r.length=0\/o'=off+1)->W=w.setCell ⟨R,0,none⟩ (.slice (some ⟨b,o',none⟩) r.length (tc-1))->RD S B R W r X/\Kp (λj=>j=R) w W):=by
 obtain⟨h0,ta,tc,ad,cp,h1,⟨h2,h3,h4,h5⟩,h6⟩:=h;obtain⟨b,off,rfl,hb,hc⟩:=h4 (by simp);refine⟨b,off,tc,ad,cp,(ZdH h1).1,Zlj h1 0,(ZdH h1).2,hc 0 c rfl,h2,h3,J λW o' ho hW=>?_⟩;subst hW;have hk:=Zd9 w R 0 (.slice (some ⟨b,o',none⟩) r.length (tc-1));refine⟨⟨h0,_,_,ad,cp,ZC3 h1 _ _ _,ZbG ⟨?_,by omega,λh9=>⟨b,o',rfl,hb,λj d hj=>?_⟩,λd hd=>h5 d (by simp[hd])⟩ (ZaB hk (by have:=Zk1 h1;omega) (λj hj=>by have hj':j=R:=hj;omega)),ZCU h1 h6.1 hk,h6.2⟩,hk⟩
 ·simp at h2;omega
 ·rw[show o'+j=off+(j+1) by omega];exact hc (j+1) d (by simpa using hj)
theorem Zlp(h:RD S B R w [] X):∃ta tc,w.cell? ⟨R,0,none⟩=some (.slice ta 0 tc):=by
 obtain⟨h0,ta,tc,ad,cp,h1,-⟩:=h;exact⟨ta,tc,(ZdH h1).1⟩
theorem ZvF(h:RD S B R w u X):∃ta tc ad cp,w.cell? ⟨R,0,none⟩=some (.slice ta u.length tc)/\w.cell? ⟨R,1,none⟩=some (.slice ad X.length cp):=by
 obtain⟨h0,ta,tc,ad,cp,h1,-⟩:=h;exact⟨ta,tc,ad,cp,ZdH h1⟩
end
theorem Zfx(p:Value)(w:World):Calls prog 222 #[p,.bool true] w λe w'=>e=.returned (.tuple #[])/\w'=w:=by
 go_enter func222,ntmps222
 go_wp2
 go_end0
 exact⟨rfl,rfl⟩
def ZlQ(B:Nat)(w:World)(e:Ending)(w':World):Prop:=(∃t v,e=.panicked [{ v:=.iface t v,recovered:=false }])/\Below B w w'
theorem Zfu(B:Nat)(p:Value)(w:World):Calls prog 222 #[p,.bool false] w (ZlQ B w):=by
 go_enter func222,ntmps222
 go_wp2;exact⟨rfl,⟨_,_,rfl⟩,Ze _ _⟩
theorem ZB5{S:Nat->Prop}(B R:Nat)(u:List Int)(X:List Nd)(s:Int)(w:World)(h:RD S B R w u X):Calls prog 286 #[.pointer (some ⟨R,0,none⟩),I s] w λe w'=>e=.returned (.bool (decide (u.head?=some s)))/\w'=w:=by
 cases u with
 |nil=>
  obtain⟨ta,tc,c0⟩:=Zlp h;clear h;go_enter func286,ntmps286
  go_wp2;go_ret;exact⟨rfl,rfl⟩
 |cons c r=>
  obtain⟨b,off,tc,ad,cp,c0,f0,c1,c2,h1,h2,HT⟩:=ZfH h;have h3:(0:Int)<(r.length:Int)+1:=by omega
  have h4:(0:Int)<((r.length+1:Nat):Int):=by omega
  clear h HT;have hd:(c==s)=decide ((c::r).head?=some s):=by
   by_cases e:c=s
   ·simp[e]
   ·simp[e]
  go_enter func286,ntmps286
  go_wp2;go_ret;rw[<-hd];exact⟨rfl,rfl⟩
theorem Zco{S:Nat->Prop}(B R:Nat)(s:Int)(r:List Int)(X:List Nd)(w:World)(h:RD S B R w (s::r) X):Calls prog 259 #[.pointer (some ⟨R,0,none⟩),I s] w λe w'=>e=.returned (.bool true)/\RD S B R w' r X/\Kp (λj=>j=R) w w':=by
 have HA:=J (ZB5 B R (s::r) X s w h);have hd:decide ((s::r).head?=some s)=true:=by simp
 rw[hd]at HA;obtain⟨b,off,tc,ad,cp,c0,f0,c1,c2,h1,h2,HT⟩:=ZfH h;have h3:(1:Int)<=(r.length:Int)+1:=by omega
 have h4:(1:Int)<=((r.length+1:Nat):Int):=by omega
 have h5:((r.length+1:Nat):Int)<=(tc:Int):=by omega
 clear h hd;go_enter func259,ntmps259
 go_wp2_with (go_at_call 286;refine Zc HA.out ?_)
 ·have h9:tc=1:=by assumption
  have h10:r.length=0:=by omega
  go_ret;exact⟨rfl,HT.out _ off (.inl h10) (by rw[h9])⟩
 ·go_ret;exact⟨rfl,HT.out _ _ (.inr rfl) rfl⟩
theorem Zb4{S:Nat->Prop}(B R:Nat)(s:Int)(u:List Int)(X:List Nd)(w:World)(h:RD S B R w u X)(hu:u.head?≠some s):Calls prog 259 #[.pointer (some ⟨R,0,none⟩),I s] w λe w'=>e=.returned (.bool false)/\w'=w:=by
 have HA:=J (ZB5 B R u X s w h);have hd:decide (u.head?=some s)=false:=Zg hu;rw[hd]at HA;clear h hu;go_enter func259,ntmps259
 go_wp2_with (go_at_call 286;refine Zc HA.out ?_)
 go_ret;exact⟨rfl,rfl⟩
theorem ZgN{S:Nat->Prop}(B R:Nat)(s:Int)(r:List Int)(X:List Nd)(w:World)(h:RD S B R w (s::r) X):Calls prog 299 #[.pointer (some ⟨R,0,none⟩)] w λe w'=>e=.returned (I s)/\RD S B R w' r X/\Kp (λj=>j=R) w w':=by
 obtain⟨b,off,tc,ad,cp,c0,f0,c1,c2,h1,h2,HT⟩:=ZfH h;have h3:(1:Int)<=(r.length:Int)+1:=by omega
 have h4:(1:Int)<=((r.length+1:Nat):Int):=by omega
 have h5:((r.length+1:Nat):Int)<=(tc:Int):=by omega
 have h6:(0:Int)<(r.length:Int)+1:=by omega
 have h7:(0:Int)<((r.length+1:Nat):Int):=by omega
 clear h;go_enter func299,ntmps299
 go_wp2_with (go_at_call 222;refine Zc (Zfx _ _) ?_)
 ·have h9:tc=1:=by assumption
  have h10:r.length=0:=by omega
  go_ret;exact⟨rfl,HT.out _ off (.inl h10) (by rw[h9])⟩
 ·go_ret;exact⟨rfl,HT.out _ _ (.inr rfl) rfl⟩
theorem ZjQ{S:Nat->Prop}(B R:Nat)(X:List Nd)(w:World)(h:RD S B R w [] X):Calls prog 299 #[.pointer (some ⟨R,0,none⟩)] w (ZlQ B w):=by
 obtain⟨ta,tc,c0⟩:=Zlp h;clear h;go_enter func299,ntmps299
 go_wp2_with fail
 refine(Zfu B _ _).mono ?_;rintro e w2 ⟨⟨tv,v,rfl⟩,k2⟩;have K2:=J k2;clear k2;go_wp2;exact⟨rfl,⟨_,_,rfl⟩,K2.out⟩
theorem Zl8{S:Nat->Prop}(B R:Nat)(s:Int)(r:List Int)(X:List Nd)(w:World)(h:RD S B R w (s::r) X):Calls prog 300 #[.pointer (some ⟨R,0,none⟩),I s] w λe w'=>e=.returned (.tuple #[])/\RD S B R w' r X/\Kp (λj=>j=R) w w':=by
 have HA:=J (Zco B R s r X w h);clear h;go_enter func300,ntmps300
 go_wp2_with fail
 refine ZM HA.out ?_;rintro w1 ⟨h1,k1⟩;have H1:=J h1;have K1:=J k1;clear h1 k1 HA;go_wp2_with (go_at_call 222;refine Zc (Zfx _ _) ?_)
 go_end0
 exact⟨rfl,H1.out,K1.out⟩
theorem Zmf{S:Nat->Prop}(B R:Nat)(s:Int)(u:List Int)(X:List Nd)(w:World)(h:RD S B R w u X)(hu:u.head?≠some s):Calls prog 300 #[.pointer (some ⟨R,0,none⟩),I s] w (ZlQ B w):=by
 have HA:=J (Zb4 B R s u X w h hu);clear h hu;go_enter func300,ntmps300
 go_wp2_with fail
 refine Zc HA.out ?_;go_wp2_with fail
 refine(Zfu B _ _).mono ?_;rintro e w2 ⟨⟨tv,v,rfl⟩,k2⟩;have K2:=J k2;clear k2;go_wp2;exact⟨rfl,⟨_,_,rfl⟩,K2.out⟩
theorem Zk8{S:Nat->Prop}(B R:Nat)(u:List Int)(X:List Nd)(w:World)(hX:X.length<=5000)(h:RD S B R w u X):Calls prog 258 #[.pointer (some ⟨R,0,none⟩)] w λe w'=>e=.returned (I ((X.length:Int)-1))/\w'=w:=by
 obtain⟨ta,tc,ad,cp,c0,c1⟩:=ZvF h;clear h;have hw:IntKind.i64.wrap ((X.length:Int)-1)=(X.length:Int)-1:=by rw[ZY];omega
 go_enter func258,ntmps258
 go_wp2;go_ret;exact⟨rfl,rfl⟩
theorem ZnM{S:Nat->Prop}(B R:Nat)(u:List Int)(X:List Nd)(w:World)(h:RD S B R w u X):Calls prog 284 #[.pointer (some ⟨R,0,none⟩)] w λe w'=>e=.returned (.bool (rwE u))/\w'=w:=by
 have HA:=J (λs=>ZB5 B R u X s w h);cases u with
 |nil=>
  obtain⟨ta,tc,c0⟩:=Zlp h;clear h;go_enter func284,ntmps284
  go_wp2;go_ret;exact⟨rfl,rfl⟩
 |cons c r=>
  obtain⟨b,off,tc,ad,cp,c0,f0,c1,c2,h1,h2,HT⟩:=ZfH h;have h3:(((r.length+1:Nat):Int)==0)=false:=by simp only[ZDU,ne_eq];omega
  have h4:((r.length:Int)+1==0)=false:=by simp only[ZDU,ne_eq];omega
  clear h HT c2 f0;have A1:=J (HA.out 124);have A2:=J (HA.out 41);clear HA;by_cases e1:c=124
  ·have hd:decide ((c::r).head?=some 124)=true:=by simp[e1]
   have hr:rwE (c::r)=true:=by simp[rwE,e1]
   rw[hd]at A1;rw[hr];clear hd hr e1;go_enter func284,ntmps284
   go_wp2_with (go_at_call 286;first|(refine Zc A1.out ?_))
   go_ret;exact⟨rfl,rfl⟩
  ·have hd:decide ((c::r).head?=some 124)=false:=by simp[e1]
   rw[hd]at A1;have hr:rwE (c::r)=decide ((c::r).head?=some 41):=by simp[rwE,e1]
   rw[<-hr]at A2;obtain⟨q,hq⟩:=ZX (rwE (c::r));rw[hq]at A2 ⊢;clear hd hr hq e1;go_enter func284,ntmps284
   go_wp2_with (first|(go_at_call_of 286 (Value.int .i64 124);(refine Zc A1.out ?_))|(go_at_call_of 286 (Value.int .i64 41);(refine Zc A2.out ?_)))
   all_goals
    go_ret;first|exact⟨rfl,rfl⟩|(cases q<;>exact⟨rfl,rfl⟩)
end
section
open Go.RowKit
theorem Zz3(w:World):Calls prog 119 #[.string ⟨#[46,92,63,42,43,123,125,40,41,124,91,93,45,94]⟩,.int .i32 65533] w (Zbn w):=by
 go_enter func119,ntmps119
 go_wp2_with fail
 go_loopw [] (λwr=>∃pos:Nat,pos<=14/\Hid (wr.heap[w.heap.size]?=some (.stringIter ⟨#[46,92,63,42,43,123,125,40,41,124,91,93,45,94]⟩ pos))/\Hid (ZL w wr)) (λwr=>match wr.heap[w.heap.size]? with|some (.stringIter _ p)=>14-p|_=>0)
 case atStart=>exact⟨0,by omega,J (World.iter_heap w _ 0),J ((Ze _ _).alloc (Zb _) _)⟩
 case round=>
  obtain⟨pos,hp,HI,HB⟩:=hrel;by_cases hlt:pos<14
  ·have hlt':pos<(⟨#[46,92,63,42,43,123,125,40,41,124,91,93,45,94]⟩:ZB).size:=hlt;have ha:((⟨#[46,92,63,42,43,123,125,40,41,124,91,93,45,94]⟩:ZB)[pos]'hlt').toNat<128:=by
    rcases(show pos=0\/pos=1\/pos=2\/pos=3\/pos=4\/pos=5\/pos=6\/pos=7\/pos=8\/pos=9\/pos=10\/pos=11\/pos=12\/pos=13 by omega) with e|e|e|e|e|e|e|e|e|e|e|e|e|e<;>subst e<;>(first|(show _<_;decide)|exact ZDY rfl)
   have hnx:=λty=>Lib.run_next_ascii_at (P:=prog) wr w.heap.size ⟨#[46,92,63,42,43,123,125,40,41,124,91,93,45,94]⟩ pos ty HI.out hlt' ha
   obtain⟨x,hx⟩:∃x:Nat,((⟨#[46,92,63,42,43,123,125,40,41,124,91,93,45,94]⟩:ZB)[pos]'hlt').toNat=x:=⟨_,rfl⟩;rw[hx]at hnx ha;have e1:((x:Int)==65533)=false:=by
    have:¬(x:Int)=65533:=by omega
    simpa using this
   have HI2:=J (Lib.iterAt_heap wr w.heap.size _ pos (pos+1) HI.out);have HB2:=J (Lib.below_iterAt HB.out (k:=w.heap.size) (Zb _) ⟨#[46,92,63,42,43,123,125,40,41,124,91,93,45,94]⟩ (pos+1));clear hx;go_wp2
   go_roundw
   case rel=>exact⟨pos+1,by omega,HI2,HB2⟩
   case measure=>rw[HI2.out,HI.out];simp;omega
  ·have hnx:=λty=>Lib.run_next_end_at (P:=prog) wr w.heap.size ⟨#[46,92,63,42,43,123,125,40,41,124,91,93,45,94]⟩ pos ty HI.out (λh9=>hlt h9)
   go_wp2;go_ret;exact⟨rfl,HB.out⟩
theorem Ztu(r:Int)(w:World)(h:128<=r)(h2:r<=1114111)(hv:Lib.validRune r=true)(he:r≠65533)(a b:UInt8)(hN:Utf8.encode r=⟨#[a,b]⟩)(hb:128<=b.toNat):Calls prog 119 #[.string ⟨#[46,92,63,42,43,123,125,40,41,124,91,93,45,94]⟩,.int .i32 r] w (Zbn w):=by
 have CV:=J (ZFc r w);rw[hv]at CV;have hcv:=ZbP r;rw[hN]at hcv;have hnot:∀(x:Bool) (w:World),(Op.unary .not (.bool x)).run prog w=.ok (.bool (!x)) w:=λ_ _=>rfl
 have h0:(0:Int)<=r:=by omega
 have h1:¬r<128:=by omega
 have e1:(r==65533)=false:=by simpa using he
 have hne:(((⟨#[46,92,63,42,43,123,125,40,41,124,91,93,45,94]⟩:ZB)[1]'(by decide)).toNat:Int)≠(((⟨#[a,b]⟩:ZB)[1]'(Zb 2)).toNat:Int):=by
  have e1:((⟨#[46,92,63,42,43,123,125,40,41,124,91,93,45,94]⟩:ZB)[1]'(by decide)).toNat<128:=by decide
  have e2:128<=((⟨#[a,b]⟩:ZB)[1]'(Zb 2)).toNat:=hb;omega
 have hne2:((((⟨#[46,92,63,42,43,123,125,40,41,124,91,93,45,94]⟩:ZB)[1]'(by decide)).toNat:Int) != (((⟨#[a,b]⟩:ZB)[1]'(Zb 2)).toNat:Int))=true:=by
  rw[bne_iff_ne];exact hne
 go_enter func119,ntmps119
 go_wp2_with (go_at_call 155;refine Zc CV.out ?_)
 go_step3
 go_wp2
 go_loopw [9] (λv9 wr=>v9=I 1/\wr=w) (λ_ _=>0)
 case atStart=>exact⟨rfl,rfl⟩
 case round=>
  obtain⟨rfl,rfl⟩:=hrel;go_wp2
  go_step3
  go_wp2
  go_region
  go_wp2;go_region_with (go_at_call 154;refine(ZE5 _ _ _).mono ?_;rintro e w9 ⟨he9,h9⟩;have e9:e=.returned (I (-1)):=he9.trans (by rw[Zbz _ _ (by decide) (by rw[ZbO];exact hb)]);rw[e9,h9];clear he9 e9 h9)
  all_goals (go_wp2;rw[ZEq];go_ret;exact⟨rfl,(((Ze _ _).drew).drew)⟩)
theorem ZuD(r:Int)(w:World)(h:128<=r)(h2:r<=1114111)(hv:Lib.validRune r=true)(he:r≠65533)(a b c:UInt8)(hN:Utf8.encode r=⟨#[a,b,c]⟩)(hb:128<=c.toNat):Calls prog 119 #[.string ⟨#[46,92,63,42,43,123,125,40,41,124,91,93,45,94]⟩,.int .i32 r] w (Zbn w):=by
 have CV:=J (ZFc r w);rw[hv]at CV;have hcv:=ZbP r;rw[hN]at hcv;have hnot:∀(x:Bool) (w:World),(Op.unary .not (.bool x)).run prog w=.ok (.bool (!x)) w:=λ_ _=>rfl
 have h0:(0:Int)<=r:=by omega
 have h1:¬r<128:=by omega
 have e1:(r==65533)=false:=by simpa using he
 have hne:(((⟨#[46,92,63,42,43,123,125,40,41,124,91,93,45,94]⟩:ZB)[2]'(by decide)).toNat:Int)≠(((⟨#[a,b,c]⟩:ZB)[2]'(Zb 3)).toNat:Int):=by
  have e1:((⟨#[46,92,63,42,43,123,125,40,41,124,91,93,45,94]⟩:ZB)[2]'(by decide)).toNat<128:=by decide
  have e2:128<=((⟨#[a,b,c]⟩:ZB)[2]'(Zb 3)).toNat:=hb;omega
 have hne2:((((⟨#[46,92,63,42,43,123,125,40,41,124,91,93,45,94]⟩:ZB)[2]'(by decide)).toNat:Int) != (((⟨#[a,b,c]⟩:ZB)[2]'(Zb 3)).toNat:Int))=true:=by
  rw[bne_iff_ne];exact hne
 go_enter func119,ntmps119
 go_wp2_with (go_at_call 155;refine Zc CV.out ?_)
 go_step3
 go_wp2
 go_loopw [9] (λv9 wr=>v9=I 2/\wr=w) (λ_ _=>0)
 case atStart=>exact⟨rfl,rfl⟩
 case round=>
  obtain⟨rfl,rfl⟩:=hrel;go_wp2
  go_step3
  go_wp2
  go_region
  go_wp2;go_region_with (go_at_call 154;refine(ZE5 _ _ _).mono ?_;rintro e w9 ⟨he9,h9⟩;have e9:e=.returned (I (-1)):=he9.trans (by rw[Zbz _ _ (by decide) (by rw[ZbO];exact hb)]);rw[e9,h9];clear he9 e9 h9)
  all_goals (go_wp2;rw[ZEq];go_ret;exact⟨rfl,(((Ze _ _).drew).drew)⟩)
theorem Ztb(r:Int)(w:World)(h:128<=r)(h2:r<=1114111)(hv:Lib.validRune r=true)(he:r≠65533)(a b c d:UInt8)(hN:Utf8.encode r=⟨#[a,b,c,d]⟩)(hb:128<=d.toNat):Calls prog 119 #[.string ⟨#[46,92,63,42,43,123,125,40,41,124,91,93,45,94]⟩,.int .i32 r] w (Zbn w):=by
 have CV:=J (ZFc r w);rw[hv]at CV;have hcv:=ZbP r;rw[hN]at hcv;have hnot:∀(x:Bool) (w:World),(Op.unary .not (.bool x)).run prog w=.ok (.bool (!x)) w:=λ_ _=>rfl
 have h0:(0:Int)<=r:=by omega
 have h1:¬r<128:=by omega
 have e1:(r==65533)=false:=by simpa using he
 have hne:(((⟨#[46,92,63,42,43,123,125,40,41,124,91,93,45,94]⟩:ZB)[3]'(by decide)).toNat:Int)≠(((⟨#[a,b,c,d]⟩:ZB)[3]'(Zb 4)).toNat:Int):=by
  have e1:((⟨#[46,92,63,42,43,123,125,40,41,124,91,93,45,94]⟩:ZB)[3]'(by decide)).toNat<128:=by decide
  have e2:128<=((⟨#[a,b,c,d]⟩:ZB)[3]'(Zb 4)).toNat:=hb;omega
 have hne2:((((⟨#[46,92,63,42,43,123,125,40,41,124,91,93,45,94]⟩:ZB)[3]'(by decide)).toNat:Int) != (((⟨#[a,b,c,d]⟩:ZB)[3]'(Zb 4)).toNat:Int))=true:=by
  rw[bne_iff_ne];exact hne
 go_enter func119,ntmps119
 go_wp2_with (go_at_call 155;refine Zc CV.out ?_)
 go_step3
 go_wp2
 go_loopw [9] (λv9 wr=>v9=I 3/\wr=w) (λ_ _=>0)
 case atStart=>exact⟨rfl,rfl⟩
 case round=>
  obtain⟨rfl,rfl⟩:=hrel;go_wp2
  go_step3
  go_wp2
  go_region
  go_wp2;go_region_with (go_at_call 154;refine(ZE5 _ _ _).mono ?_;rintro e w9 ⟨he9,h9⟩;have e9:e=.returned (I (-1)):=he9.trans (by rw[Zbz _ _ (by decide) (by rw[ZbO];exact hb)]);rw[e9,h9];clear he9 e9 h9)
  all_goals (go_wp2;rw[ZEq];go_ret;exact⟨rfl,(((Ze _ _).drew).drew)⟩)
theorem ZzE(c:Int)(w:World)(h:128<=c)(hc:chB c=true):Calls prog 119 #[.string ⟨#[46,92,63,42,43,123,125,40,41,124,91,93,45,94]⟩,.int .i32 c] w (Zbn w):=by
 have h2:=Zbl hc;by_cases he:c=65533
 ·subst he;exact Zz3 w
 ·have hv:Lib.validRune c=true:=by unfold Lib.validRune;simp;omega
  rcases Zgk c h hv with ⟨a,b,hN,hb⟩|⟨a,b,d,hN,hb⟩|⟨a,b,d,f,hN,hb⟩
  ·exact Ztu c w h (by omega) hv he a b hN hb
  ·exact ZuD c w h (by omega) hv he a b d hN hb
  ·exact Ztb c w h (by omega) hv he a b d f hN hb
theorem ZwK{c:Int}(h:128<=c):isS sgE c=false:=by
 unfold isS sgE;simp;omega
theorem ZxE(c:Int)(h0:0<=c)(h1:c<128):decide (0<=Lib.indexByte sgE c.toNat.toUInt8)=isS sgE c:=by
 obtain⟨k,rfl⟩:∃k:Nat,c=k:=⟨c.toNat,by omega⟩;have hk:k<128:=by omega
 have hall:∀k:Fin 128,decide (0<=Lib.indexByte sgE ((k.val:Int)).toNat.toUInt8)=isS sgE (k.val:Int):=by decide +kernel
 exact hall ⟨k,hk⟩
theorem ZyK(c:Int)(w:World)(hc:chB c=true):Calls prog 303 #[I c,.string ⟨#[46,92,63,42,43,123,125,40,41,124,91,93,45,94]⟩] w λe w'=>e=.returned (.bool (isS sgE c))/\ZL w w':=by
 have h2:=Zbl hc;have hw:IntKind.i32.wrap c=c:=by rw[IntKind.wrap_i32];omega
 by_cases h:c<128
 ·have C:=J (ZEZ ⟨#[46,92,63,42,43,123,125,40,41,124,91,93,45,94]⟩ c w (by omega) h);rw[show(⟨#[46,92,63,42,43,123,125,40,41,124,91,93,45,94]⟩:ZB).data.toList=sgE from rfl,ZxE c (by omega) h]at C;go_enter func303,ntmps303
  go_wp2_with (go_at_call 72;refine Zc C.out ?_)
  go_ret;exact⟨rfl,Ze _ _⟩
 ·have HS:=J (ZwK (c:=c) (by omega));have C:=J (ZzE c w (by omega) hc);have CR:Hid (Calls prog 72 #[.string ⟨#[46,92,63,42,43,123,125,40,41,124,91,93,45,94]⟩,.int .i32 c] w λe w'=>e=.returned (.bool false)/\ZL w w'):=J (by
   go_enter func72,ntmps72
   go_wp2_with (go_at_call 119;refine ZM C.out ?_;rintro w2 hb2;have HB:=J hb2;clear hb2)
   go_ret;exact⟨rfl,HB.out⟩)
  go_enter func303,ntmps303
  go_wp2_with (go_at_call 72;refine ZM CR.out ?_;rintro w2 hb2;have HB:=J hb2;clear hb2)
  go_ret;exact⟨Zo HS.out.symm,HB.out⟩
end
section
open Go.RowKit Go.Joins
def PvA(S:Nat->Prop)(B R:Nat)(w:World)(X:List Nd)(o:Option (Value×List Int))(e:Ending)(w':World):Prop:=match o with
 |some (v,r)=>e=.returned v/\RD S B R w' r X/\Kp (λj=>j=R) w w'
 |none=>ZlQ B w e w'
theorem Zhx{S:Nat->Prop}{B R:Nat}{w w1 w2:World}{u:List Int}{X:List Nd}{e:Ending}(h:RD S B R w u X)(k:Kp (λj=>j=R) w w1)(g:ZlQ B w1 e w2):ZlQ B w e w2:=⟨g.1,(ZcY h k).trans g.2⟩
theorem ZjH{R:Nat}{w w1 w2:World}(h:Kp (λj=>j=R) w w1)(k:Kp (λj=>j=R) w1 w2):Kp (λj=>j=R) w w2:=h.trans k (λ_ _ hj=>hj)
theorem ZzA{R B:Nat}{w w1:World}(h:Below B w w1)(hB:w.heap.size<=B):Kp (λj=>j=R) w w1:=⟨h.os,h.tape,h.output,h.size,λk hk _=>h.block k (by omega)⟩
theorem ZAY{S:Nat->Prop}{B R:Nat}{w w1:World}{u:List Int}{X:List Nd}(h:RD S B R w u X)(k:ZL w w1):RD S B R w1 u X:=by
 obtain⟨h0,ta,tc,ad,c,h1,h2,h3⟩:=h;have hlt:=Zk1 h1;exact⟨h0,ta,tc,ad,c,(k.block R hlt).trans h1,ZbG h2 (k.mono (by omega)),Zen h3.1 k,h3.2⟩
theorem Znr{S:Nat->Prop}(B R:Nat)(s:Int)(r:List Int)(X:List Nd)(w:World)(h:RD S B R w (s::r) X)(hs:48<=s/\s<=57):Calls prog 309 #[.pointer (some ⟨R,0,none⟩)] w λe w'=>e=.returned (I (s-48))/\RD S B R w' r X/\Kp (λj=>j=R) w w':=by
 have HA:=J (ZgN B R s r X w h);have hw:IntKind.i64.wrap (s-48)=s-48:=by rw[ZY];omega
 clear h;go_enter func309,ntmps309
 go_wp2_with fail
 refine ZM HA.out ?_;rintro w1 ⟨h1,k1⟩;have H1:=J h1;have K1:=J k1;clear h1 k1 HA;go_wp2_with (first|(go_at_call 64;refine Zc (ZpB _ _ _ _ hs) ?_)|(go_at_call 222;refine Zc (Zfx _ _) ?_))
 go_ret;exact⟨rfl,H1.out,K1.out⟩
theorem ZuA{S:Nat->Prop}(B R:Nat)(u:List Int)(X:List Nd)(w:World)(h:RD S B R w u X)(hs:∀s r,u=s::r->¬(48<=s/\s<=57)):Calls prog 309 #[.pointer (some ⟨R,0,none⟩)] w (ZlQ B w):=by
 cases u with
 |nil=>
  have HA:=J (ZjQ B R X w h);clear h;go_enter func309,ntmps309
  go_wp2_with fail
  refine HA.out.mono ?_;rintro e w2 ⟨⟨tv,v,rfl⟩,k2⟩;have K2:=J k2;clear k2;go_wp2;exact⟨rfl,⟨_,_,rfl⟩,K2.out⟩
 |cons s r=>
  have HA:=J (ZgN B R s r X w h);have H0:=J h;have hs':=hs s r rfl;clear h hs;go_enter func309,ntmps309
  go_wp2_with fail
  refine ZM HA.out ?_;rintro w1 ⟨h1,k1⟩;have H1:=J h1;have K1:=J k1;clear h1 k1 HA;go_wp2_with (go_at_call 64;refine Zc (ZmF _ _ _ _ hs') ?_)
  refine(Zfu B _ _).mono ?_;rintro e w2 ⟨⟨tv,v,rfl⟩,k2⟩;have K2:=J (Zhx H0.out K1.out ⟨⟨tv,v,rfl⟩,k2⟩);clear k2;go_wp2;exact⟨rfl,K2.out⟩
def iv(o:Option (Int×List Int)):Option (Value×List Int):=o.map λp=>(I p.1,p.2)
theorem Zof{S:Nat->Prop}(B R:Nat)(u:List Int)(X:List Nd)(w:World)(h:RD S B R w u X):Calls prog 305 #[.pointer (some ⟨R,0,none⟩)] w (PvA S B R w X (iv (nmP u))):=by
 by_cases hd:∃s r,u=s::r/\(48<=s/\s<=57)
 ·obtain⟨s,r,rfl,hs⟩:=hd;have HA:=J (Znr B R s r X w h hs);have hdg:dgB s=true:=Zh hs;clear h;by_cases h0:s=48
  ·have e:nmP (s::r)=some (0,r):=by rw[nmP,Zd hdg,Zd h0]
   rw[e];subst h0;clear e hdg;go_enter func305,ntmps305
   go_wp2_with fail
   refine ZM HA.out ?_;rintro w1 ⟨h1,k1⟩;have H1:=J h1;have K1:=J k1;clear h1 k1 HA;go_wp2;go_ret;exact⟨rfl,H1.out,K1.out⟩
  ·have hp:0<s-48:=by omega
   cases r with
   |nil=>
    have e:nmP (s::[])=some (s-48,[]):=(by rw[nmP,Zd hdg,Za h0];rfl);rw[e];clear e hdg;go_enter func305,ntmps305
    go_wp2_with fail
    refine ZM HA.out ?_;rintro w1 ⟨h1,k1⟩;obtain⟨ta,tc,c0⟩:=Zlp h1;have H1:=J h1;have K1:=J k1;clear h1 k1 HA;go_wp2;go_ret;exact⟨rfl,H1.out,K1.out⟩
   |cons d r2=>
    by_cases hd2:48<=d/\d<=57
    ·have hdd:dgB d=true:=Zh hd2;have e:nmP (s::d::r2)=some ((s-48)*10+(d-48),r2):=(by rw[nmP,Zd hdg,Za h0,nm2,Zd hdd]);rw[e];have hw1:IntKind.i64.wrap ((s-48)*10)=(s-48)*10:=(by rw[ZY];omega);have hw2:IntKind.i64.wrap ((s-48)*10+(d-48))=(s-48)*10+(d-48):=(by rw[ZY];omega);clear e hdg hdd;go_enter func305,ntmps305
     go_wp2_with fail
     refine ZM HA.out ?_;rintro w1 ⟨h1,k1⟩;obtain⟨b,off,tc,ad,cp,c0,f0,c1,c2,hh1,hh2,HT⟩:=ZfH h1;have h6:(0:Int)<(r2.length:Int)+1:=(by omega);have h7:(0:Int)<((r2.length+1:Nat):Int):=(by omega);have HD:=J (Znr B R d r2 X w1 h1 hd2);have K1:=J k1;clear h1 k1 HA HT;go_wp2_with (go_at_call 64;refine Zc (ZpB _ _ _ _ hd2) ?_)
     refine ZM HD.out ?_;rintro w2 ⟨h2,k2⟩;have H2:=J h2;have K2:=J (ZjH K1.out k2);clear h2 k2 HD;go_wp2;go_ret;exact⟨rfl,H2.out,K2.out⟩
    ·have hdd:¬dgB d=true:=(by unfold dgB;rw[ZD1];exact hd2);have e:nmP (s::d::r2)=some (s-48,d::r2):=(by rw[nmP,Zd hdg,Za h0,nm2,Za hdd]);rw[e];clear e hdg hdd;go_enter func305,ntmps305
     go_wp2_with fail
     refine ZM HA.out ?_;rintro w1 ⟨h1,k1⟩;obtain⟨b,off,tc,ad,cp,c0,f0,c1,c2,hh1,hh2,HT⟩:=ZfH h1;have h6:(0:Int)<(r2.length:Int)+1:=(by omega);have h7:(0:Int)<((r2.length+1:Nat):Int):=(by omega);have H1:=J h1;have K1:=J k1;clear h1 k1 HA HT;go_wp2_with (go_at_call 64;refine Zc (ZmF _ _ _ _ hd2) ?_)
     go_ret;exact⟨rfl,H1.out,K1.out⟩
 ·have hn:nmP u=none:=by
   cases u with
   |nil=>rfl
   |cons s r=>rw[nmP,Za (by unfold dgB;rw[ZD1];exact λh9=>hd ⟨s,r,rfl,h9⟩)]
  rw[hn];have HA:=J (ZuA B R u X w h (λs r e h9=>hd ⟨s,r,e,h9⟩));clear h hd hn;go_enter func305,ntmps305
  go_wp2_with fail
  refine HA.out.mono ?_;rintro e w2 ⟨⟨tv,v,rfl⟩,k2⟩;have K2:=J k2;clear k2;go_wp2;exact⟨rfl,⟨_,_,rfl⟩,K2.out⟩
theorem ZvV:(prog.info? 204).map (λi=>(i.zero,i.size,i.bytes))=some (some (.agg #[I 0,.bool false,.slice none 0 0,I 0,I 0,I 0,I 0]),7,72):=by kernel_rfl
theorem Zvf:(prog.info? 238).map (λi=>(i.zero,i.size,i.bytes))=some (some (.agg #[I 0,I 0]),2,16):=by kernel_rfl
theorem ZfO{w w':World}{row:Option Nat}(h:w.drew.grownBy w' row):w.grownBy w' row:=⟨h.os,h.tape,h.output,h.size,h.block⟩
section
variable {S:Nat->Prop} {w w':World} {B R:Nat} {u:List Int} {X:List Nd}
theorem ZgX(h:RD S B R w u X)(k:ZL w w'):RD S B R w' u X:=by
 obtain⟨h0,ta,tc,ad,c,h1,h2,h3⟩:=h;have hlt:=Zk1 h1;exact⟨h0,ta,tc,ad,c,(k.block R hlt).trans h1,ZbG h2 (k.mono (by omega)),Zen h3.1 k,h3.2⟩
theorem ZyI{nd:Nd}{na:Option Addr}{nc:Nat}{gg cap':Nat}{w9:World}{o:Obj}{ta ad:Option Addr}{tc c:Nat}{xs:List Value}(h0:B<=R)(h1:XR w R ta u.length tc ad X.length c)(h2:Tx B w ta tc u)(hown:w.ownsRow B 204 7 (.slice ad X.length c) X.length xs)(hits:Zgv 500 S w xs X)(hdj:Dj7 xs X.length)(hL:nd.L.length<=500)(hS:∀j,S j->B<=j)
  (ho:w.ownsRow 0 238 2 (.slice na nd.L.length nc) nd.L.length (prV nd.L)) (hk:∀k,(Value.slice na nd.L.length nc).ownBlock=some k->B<=k/\¬S k)
  (hown9:w9.ownsRow B 204 7 (.slice (some ⟨gg,0,none⟩) (X.length+1) cap') (X.length+1) (xs++ndV nd na nc)) (hg:(w.alloc o).grownBy w9 (Value.slice ad X.length c).ownBlock) (hgB:B<=gg):
  w9.cell? ⟨R,1,none⟩=some (.slice ad X.length c)/\w9.frozen? ⟨R,1,none⟩=false/\RD (λj=>B<=j) B R (w9.setCell ⟨R,1,none⟩ (.slice (some ⟨gg,0,none⟩) (X.length+1) cap')) u (X++[nd])/\Below B w (w9.setCell ⟨R,1,none⟩ (.slice (some ⟨gg,0,none⟩) (X.length+1) cap')):=by
 have hlt:=Zk1 h1;have hkp:Kp (λj=>(Value.slice ad X.length c).ownBlock=some j) w w9:=(Zay w o).trans (Zca (S:=λj=>(Value.slice ad X.length c).ownBlock=some j) hg (λj hj=>hj)) (λj _ hj=>hj);have r9:XR w9 R ta u.length tc ad X.length c:=(hkp.block R hlt (λe=>Zbf hown e h1 (by decide) rfl)).trans h1;have b9:Below B w w9:=ZaB hkp (by omega) (λk hk9=>(hown.lt k hk9).1);have ks:=Zd9 w9 R 1 (.slice (some ⟨gg,0,none⟩) (X.length+1) cap');have bs:Below B w9 (w9.setCell ⟨R,1,none⟩ (.slice (some ⟨gg,0,none⟩) (X.length+1) cap')):=ZaB ks (by have:=hkp.size;omega) (λj hj=>by have hj':j=R:=hj;omega);have i1:Zgv 500 (λj=>B<=j) w xs X:=ZjI hits (λk _ hs=>hS k hs);have i2:=Zlw i1 hown.1 ho (λk hk9=>(hk k hk9).1) hL;have d2:=Zor hdj hown.1 (nd:=nd) (ad:=na) (cp:=nc) (λj k hj hk9 e=>(hk k e).2 (Zqy hits hj hk9).1);have i3:=Zh2 i2 hkp (λB' z n v ys j hv hj _ e=>Zwz hv hj hown e (by decide) rfl);have hl:(X++[nd]).length=X.length+1:=by simp
 refine⟨(ZdH r9).2,Zlj r9 1,⟨h0,ta,tc,some ⟨gg,0,none⟩,cap',?_,ZbG (ZbG h2 b9) bs,?_,λk hk9=>by have h9:gg=k:=(by simpa[Value.ownBlock] using hk9);omega⟩,b9.trans bs⟩
 ·rw[hl];exact ZC8 r9 _ _ _
 ·refine ZCU r9 ⟨_,?_,i3,?_⟩ ks
  ·rw[hl];exact hown9
  ·rw[hl];exact d2
theorem ZAB{nk:Int}{nt:Bool}{L:List (Int×Int)}{a b mn mx:Int}{na:Option Addr}{nc nL m:Nat}{gg cap':Nat}{w9:World}{o:Obj}{ta ad:Option Addr}{tc c:Nat}{xs:List Value}(hm:X.length=m)(hnL:L.length=nL)(h0:B<=R)(h1:XR w R ta u.length tc ad X.length c)(h2:Tx B w ta tc u)(hown:w.ownsRow B 204 7 (.slice ad m c) m xs)(hits:Zgv 500 S w xs X)(hdj:Dj7 xs X.length)(hL:L.length<=500)(hS:∀j,S j->B<=j)
  (ho:w.ownsRow 0 238 2 (.slice na nL nc) nL (prV L)) (hk:∀k,(Value.slice na L.length nc).ownBlock=some k->B<=k/\¬S k)
  (hown9:w9.ownsRow B 204 7 (.slice (some ⟨gg,0,none⟩) (m+1) cap') (m+1) (xs++[I nk,.bool nt,.slice na nL nc,I a,I b,I mn,I mx])) (hg:(w.alloc o).grownBy w9 (Value.slice ad m c).ownBlock) (hat:(Value.slice ad m c).ownBlock=some gg\/gg=w.heap.size+1):
  w9.cell? ⟨R,1,none⟩=some (.slice ad m c)/\w9.frozen? ⟨R,1,none⟩=false/\RD (λj=>B<=j) B R (w9.setCell ⟨R,1,none⟩ (.slice (some ⟨gg,0,none⟩) (m+1) cap')) u (X++[⟨nk,nt,L,a,b,mn,mx⟩])/\Below B w (w9.setCell ⟨R,1,none⟩ (.slice (some ⟨gg,0,none⟩) (m+1) cap')):=by
 subst hm;subst hnL;refine ZyI (nd:=⟨nk,nt,L,a,b,mn,mx⟩) h0 h1 h2 hown hits hdj hL hS ho hk hown9 hg ?_;have:=Zk1 h1;rcases hat with e|e
 ·exact(hown.lt gg e).1
 ·omega
end
theorem Zmw{S:Nat->Prop}(B R:Nat)(u:List Int)(X:List Nd)(nd:Nd)(na:Option Addr)(nc:Nat)(w:World)(hX:X.length<=5000)(hL:nd.L.length<=500)(h:RD S B R w u X)(hS:∀j,S j->B<=j)(ho:w.ownsRow 0 238 2 (.slice na nd.L.length nc) nd.L.length (prV nd.L))(hk:∀k,(Value.slice na nd.L.length nc).ownBlock=some k->B<=k/\¬S k):
  Calls prog 260 #[.pointer (some ⟨R,0,none⟩),.agg #[I nd.k,.bool nd.nt,.slice na nd.L.length nc,I nd.a,I nd.b,I nd.mn,I nd.mx]] w λe w'=>e=.returned (.tuple #[])/\RD (λj=>B<=j) B R w' u (X++[nd])/\Below B w w':=by
 obtain⟨i0,hi0,hz0,hz1,hz2⟩:=info_parts ZvV;obtain⟨nk,nt,L,a,b,mn,mx⟩:=nd;obtain⟨nL,hnL⟩:=ZX L.length;have hbB:=Zg2 h;have bA:Below B w (w.alloc (.cells #[I nk,.bool nt,.slice na L.length nc,I a,I b,I mn,I mx] 204)):=(Ze B w).alloc hbB _;obtain⟨h0,ta,tc,ad,c,h1,h2,h3⟩:=ZgX h ((Ze w.heap.size w).alloc (Zb _) (.cells #[I nk,.bool nt,.slice na L.length nc,I a,I b,I mn,I mx] 204));have o1:=Zcd ho (Zay (S:=λ_=>False) w (.cells #[I nk,.bool nt,.slice na L.length nc,I a,I b,I mn,I mx] 204)) (λ_ _ x=>x);have hG:=Zz w (.cells #[I nk,.bool nt,.slice na L.length nc,I a,I b,I mn,I mx] 204);have hsz:w.heap.size<(w.alloc (.cells #[I nk,.bool nt,.slice na L.length nc,I a,I b,I mn,I mx] 204)).heap.size:=by simp
 simp only[hnL]at hG h1 h2 h3 o1 hsz bA;obtain⟨G,hGw⟩:=ZX w.heap.size;go_enter func260,ntmps260
 simp only[hnL];go_wp2_with fail
 obtain⟨W,hW⟩:=ZX (w.alloc (.cells #[I nk,.bool nt,.slice na nL nc,I a,I b,I mn,I mx] 204));rw[hGw]at hG hsz;rw[hW]at hG h1 h2 h3 o1 hsz bA;rw[hW];clear hW;obtain⟨xs,hown,hits,hdj⟩:=h3.1;have hBW:B<=W.heap.size:=by omega
 have hRW:=Zk1 h1;have cG:∀i,W.drew.cell? ⟨G,i,none⟩=(#[I nk,.bool nt,.slice na nL nc,I a,I b,I mn,I mx]:Array Value)[i]?:=λi=>by rw[ZO W.drew G i _ _ (0,0) hG]
 have g0:W.drew.cell? ⟨G,0,none⟩=some (I nk):=cG 0;have g1:W.drew.cell? ⟨G,1,none⟩=some (.bool nt):=cG 1;have g2:W.drew.cell? ⟨G,2,none⟩=some (.slice na nL nc):=cG 2;have g3:W.drew.cell? ⟨G,3,none⟩=some (I a):=cG 3;have g4:W.drew.cell? ⟨G,4,none⟩=some (I b):=cG 4;have g5:W.drew.cell? ⟨G,5,none⟩=some (I mn):=cG 5;have g6:W.drew.cell? ⟨G,6,none⟩=some (I mx):=cG 6;have r1:W.drew.cell? ⟨R,1,none⟩=some (.slice ad X.length c):=(ZdH (w:=W.drew) h1).2;have r1a:∀o,(W.alloc o).cell? ⟨R,1,none⟩=some (.slice ad X.length c):=λo=>(ZdH (w:=W.alloc o) ((Zay (S:=λ_=>False) W o).block R hRW (λx=>x) |>.trans h1)).2
 have r1b:∀o,(W.alloc o).drew.cell? ⟨R,1,none⟩=some (.slice ad X.length c):=λo=>r1a o
 have H1:=J h1;have H2:=J h2;have HOW:=J hown;have HIT:=J hits;have HDJ:=J hdj;have HS:=J hS;have HK:=J hk;have HO:=J o1;have HA:=J bA;obtain⟨m,hm⟩:=ZX X.length;have HM:=J hm;rw[hm]at r1 r1a r1b hX HOW;clear cG h1 h2 hown hits hdj hS hk o1 bA h ho hG hm hGw hbB
 go_region_law (first
  |(refine step_append_lies _ (by rfl) _ _ _ (by rfl) B 204 i0 _ 7 72 underlying57 hi0 hz0 hz1 hz2 rfl (by omega) (.slice ad m c) m xs (by rfl) (HOW.out.alloc _).drew ⟨W.heap.size,0,none⟩ 1 1 [I nk,.bool nt,.slice na nL nc,I a,I b,I mn,I mx] (by rfl) (by rfl) (World.news_of_block (cs:=#[I nk,.bool nt,.slice na nL nc,I a,I b,I mn,I mx]) (t:=204) (fr:=(0,0)) (Zz W _)) (by simp[Value.oneCell']) (by omega) (by unfold maxLen;omega) (by omega) (by simp;omega) (W.heap.size+1) (by simp) ?_;intro gg cap' w9 hown9 hgrow9 hat9 hlt9;have hgr9:=ZfO hgrow9;obtain⟨hc9,hf9,h9,hb9⟩:=ZAB HM.out hnL h0 H1.out H2.out HOW.out HIT.out HDJ.out hL HS.out HO.out HK.out hown9 hgr9 hat9;have H9:=J h9;have HB9:=J (HA.out.trans hb9);clear hown9 hgrow9 hgr9 hat9 h9 hb9)
  |(fail))
 all_goals
  go_wp2
  go_end0
  exact⟨rfl,H9.out,HB9.out⟩
end
end Go.Proofs.YtcdnilpdohknfaaGreatDoor
