import Derived.Test.YtcdnilpdohknfaaGreatDoorJ6
import Derived.Laws.IdiomStrings
import Derived.Defers
import Derived.Laws.Pointers
import Derived.Laws.LoneSync
import Derived.RegionCalls
import Derived.ChangeAlike
import Derived.Lib.RuneBytes
import Derived.Outline
set_option linter.unusedVariables false
set_option linter.unusedSimpArgs false
set_option maxRecDepth 100000
set_option maxHeartbeats 16000000
namespace Go.Proofs.YtcdnilpdohknfaaGreatDoor
open Tryz
section
open Go.RowKit Go.Joins
theorem ZxO(y mo d h mi s:Int)(g:Bool)(z:Int)(w:World)(h0 : -840<=z)(h1:z<=840)(htab:Lib.TabIs prog w "internal/strconv.uint64pow10" .u64 Lib.pow10Tab):Calls prog 173 #[.agg #[I y,I mo,I d,I h,I mi,I s,.bool g,I z]] w λe w'=>e=.returned (.string (Zcq g z))/\ZL w w':=by
 have HT:=J (ZcA htab (ZbU w (.cells #[I y,I mo,I d,I h,I mi,I s,.bool g,I z] 78)));clear htab;cases g
 ·go_enter func173,ntmps173
  go_wp2;go_ret;exact⟨ZdJ (by simp[Zcq]),ZbU _ _⟩
 ·rcases(show z=0\/z<0\/0<z by omega) with hz|hz|hz
  ·subst hz;go_enter func173,ntmps173
   go_wp2;go_ret;exact⟨ZdJ (by simp[Zcq];rfl),ZbU _ _⟩
  ·obtain⟨u,rfl⟩:∃u,z = -u:=⟨-z,by omega⟩;have u0:0<u:=by omega
   have u1:u<=840:=by omega
   have e0:(-u==0)=false:=by simp;omega
   obtain⟨x,hx⟩:=ZX (ZbS (u/60) (u%60));have sx:x.size<=5:=by rw[<-hx,Zfh];omega
   have HX:=J hx;clear hx;go_enter func173,ntmps173
   go_wp2_with fail
   first
    |refine(ZmB (u/60) (u%60) _ (by omega) (by omega) (by omega) (by omega) HT.out).mono ?_
    |(trace_state;fail)
   rintro e w1 ⟨rfl,hb1⟩;rw[HX.out];have HB1:=J (Za4 hb1);clear hb1;go_wp2;go_ret;exact⟨ZdJ (by simp only[Zcq,ZQ,if_false];rw[Za (by omega),Zd (by omega),Int.neg_neg,HX.out];rfl),HB1.out⟩
  ·have e0:(z==0)=false:=by simp;omega
   have e1:¬z<0:=by omega
   obtain⟨x,hx⟩:=ZX (ZbS (z/60) (z%60));have sx:x.size<=5:=by rw[<-hx,Zfh];omega
   have HX:=J hx;clear hx;go_enter func173,ntmps173
   go_wp2_with fail
   refine ZM (ZmB (z/60) (z%60) _ (by omega) (by omega) (by omega) (by omega) HT.out) ?_;rintro w1 hb1;rw[HX.out];have HB1:=J (Za4 hb1);clear hb1;go_wp2;go_ret;exact⟨ZdJ (by simp only[Zcq,ZQ,if_false];rw[Za (by omega),Za (by omega),HX.out];rfl),HB1.out⟩
end
section
open Go.RowKit
def Zuq(w:World)(g:Nat)(l:List UInt8):Prop:=∃(cs:Array Value) (n:Nat),w.heap[g]?=some (.cells cs 5 (n,n+1))/\l.length<=n/\n=cs.size/\∀(j:Nat) (c:UInt8),l[j]?=some c->cs[j]?=some (Value.int .u8 c.toNat)
section
variable {w w':World} {g:Nat} {l:List UInt8}
theorem Zhk(h:Zuq w g l){j:Nat}{c:UInt8}(hj:l[j]?=some c):w.cell? ⟨g,j,none⟩=some (.int .u8 c.toNat):=by
 obtain⟨cs,n,h1,h2,h3,h4⟩:=h;rw[ZO w g j cs _ _ h1];exact h4 j c hj
theorem ZgH(h:Zuq w g l){j:Nat}(hj:j<l.length):w.frozen? ⟨g,j,none⟩=false:=by
 obtain⟨cs,n,h1,h2,h3,h4⟩:=h;simp[World.frozen?,h1];omega
theorem ZmT(h:Zuq w g l)(i:Nat)(x:UInt8):Zuq (w.setCell ⟨g,i,none⟩ (.int .u8 x.toNat)) g (l.set i x):=by
 obtain⟨cs,n,h1,h2,h3,h4⟩:=h;refine⟨cs.setIfInBounds i (.int .u8 x.toNat),n,by simp[World.setCell,Array.getElem?_modify,h1],by simpa using h2,by simpa using h3,λj c hj=>?_⟩;by_cases e:i=j
 ·subst e;have hl:i<l.length:=by
   have:=(List.getElem?_eq_some_iff.1 hj).1;simpa using this
  rw[List.getElem?_set_self hl]at hj;cases hj;rw[Array.getElem?_setIfInBounds,Zd rfl,Zd (by omega)]
 ·rw[List.getElem?_set_ne e]at hj;rw[Array.getElem?_setIfInBounds_ne e];exact h4 j c hj
theorem ZnH(w:World)(s:ZB):∃cap w1,(convert 9 22 (.string s)).run prog w=.ok (.slice (some ⟨w.heap.size,0,none⟩) s.size cap) w1/\Zuq w1 w.heap.size s.data.toList/\ZL w w1:=by
 refine⟨_,_,run_bytes_of_string w 9 22 5 s underlying9 underlying22 underlying5,⟨bytesRow s (grownCap w s.size 0 5),_,Zz w.drew _,?_,rfl,λj c hj=>?_⟩,((Ze _ _).drew).alloc (Zb _) _⟩
 ·unfold bytesRow;simp
 ·unfold bytesRow;have hj2:=(List.getElem?_eq_some_iff.1 hj).1;rw[Array.getElem?_append_left (by simpa using hj2)];rw[Array.getElem?_map];have e:s.data[j]?=some c:=by simpa using hj
  rw[e];rfl
theorem Zn1(h:Zuq w g l)(cap:Nat):(convert 22 9 (.slice (some ⟨g,0,none⟩) l.length cap)).run prog w=.ok (.string ⟨l.toArray⟩) w:=by
 refine run_convert_bytes_back w 22 9 5 ⟨g,0,none⟩ cap l underlying22 underlying5 underlying9 (λj hj=>?_);have hadd:(⟨g,0,none⟩:Addr).add j=⟨g,j,none⟩:=by unfold Addr.add;split<;>simp_all
 rw[hadd];exact Zhk h (Zv hj)
end
theorem ZAQ(c:UInt8):ZlP 3 c.toNat=((if blB c=true then (32:UInt8) else c).toNat:Int):=by
 have e:∀d:UInt8,c.toNat=d.toNat↔c=d:=λd=>UInt8.toNat_inj
 have e13:=e 13;have e10:=e 10;have e9:=e 9;have e32:=e 32;simp only[UInt8.reduceToNat]at e13 e10 e9 e32;unfold ZlP blB;by_cases h1:c=13
 ·subst h1;rfl
 ·by_cases h2:c=10
  ·subst h2;rfl
  ·by_cases h3:c=9
   ·subst h3;rfl
   ·have f1:¬c.toNat=13:=λh=>h1 (e13.1 h)
    have f2:¬c.toNat=10:=λh=>h2 (e10.1 h)
    have f3:¬c.toNat=9:=λh=>h3 (e9.1 h)
    by_cases h4:c=32
    ·subst h4;rfl
    ·simp[h1,h2,h3,h4,f1,f2,f3]
def Zir(l:List UInt8)(i:Nat):List UInt8:=reB (l.take i)++l.drop i
theorem Zk4(l:List UInt8):Zir l 0=l:=by simp[Zir,reB]
theorem ZfL(l:List UInt8)(i:Nat):(Zir l i).length=l.length:=by
 unfold Zir reB;simp;omega
theorem Znb(l:List UInt8):Zir l l.length=reB l:=by simp[Zir]
theorem ZlB{l:List UInt8}{i:Nat}{c:UInt8}(h:l[i]?=some c):Zir l (i+1)=(Zir l i).set i (if blB c=true then 32 else c):=by
 have hi:=(List.getElem?_eq_some_iff.1 h).1;apply List.ext_getElem?;intro j;unfold Zir reB;by_cases e:i=j
 ·subst e;rw[List.getElem?_set_self (by simp;omega),List.getElem?_append_left (by simp;omega),List.getElem?_map,List.getElem?_take,Zd (by omega),h];rfl
 ·rw[List.getElem?_set_ne e];by_cases hj:j<i
  ·rw[List.getElem?_append_left (by simp;omega),List.getElem?_append_left (by simp;omega),List.getElem?_map,List.getElem?_map,List.getElem?_take,List.getElem?_take,Zd (by omega),Zd hj]
  ·rw[List.getElem?_append_right (by simp;omega),List.getElem?_append_right (by simp;omega),List.getElem?_drop,List.getElem?_drop];congr 1;simp;omega
theorem ZhB{l:List UInt8}{i:Nat}{c:UInt8}(h:l[i]?=some c):(Zir l i)[i]?=some c:=by
 have hi:=(List.getElem?_eq_some_iff.1 h).1;unfold Zir reB;rw[List.getElem?_append_right (by simp;omega),List.getElem?_drop];rw[<-h];congr 1;simp;omega
theorem Zv7(u:ZB)(k:Nat)(h:k<u.size):u.data.toList[k]?=some u[k]:=by
 rw[Zv (by simpa using h)];rfl
def ZA0(s:ZB)(w:World)(e:Ending)(w':World):Prop:=e=.returned (.string ⟨(reB s.data.toList).toArray⟩)/\ZL w w'
def BuR(s:ZB)(w wr:World)(v:Value)(i:Nat):Prop:=(v=.slice none 0 0/\Zir s.data.toList i=s.data.toList)\/∃g cap,v=.slice (some ⟨g,0,none⟩) s.size cap/\w.heap.size<=g/\Zuq wr g (Zir s.data.toList i)
theorem ZAi{w w':World}{G:Nat}{f:Nat->Int}(h:Tab w G f)(hb:ZL w w'):Tab w' G f:=by
 have hl:=Zsc h;obtain⟨cs,h1,h2⟩:=h;exact⟨cs,(hb.block G hl).trans h1,h2⟩
theorem ZpZ{w w':World}{G B:Nat}{f:Nat->Int}(h:Tab w G f)(hb:Below B w w')(hG:G<B):Tab w' G f:=by
 obtain⟨cs,h1,h2⟩:=h;exact⟨cs,(hb.block G hG).trans h1,h2⟩
theorem Zpv{P:Program}{t e:TypeId}(h:P.underlying t=some (.slice e))(w:World)(d g n c:Nat):
  (Op.equalIn (d+1) t (.slice (some ⟨g,0,none⟩) n c) (.slice none 0 0)).run P w=.ok false w:=by
 simp[Op.equalIn,run_underlying h]
theorem ZqC{P:Program}{t e:TypeId}(h:P.underlying t=some (.slice e))(w:World)(g n c:Nat):
  (binOp .eql t (.slice (some ⟨g,0,none⟩) n c) (.slice none 0 0)).run P w=.ok (.bool false) w:=by
 simp only[binOp];simp[Op.equal,Op.maxDepth,Zpv h w 9999 g n c]
theorem ZBN(G:Nat)(s:ZB)(w:World)(hs:s.size<=1048576)(hT:Tab w G (ZlP 3)):
  Calls prog 333 #[.pointer (some ⟨G,0,none⟩),.string s] w (ZA0 s w):=by
 have HT0:=J hT;have hGl:=Zsc hT;clear hT;have hu:(prog).underlying 22=some (.slice 5):=by kernel_rfl
 have hq0:∀w:World,(binOp BinOp.eql 22 (.slice none 0 0) (.slice none 0 0)).run prog w=.ok (.bool true) w:=λ_=>by kernel_rfl
 have hq1:∀(w:World) (g cap:Nat),(binOp BinOp.eql 22 (.slice (some ⟨g,0,none⟩) s.size cap) (.slice none 0 0)).run prog w=.ok (.bool false) w:=λw g cap=>ZqC hu w g s.size cap
 clear hu;go_enter func333,ntmps333
 go_wp2_with fail
 go_loopw [5,6,7] (λv5 v6 v7 wr=>∃i:Nat,i<=s.size/\v6=I i/\Hid (BuR s w wr v5 i)/\Hid (ZL w wr)) (λ_ v6 _ _=>s.size-(Zi v6).toNat)
 case atStart=>exact⟨0,Zx _,rfl,J (.inl ⟨rfl,Zk4 _⟩),J (Ze _ _)⟩
 case round=>
  obtain⟨i,hi,rfl,HR,HB⟩:=hrel;have HT:=J (ZpZ HT0.out HB.out hGl);by_cases hlt:i<s.size
  ·have hii:(i:Int)<(s.size:Int):=by omega
   have hi0:(0:Int)<=(i:Int):=by omega
   have hat:=Zv7 s i hlt;obtain⟨c,hc⟩:=ZX (s[i]);have hcl:c.toNat<256:=c.toNat_lt;rw[hc]at hat;have HAT:=J hat;have tc:=Ze2 HT.out c.toNat hcl;rw[ZAQ]at tc;have HN:=J (ZlB hat);clear hat;have hc256:(c.toNat:Int)<256:=by omega
   obtain⟨X,hX⟩:=ZX (if blB c=true then (32:UInt8) else c);rw[hX]at tc HN;clear hX;by_cases hx:X=c
   ·subst hx;have HM:Hid (Zir s.data.toList (i+1)=Zir s.data.toList i):=J (by
     rw[HN.out];apply List.ext_getElem?;intro j;by_cases e:i=j
     ·subst e;rw[ZhB HAT.out,List.getElem?_set_self (by rw[ZfL];simpa using hlt)]
     ·rw[List.getElem?_set_ne e])
    have HR2:Hid (∀v,BuR s w wr v i->BuR s w wr v (i+1)):=J (λv h=>by unfold BuR at h ⊢;rw[HM.out];exact h);clear HN HM;go_wp2
    go_roundw
    case rel=>exact⟨i+1,by omega,by go_num,J (HR2.out _ HR.out),HB⟩
    case measure=>simp[Zi];omega
   ·have hne:((X.toNat:Int) != (c.toNat:Int))=true:=by
     have:X.toNat≠c.toNat:=λe=>hx (UInt8.toNat_inj.1 e)
     simp;omega
    rcases HR.out with ⟨hv,hm⟩|⟨g,cap,hv,hg,hbf⟩
    ·subst hv;obtain⟨cap,w1,hcv,hbf,hb1⟩:=ZnH wr s;have HT1:=J (ZAi HT.out hb1);have tc1:=Ze2 HT1.out c.toNat hcl;have tcx:w1.cell? ⟨G,c.toNat,none⟩=some (.int .u8 (X.toNat:Int)):=(hb1.cell (p:=⟨G,c.toNat,none⟩) (Zsc HT.out)).trans tc;have hbf2:Zuq w1 wr.heap.size (Zir s.data.toList i):=(by rw[hm];exact hbf);have HBF:=J (ZmT hbf2 i X);rw[<-HN.out]at HBF;have bc:=Zhk hbf2 (ZhB HAT.out);have bf:=ZgH hbf2 (j:=i) (by rw[ZfL];simpa using hlt);have HB2:=J ((HB.out.trans (hb1.mono HB.out.size)).setCell (p:=⟨wr.heap.size,i,none⟩) HB.out.size (.int .u8 (X.toNat:Int)));have hwg:=HB.out.size;clear hbf hbf2 hb1 tc1 HN hm;go_wp2
     go_roundw
     case rel=>exact⟨i+1,by omega,by go_num,J (.inr ⟨wr.heap.size,cap,rfl,hwg,HBF.out⟩),HB2⟩
     case measure=>simp[Zi];omega
    ·subst hv;have HBF:=J (ZmT hbf i X);rw[<-HN.out]at HBF;have bc:=Zhk hbf (ZhB HAT.out);have bf:=ZgH hbf (j:=i) (by rw[ZfL];simpa using hlt);have HB2:=J (HB.out.setCell (p:=⟨g,i,none⟩) hg (.int .u8 (X.toNat:Int)));clear hbf HN;go_wp2
     go_roundw
     case rel=>exact⟨i+1,by omega,by go_num,J (.inr ⟨g,cap,rfl,hg,HBF.out⟩),HB2⟩
     case measure=>simp[Zi];omega
  ·have e:i=s.size:=by omega
   subst e;have hii:¬(s.size:Int)<(s.size:Int):=by omega
   have hml:Zir s.data.toList s.size=reB s.data.toList:=by
    have:=Znb s.data.toList;simpa using this
   rcases HR.out with ⟨hv,hm⟩|⟨g,cap,hv,hg,hbf⟩
   ·subst hv;rw[hml]at hm;have HM:=J hm;clear hm hml;go_wp2;go_ret;refine⟨?_,HB.out⟩;rw[HM.out];show Ending.returned (Value.string s)=_;rw[Array.toArray_toList]
   ·subst hv;rw[hml]at hbf;have hl:(reB s.data.toList).length=s.size:=(by simp[reB]);have hcv:=Zn1 hbf cap;rw[hl]at hcv;clear hml hl hbf;go_wp2;go_ret;exact⟨rfl,HB.out⟩
section
variable {w:World} {R:Nat} {a b c:Int} {f s:Value}
theorem ZjX(h:Rep w R a b c f s)(x:Int):Rep (w.setCell ⟨R,0,none⟩ (.int .u32 x)) R x b c f s:=ZEk w R 0 _ _ _ h
theorem Zoo(h:Rep w R a b c f s)(x:Int):Rep (w.setCell ⟨R,1,none⟩ (.int .i32 x)) R a x c f s:=ZEk w R 1 _ _ _ h
theorem Zty(h:Rep w R a b c f s)(x:Value):Rep (w.setCell ⟨R,3,none⟩ x) R a b c x s:=ZEk w R 3 _ _ _ h
theorem Zu8(h:Rep w R a b c f s)(x:Value):Rep (w.setCell ⟨R,4,none⟩ x) R a b c f x:=ZEk w R 4 _ _ _ h
theorem Zsf(h:Rep w R a b c f s):R<w.heap.size:=(Array.getElem?_eq_some_iff.1 h).1
theorem ZkY{w':World}{B:Nat}(h:Rep w R a b c f s)(hb:Below B w w')(hR:R<B):Rep w' R a b c f s:=(hb.block R hR).trans h
theorem Zj9(h:Rep w R a b c f s):Rep w.drew R a b c f s:=h
theorem Zj4{G:Nat}{t:Nat->Int}(h:Tab w G t)(p:Addr)(v:Value)(hp:p.block≠G):Tab (w.setCell p v) G t:=by
 obtain⟨cs,h1,h2⟩:=h;exact⟨cs,(by rw[<-h1];simp[World.setCell,Array.getElem?_modify,hp]),h2⟩
end
theorem ZlN(w:World):(callFunc 228 #[]).run prog w=.ok (.value (.tuple #[])) w:=run_call_mark0 func228 (by kernel_rfl) (by kernel_rfl) (by kernel_rfl) .disable (by kernel_rfl) w
theorem Zoc(w:World):(callFunc 230 #[]).run prog w=.ok (.value (.tuple #[])) w:=run_call_mark0 func230 (by kernel_rfl) (by kernel_rfl) (by kernel_rfl) .enable (by kernel_rfl) w
theorem Zqd(a:Addr)(w:World):(callFunc 231 #[.pointer (some a)]).run prog w=.ok (.value (.tuple #[])) w:=run_call_marked func231 (by kernel_rfl) (by kernel_rfl) (by kernel_rfl) .acquire (by kernel_rfl) a w
theorem Zqc(a:Addr)(w:World):(callFunc 233 #[.pointer (some a)]).run prog w=.ok (.value (.tuple #[])) w:=run_call_marked func233 (by kernel_rfl) (by kernel_rfl) (by kernel_rfl) .releaseMerge (by kernel_rfl) a w
theorem Zxg(p:Addr)(x:Value)(u:FrameMode)(w:World)(hc:w.cell? p=some x)(hz:w.frozen? p=false):
  CallsD prog 149 #[.pointer (some p),.bool true] u w λe u' w'=>u'=u/\(e=.returned (.tuple #[])/\w'=w.drew.setCell p (.int .u32 1)):=by
 have hc':w.drew.cell? p=some x:=by go_simp
 have hz':w.drew.frozen? p=false:=by go_simp
 have hst:=run_call_store (P:=prog) func193 (by kernel_rfl) (by kernel_rfl) (by kernel_rfl) (by kernel_rfl) (k:=.u32) (y:=1) hc' hz'
 go_enter_d func149,ntmps149
 go_wp2
 go_region_calls
 all_goals (go_end0;exact⟨rfl,rfl⟩)
theorem ZuG(p:Addr)(u:FrameMode)(w:World)(hc:w.cell? p=some (.int .i32 1))(hz:w.frozen? p=false):
  CallsD prog 148 #[.pointer (some p)] u w λe u' w'=>u'=u/\(e=.returned (.tuple #[])/\w'=w.setCell p (.int .i32 0)):=by
 have hd:=ZlN;have he:=Zoc;have hr:=Zqc;have hadd:=run_call_add (P:=prog) func234 (by kernel_rfl) (by kernel_rfl) (by kernel_rfl) .i32 (by kernel_rfl) (y := -1) (s:=0) hc hz (by simp[go_sem];rfl);have hcv:=run_convert_to_unsafe (P:=prog) (src:=248) (dst:=179) underlying248 underlying179 (by kernel_rfl) hc
 go_enter_d func148,ntmps148
 go_wp2
 go_end0
 go_wp2;all_goals (go_end0;exact⟨rfl,rfl⟩)
theorem Zz7(p:Addr)(w:World)(hc:w.cell? p=some (.int .i32 0))(hz:w.frozen? p=false):
  Calls prog 147 #[.pointer (some p)] w λe w'=>e=.returned (.tuple #[])/\w'=w.setCell p (.int .i32 1):=by
 have hd:=ZlN;have he:=Zoc;have ha:=Zqd;have hcas:=run_call_cas_hit (P:=prog) func229 (by kernel_rfl) (by kernel_rfl) (by kernel_rfl) .i32 (by kernel_rfl) (y:=1) hc hz;have hc':(w.setCell p (.int .i32 1)).cell? p=some (.int .i32 1):=World.cell?_setCell_same w p _ hc;have hcv:=run_convert_to_unsafe (P:=prog) (src:=248) (dst:=179) underlying248 underlying179 (by kernel_rfl) hc';go_enter func147,ntmps147
 go_wp2;first|go_end0|(simp only[Exit.inBlock,Exit.then];refine bodyPost_ret (results_none rfl _ _ _) rfl ?_)|refine bodyPost_ret (results_none rfl _ _ _) rfl ?_
 go_wp2;all_goals (go_end0;exact⟨rfl,rfl⟩)
def ZB1(G:Nat):Value:=.iface 174 (.pointer (some ⟨G,0,none⟩))
def ZpA(a b:Int)(R:Nat)(w w':World):Prop:=∃G,w.heap.size<=G/\Rep w' R a b 0 (ZB1 G) (.slice none 0 0)/\Tab w' G (ZlP 3)/\Below R w w'
theorem ZqK{R G:Nat}{w w1:World}{s:Value}(hR:Rep w R 0 1 0 .nilIface s)(hG:w.heap.size<=G)(hT:Tab w1 G (ZlP 3))(hb:ZL w w1):
  ZpA 0 1 R w ((w1.setCell ⟨R,3,none⟩ (ZB1 G)).setCell ⟨R,4,none⟩ (.slice none 0 0)):=by
 have hl:=Zsf hR;have h1:=ZkY hR hb hl;refine⟨G,hG,Zu8 (Zty h1 _) _,Zj4 (Zj4 hT _ _ ?_) _ _ ?_,((hb.mono (Nat.le_of_lt hl)).setCell (p:=⟨R,3,none⟩) (Zb R) _).setCell (p:=⟨R,4,none⟩) (Zb R) _⟩
 ·show R≠G;omega
 ·show R≠G;omega
theorem Zpx{R:Nat}{w w1:World}(h:ZpA 0 1 R (w.setCell ⟨R,1,none⟩ (.int .i32 1)) w1):ZpA 1 0 R w ((w1.drew.setCell ⟨R,0,none⟩ (.int .u32 1)).setCell ⟨R,1,none⟩ (.int .i32 0)):=by
 obtain⟨G,hG,h1,hT,hb⟩:=h;have hG':w.heap.size<=G:=by simpa[World.setCell] using hG
 have hb':Below R w w1:=((Ze R w).setCell (p:=⟨R,1,none⟩) (Zb R) _).trans hb;have hne:R≠G:=by
  intro e;subst e;obtain⟨cs,hc,-⟩:=hT;unfold Rep at h1;rw[hc]at h1;injection h1 with h1
  injection h1 with h1 h2
  exact absurd h2 (by decide)
 exact⟨G,hG',Zoo (ZjX (Zj9 h1) 1) 0,Zj4 (Zj4 (w:=w1.drew) hT _ _ hne) _ _ hne,(hb'.drew.setCell (p:=⟨R,0,none⟩) (Zb R) _).setCell (p:=⟨R,1,none⟩) (Zb R) _⟩
theorem ZBg(R g cap:Nat)(B:Nat)(w:World)(hR:Rep w R 0 1 0 .nilIface (.slice (some ⟨g,0,none⟩) 6 cap))(ho:w.ownsRow B 9 1 (.slice (some ⟨g,0,none⟩) 6 cap) 6 ZpJ):
  Calls prog 66 #[.pointer (some ⟨R,0,none⟩)] w λe w'=>e=.returned (.tuple #[])/\ZpA 0 1 R w w':=by
 have HF:=J (λw1 (hT:Tab w1 w.heap.size (ZlP 3)) hb=>ZqK hR (Zb _) hT hb);have HR:=J hR;have HO:=J ho;clear hR ho;go_enter func66,ntmps66
 go_wp2_with (go_at_call 116;refine ZM (ZyR R g cap B w HR.out HO.out) ?_;rintro w1 ⟨hT,hb⟩;have HQ:=J (HF.out w1 hT hb);have h9:=ZkY HR.out hb (Zsf HR.out);obtain⟨r0,r1,r2,r3,r4⟩:=Zc5 h9;have f3:=Zd1 h9 3;have f4:=Zd1 h9 4;clear hT hb h9 r0 r1 r2)
 go_end0
 exact⟨rfl,HQ.out⟩
theorem Zvw(p:Addr)(x:Int)(w:World)(hc:w.cell? p=some (.int .u32 x)):
  Calls prog 114 #[.pointer (some p)] w λe w'=>e=.returned (.bool (x != 0))/\w'=w:=by
 have hl:=run_call_load (P:=prog) func146 (by kernel_rfl) (by kernel_rfl) (by kernel_rfl) .u32 (by kernel_rfl) hc;go_enter func114,ntmps114
 go_wp2;go_ret;exact⟨rfl,rfl⟩
end
section
open Go.RowKit Go.Joins
def muX(X:Rx)(n:Nat):Int:=max (max 1 (X.MN n+1)) (X.MX n)
def wtX(X:Rx)(n:Nat):Int:=wt (ZeA X.K) (ZgD X.K) X.A X.B (muX X) n
def trX(X:Rx)(n:Nat):Option Nat:=tr (ZeA X.K) (ZgD X.K) X.A X.B n
theorem Zrc(X:Rx)(n:Nat):1<=muX X n:=by unfold muX;omega
theorem Zsx(two cnt:Nat->Bool)(A B mu:Nat->Int)(hm:∀n,1<=mu n):∀(f n:Nat),0<=wtF two cnt A B mu f n
 |0,n=>Int.le_refl _
 |f+1,n=>by
  rw[wtF];have h1:=Zsx two cnt A B mu hm f (A n).toNat;have h2:=Zsx two cnt A B mu hm f (B n).toNat;have h3:=Int.mul_nonneg h1 (Int.le_trans (by decide) (hm n):(0:Int)<=mu n);split
  ·omega
  ·split<;>omega
theorem ZeQ(X:Rx)(n:Nat):0<=wtX X n:=Zsx _ _ _ _ _ (Zrc X) _ _
theorem Zi4(X:Rx)(n:Nat):wtX X n<=2001:=ZCb _ _ _ _ _ _
def WS(w w':World)(b off:Nat)(X:Rx)(j:Nat)(ad:Option Addr)(cp:Nat):Prop:=
 ZeG w' w.heap.size (X.K j) (X.NT j) ad (X.NR j) cp (X.A j) (X.B j) (X.MN j) (X.MX j)/\Zch w' b off X w.heap.size/\b<w.heap.size/\ZL w w'
section
variable {w w1 w2:World} {b off:Nat} {X:Rx} {j:Nat} {ad:Option Addr} {cp:Nat}
theorem Zu3(h:WS w w1 b off X j ad cp)(k:ZL w1 w2):WS w w2 b off X j ad cp:=
 ⟨Zdq h.1 k,ZaN h.2.1 h.2.2.1 (k.mono h.2.2.2.size),h.2.2.1,h.2.2.2.trans (k.mono h.2.2.2.size)⟩
theorem Zrp(h:WS w w1 b off X j ad cp):WS w w1.drew b off X j ad cp:=Zu3 h ⟨rfl,rfl,rfl,Zb _,λ_ _=>rfl⟩
theorem Zp2(h:WS w w1 b off X j ad cp):Zch w1 b off X w1.heap.size:=ZcV h.2.1 h.2.2.2.size
theorem Zxb(h:WS w w1 b off X j ad cp):b<w1.heap.size:=ZDy h.2.2.1 h.2.2.2.size
theorem Zn5(h:WS w w1 b off X j ad cp):ZL w w1:=h.2.2.2
theorem ZkL(h:WS w w1 b off X j ad cp):WS w w1 b off X j ad cp/\w1.cell? ⟨w.heap.size,3,none⟩=some (I (X.A j))/\w1.cell? ⟨w.heap.size,4,none⟩=some (I (X.B j))/\w1.cell? ⟨w.heap.size,5,none⟩=some (I (X.MN j))/\w1.cell? ⟨w.heap.size,6,none⟩=some (I (X.MX j)):=by
 obtain⟨a0,a1,a2,a3,a4,a5,a6⟩:=Zav h.1;exact⟨h,a3,a4,a5,a6⟩
end
theorem Zov(X:Rx)(len:Nat)(hX:X.len=len)(hlen:len<=120)(hm:∀j,j<len->X.K j=5->0<=X.MN j/\X.MN j<=20/\X.MX j<=20/\-1<=X.MX j)(b off cap:Nat):∀(m n f:Nat) (w:World),n<m->n<len->trX X n=some f->b<w.heap.size->Zch w b off X w.heap.size->
  Calls prog 184 #[.slice (some ⟨b,off,none⟩) len cap,I n] w λe w'=>e=.returned (I (wtX X n))/\ZL w w'
 |0,n,f,w,hmn,hn,ht,hb,hr=>by omega
 |m+1,n,f,w,hmn,hn,ht,hb,hr=>by
  have IH:Hid (∀(k g:Nat) (w:World),k<m->k<len->trX X k=some g->b<w.heap.size->Zch w b off X w.heap.size->Calls prog 184 #[.slice (some ⟨b,off,none⟩) len cap,I k] w λe w'=>e=.returned (I (wtX X k))/\ZL w w'):=J (λk g w hk hl ht hb hr=>Zov X len hX hlen hm b off cap m k g w hk hl ht hb hr);have HM:=J hm;have HX:=J hX;have HR:=J hr;obtain⟨ad,cp,hc,-⟩:=hr n (by rw[hX];exact hn);obtain⟨c0,c1,c2,c3,c4,c5,c6⟩:=hc;have hi:(n:Int)<(len:Int):=by omega
  have hi0:(0:Int)<=(n:Int):=by omega
  have hi1:¬(n:Int)<0:=by omega
  have st:∀o,ZL w (w.alloc o):=λo=>(Ze _ _).alloc (Zb _) _
  have HW0:∀T,Hid (WS w (w.alloc (.cells #[I (X.K n),.bool (X.NT n),.slice ad (X.NR n) cp,I (X.A n),I (X.B n),I (X.MN n),I (X.MX n)] T)) b off X n ad cp):=λT=>⟨Ze3 _ _ _ _ _ _ _ _ _ _ _,ZaN HR.out hb (st _),hb,st _⟩
  clear hr hm hX st;by_cases h2:X.K n=3\/X.K n=4
  ·have h2b:ZeA X.K n=true:=Zh h2;have ht2:=ht;unfold trX at ht2;rw[Zh6 _ _ _ _ h2b]at ht2;split at ht2
   ·cases ht2
   ·rename_i hnB;cases hr1:tr (ZeA X.K) (ZgD X.K) X.A X.B (n-1) with
    |none=>rw[hr1]at ht2;cases ht2
    |some c=>
     rw[hr1]at ht2;dsimp only at ht2;split at ht2
     ·cases ht2
     ·rename_i hcA;have hcl:=Ziq _ _ _ _ hr1;have hw:=ZpU _ _ _ _ (muX X) h2b hnB hr1 hcA ht2;have HV:Hid (wtX X n=min (wtX X (c-1)+wtX X (n-1)) 2001):=J hw;have g1:=ZeQ X (c-1);have g2:=ZeQ X (n-1);have g3:=Zi4 X (c-1);have g4:=Zi4 X (n-1);obtain⟨x,hx⟩:=ZX (wtX X (c-1));obtain⟨y,hy⟩:=ZX (wtX X (n-1));have eA:X.A n=((c-1:Nat):Int):=(by omega);have eB:X.B n=((n-1:Nat):Int):=(by omega);have CA:Hid (∀w:World,b<w.heap.size->Zch w b off X w.heap.size->Calls prog 184 #[.slice (some ⟨b,off,none⟩) len cap,I (X.A n)] w λe w'=>e=.returned (I x)/\ZL w w'):=J (λw=>by rw[eA,<-hx];exact IH.out (c-1) f w (by omega) (by omega) ht2);have CB:Hid (∀w:World,b<w.heap.size->Zch w b off X w.heap.size->Calls prog 184 #[.slice (some ⟨b,off,none⟩) len cap,I (X.B n)] w λe w'=>e=.returned (I y)/\ZL w w'):=J (λw=>by rw[eB,<-hy];exact IH.out (n-1) c w (by omega) (by omega) hr1);rw[hx,hy]at HV;rw[hx]at g1 g3;rw[hy]at g2 g4;clear hw ht2 hr1 hcA hnB ht h2b hx hy eA eB IH HM HX HR;rcases h2 with h2|h2
      all_goals
       rw[h2]at c0;simp only[h2]at HW0;clear h2;go_enter func184,ntmps184
       go_wp2
       go_region_held3 (λw'=>WS w w' b off X n ad cp/\w'.cell? ⟨w.heap.size,3,none⟩=some (I (X.A n))/\w'.cell? ⟨w.heap.size,4,none⟩=some (I (X.B n))/\w'.cell? ⟨w.heap.size,5,none⟩=some (I (X.MN n))/\w'.cell? ⟨w.heap.size,6,none⟩=some (I (X.MX n))) (first|assumption|exact ZkL (Zrp (HW0 _).out)|exact ZkL (HW0 _).out|exact ZkL HTA.out|exact ZkL HTB.out) (first|(go_at_call_of 184 (X.A n);refine ZM (CA.out _ (Zxb (And.left (by assumption))) (Zp2 (And.left (by assumption)))) ?_;rintro w2 hb2;have HTA:=J (Zu3 (And.left (by assumption)) hb2);clear hb2)|(go_at_call_of 184 (X.B n);refine ZM (CB.out _ (Zxb (And.left (by assumption))) (Zp2 (And.left (by assumption)))) ?_;rintro w2 hb2;have HTB:=J (Zu3 (And.left (by assumption)) hb2);clear hb2))
       all_goals
        go_wp2;all_goals
         go_ret;exact⟨ZgF (by rw[HV.out]<;>omega),Zn5 (And.left (by assumption))⟩
  ·by_cases h5:X.K n=5
   ·have h2b:¬ZeA X.K n=true:=(by unfold ZeA;simp;omega);have h5b:ZgD X.K n=true:=Zh h5;have ht2:=ht;unfold trX at ht2;rw[Zh9 _ _ _ _ h2b h5b]at ht2;split at ht2
    ·cases ht2
    ·rename_i hnA;have hw:=ZqA _ _ _ _ (muX X) h2b h5b hnA ht2;obtain⟨m0,m1,m2,m3⟩:=HM.out n hn h5;have HV:Hid (wtX X n=min (wtX X (n-1)*muX X n) 2001):=J hw;have g1:=ZeQ X (n-1);have g3:=Zi4 X (n-1);obtain⟨x,hx⟩:=ZX (wtX X (n-1));have eA:X.A n=((n-1:Nat):Int):=(by omega);have CA:Hid (∀w:World,b<w.heap.size->Zch w b off X w.heap.size->Calls prog 184 #[.slice (some ⟨b,off,none⟩) len cap,I (X.A n)] w λe w'=>e=.returned (I x)/\ZL w w'):=J (λw=>by rw[eA,<-hx];exact IH.out (n-1) f w (by omega) (by omega) ht2);rw[hx]at HV;rw[hx]at g1 g3;obtain⟨mn,hmn'⟩:=ZX (X.MN n);obtain⟨mx,hmx'⟩:=ZX (X.MX n);have hmu:muX X n=max (max 1 (mn+1)) mx:=(by unfold muX;rw[hmn',hmx']);rw[hmn']at m0 m1 c5;rw[hmx']at m2 m3 c6;rw[h5]at c0;simp only[h5,hmn',hmx']at HW0;have HMN:=J hmn';have HMX:=J hmx';rw[hmu]at HV;clear hw ht2 hnA ht h2b h5b hx eA IH HM HX HR h2 h5 hmn' hmx' hmu;have hS:∀w',WS w w' b off X n ad cp->WS w w' b off X n ad cp/\w'.cell? ⟨w.heap.size,3,none⟩=some (I (X.A n))/\w'.cell? ⟨w.heap.size,5,none⟩=some (I mn)/\w'.cell? ⟨w.heap.size,6,none⟩=some (I mx):=λw' h=>by
      have h':=ZkL h;rw[HMN.out,HMX.out]at h';exact⟨h,h'.2.1,h'.2.2.2.1,h'.2.2.2.2⟩
     have HS:=J hS;clear hS;have q0:(1:Int)<=mn+1:=(by omega);have e1:(if (1:Int)<mn+1 then mn+1 else 1)=mn+1:=(by split<;>omega);obtain⟨v,hv⟩:=ZX (if mn+1<mx then mx else mn+1);have hv1:max (max 1 (mn+1)) mx=v/\1<=v/\v<=21:=(by rw[<-hv];split<;>omega);have p0:=Int.mul_nonneg g1 (by omega:(0:Int)<=v);have p1:x*v<=2001*21:=Int.mul_le_mul g3 (by omega) (by omega) (by omega);have HV2:Hid (wtX X n=min (x*v) 2001):=J (by rw[HV.out,hv1.1]);have hw1:IntKind.i64.wrap (mn+1)=mn+1:=(by rw[ZY];omega);have hw2:IntKind.i64.wrap (x*v)=x*v:=(by rw[ZY];omega);clear HV hv1 q0;go_enter func184,ntmps184
     go_wp2
     go_region_held3 (λw'=>WS w w' b off X n ad cp/\w'.cell? ⟨w.heap.size,3,none⟩=some (I (X.A n))/\w'.cell? ⟨w.heap.size,5,none⟩=some (I mn)/\w'.cell? ⟨w.heap.size,6,none⟩=some (I mx)) (first|assumption|exact HS.out _ HTA.out|exact HS.out _ (Zrp (HW0 _).out)|exact HS.out _ (HW0 _).out) (first|(go_at_call_of 184 (X.A n);refine ZM (CA.out _ (Zxb (And.left (by assumption))) (Zp2 (And.left (by assumption)))) ?_;rintro w2 hb2;have HTA:=J (Zu3 (And.left (by assumption)) hb2);clear hb2))
     all_goals
      go_wp2;all_goals
       go_ret;exact⟨ZgF (by rw[HV2.out]<;>omega),Zn5 (And.left (by assumption))⟩
   ·have HV:Hid (wtX X n=1):=J (ZlZ _ _ _ _ (muX X) (by unfold ZeA;simpa using h2) (by unfold ZgD;simpa using h5));obtain⟨kd,hk⟩:=ZX (X.K n);have n3:(kd==3)=false:=(by rw[<-hk];simp;omega);have n4:(kd==4)=false:=(by rw[<-hk];simp;omega);have n5:(kd==5)=false:=(by rw[<-hk];simp;omega);rw[hk]at c0;clear h2 h5 hk IH HM HX HR HW0 ht;go_enter func184,ntmps184
    go_wp2;all_goals
     go_ret;exact⟨ZgF (by rw[HV.out]<;>first|rfl|omega|decide),(Ze _ _).alloc (Zb _) _⟩
end
section
open Go.RowKit
def inC(nt:Bool)(n:Nat)(L H:Nat->Int)(x:Int):Bool:=chB x&&(Zoi n L H x != nt)
section
variable {X:Rx} {n a b:Nat}
end
def sgO:List UInt8:=[46,92,63,42,43,123,125,40,41,124,91,93]
def sgI:List UInt8:=[91,93,92,45,94]
def isS(l:List UInt8)(c:Int):Bool:=l.any λb=>decide ((b.toNat:Int)=c)
theorem ZBk{l:List UInt8}{c:Int}(h:∀j,j<l.length->((l[j]?.getD 0).toNat:Int)≠c):isS l c=false:=by
 unfold isS;rw[List.any_eq_false];intro x hx;obtain⟨j,hj,rfl⟩:=List.mem_iff_getElem.1 hx;have:=h j hj;rw[Zv hj]at this;simpa using this
theorem ZyM{l:List UInt8}{c:Int}{j:Nat}(hj:j<l.length)(h:((l[j]?.getD 0).toNat:Int)=c):isS l c=true:=by
 unfold isS;rw[List.any_eq_true];refine⟨l[j],ZD3 hj,?_⟩;rw[Zv hj]at h;simpa using h
section
variable {X:Rx} {n a b:Nat}
end
theorem Ze9{X:Rx}{n f:Nat}(h:trX X n=some f)(h2:X.K n=3\/X.K n=4):∃c,X.A n=((c-1:Nat):Int)/\X.B n=((n-1:Nat):Int)/\c-1<n/\n-1<n/\1<=c/\c<=n-1/\trX X (n-1)=some c/\trX X (c-1)=some f:=by
 have h2b:ZeA X.K n=true:=Zh h2;unfold trX at h ⊢;rw[Zh6 _ _ _ _ h2b]at h;split at h
 ·cases h
 ·rename_i hnB;cases hr1:tr (ZeA X.K) (ZgD X.K) X.A X.B (n-1) with
  |none=>rw[hr1]at h;cases h
  |some c=>
   rw[hr1]at h;dsimp only at h;split at h
   ·cases h
   ·rename_i hcA;have hcl:=Ziq _ _ _ _ hr1;exact⟨c,by omega,by omega,by omega,by omega,by omega,hcl,rfl,h⟩
theorem Zhe{X:Rx}{n f:Nat}(h:trX X n=some f)(h5:X.K n=5):X.A n=((n-1:Nat):Int)/\n-1<n/\trX X (n-1)=some f:=by
 have h2b:¬ZeA X.K n=true:=by unfold ZeA;rw[ZD1];omega
 have h5b:ZgD X.K n=true:=Zh h5;unfold trX at h ⊢;rw[Zh9 _ _ _ _ h2b h5b]at h;split at h
 ·cases h
 ·rename_i hn;exact⟨by omega,by omega,h⟩
def ZBT(X:Rx)(len:Nat):Prop:=∀j,j<len->(X.K j=5->0<=X.MN j/\X.MN j<=20/\X.MX j<=20/\-1<=X.MX j)/\(X.K j=2->1<=X.NR j/\X.NR j<=12/\∀i,i<X.NR j->chB (X.L j i)=true/\chB (X.H j i)=true/\X.L j i<=X.H j i)/\(X.K j=1\/X.K j=2\/X.K j=3\/X.K j=4\/X.K j=5)
end
section
open Go.RowKit Go.Joins
def ZdO(X:Rx)(j:Nat):Bool:=ZR (X.K j) (X.NT j) (X.NR j) (X.L j) (X.H j) (X.A j) (X.B j) (X.MN j) (X.MX j)
def rxB(X:Rx):Bool:=decide (1<=X.len/\X.len<=120)&&((List.range X.len).all (ZdO X)&&(decide (trX X (X.len-1)=some 0)&&decide (wtX X (X.len-1)<=2000)))
theorem Zj5{X:Rx}(h:¬(1<=X.len/\X.len<=120)):rxB X=false:=by unfold rxB;rw[Zg h];rfl
theorem Zhg{X:Rx}{k:Nat}(hk:k<X.len)(h:ZdO X k=false):rxB X=false:=by
 have:(List.range X.len).all (ZdO X)=false:=by
  rw[List.all_eq_false];exact⟨k,by simpa using hk,by simp[h]⟩
 unfold rxB;rw[this];simp
theorem ZpW{X:Rx}(h0:1<=X.len/\X.len<=120)(h:∀j,j<X.len->ZdO X j=true):rxB X=(decide (trX X (X.len-1)=some 0)&&decide (wtX X (X.len-1)<=2000)):=by
 have:(List.range X.len).all (ZdO X)=true:=by
  rw[ZDP];intro j hj;exact h j (by simpa using hj)
 unfold rxB;rw[this,Zh h0];simp
theorem Zjz{kd:Int}{nt:Bool}{n:Nat}{L H:Nat->Int}{a b mn mx:Int}(h:ZR kd nt n L H a b mn mx=true)(h5:kd=5):0<=mn/\mn<=20/\mx<=20/\-1<=mx:=by
 subst h5;simp[ZR]at h;omega
theorem Ztf{w:World}{b off:Nat}{X:Rx}{B len:Nat}(hX:X.len=len)(h:Zch w b off X B):Zs1 w b off len X.K X.A X.B:=λj hj=>by
 obtain⟨ad,cp,hc,-⟩:=h j (by omega);exact⟨hc.1,hc.2.2.2.1,hc.2.2.2.2.1⟩
theorem ZnZ(X:Rx)(n:Nat):(trI X.K X.A X.B n=0)↔trX X n=some 0:=by
 unfold trI trX;cases h:tr (ZeA X.K) (ZgD X.K) X.A X.B n with
 |none=>simp
 |some f=>simp
theorem Zqa(X:Rx)(len:Nat)(a:Option Addr)(cap:Nat)(w:World)(hX:X.len=len)(hlen:len<=maxLen)(hnr:∀j,j<len->X.NR j<=maxLen)(hr:Zwq w a X w.heap.size):
  Calls prog 134 #[.slice a len cap] w λe w'=>e=.returned (.bool (rxB X))/\ZL w w':=by
 unfold maxLen at hlen;have HX:=J hX;have HNR:=J hnr;have HR:=J hr;clear hr hnr hX;by_cases hs:1<=len/\len<=120
 ·obtain⟨g1,g2⟩:=hs;have g3:(1:Int)<=len:=by omega
  have g4:(len:Int)<=120:=by omega
  obtain⟨b,off,rfl,hbs,hrow⟩:=HR.out (by rw[HX.out];omega);have HRW:=J hrow;clear hrow;go_enter func134,ntmps134
  go_wp2
  go_loopw [3] (λi wr=>∃k:Nat,k<=len/\i=I k/\ZL w wr/\Hid (∀j,j<k->ZdO X j=true)) (λi _=>len-(Zi i).toNat)
  case atStart=>exact⟨0,Zx _,rfl,Ze _ _,λj h=>by omega⟩
  case round=>
   obtain⟨k,hk,rfl,hb,HM⟩:=hrel;have hbw:b<wr.heap.size:=ZDy hbs hb.size;by_cases hlt:k<len
   ·obtain⟨ad,cp,hc,hrg⟩:=HRW.out k (by rw[HX.out];omega);obtain⟨c0,c1,c2,c3,c4,c5,c6⟩:=ZdR hc hbs hb;have HG:=J (Zb9 (Zck hrg hb) hb.size);have HB:=J hb;have hi:(k:Int)<(len:Int):=(by omega);clear hc hrg hb;cases hno:ZdO X k
    ·go_wp2_with (go_at_call 182;refine ZM (Zec _ _ _ _ _ _ _ _ _ (X.L k) (X.H k) _ (HNR.out k hlt) HG.out) ?_;rintro w2 hb2;rw[show ZR (X.K k) (X.NT k) (X.NR k) (X.L k) (X.H k) (X.A k) (X.B k) (X.MN k) (X.MX k)=false from hno];have HB2:=J (HB.out.trans (hb2.mono HB.out.size));clear hb2)
     go_ret;exact⟨Zo (Zhg (by rw[HX.out];exact hlt) hno).symm,HB2.out⟩
    ·go_wp2_with (go_at_call 182;refine ZM (Zec _ _ _ _ _ _ _ _ _ (X.L k) (X.H k) _ (HNR.out k hlt) HG.out) ?_;rintro w2 hb2;rw[show ZR (X.K k) (X.NT k) (X.NR k) (X.L k) (X.H k) (X.A k) (X.B k) (X.MN k) (X.MX k)=true from hno];have HB2:=J (HB.out.trans (hb2.mono HB.out.size));clear hb2)
     go_roundw
     case rel=>
      refine⟨k+1,by omega,by go_num,HB2.out,λj hj=>?_⟩;by_cases e:j=k
      ·subst e;exact hno
      ·exact HM.out j (by omega)
     case measure=>simp[Zi];omega
   ·have hkn:k=len:=(by omega);subst hkn;have HV:=J (ZpW (X:=X) (by rw[HX.out];exact⟨g1,g2⟩) (by rw[HX.out];exact HM.out));rw[HX.out]at HV;have hrow:=ZcV (ZaN HRW.out hbs hb) hb.size;have hroot:((k:Int)-1)=((k-1:Nat):Int):=(by omega);have CT:Hid (Calls prog 183 #[.slice (some ⟨b,off,none⟩) k cap,I ((k:Int)-1)] wr λe w'=>e=.returned (I (trI X.K X.A X.B (k-1)))/\w'=wr):=J (by rw[hroot];exact Zwt b off k cap X.K X.A X.B wr (by omega) (Ztf HX.out hrow) k (k-1) (by omega) (by omega));have HB:=J hb;have HRR:=J hrow;by_cases ht:trX X (k-1)=some 0
    ·have hz:trI X.K X.A X.B (k-1)=0:=(ZnZ X (k-1)).2 ht;have CW:Hid (Calls prog 184 #[.slice (some ⟨b,off,none⟩) k cap,I ((k:Int)-1)] wr λe w'=>e=.returned (I (wtX X (k-1)))/\ZL wr w'):=J (by rw[hroot];exact Zov X k HX.out (by omega) (λj hj h5=>Zjz (HM.out j hj) h5) b off cap k (k-1) 0 wr (by omega) (by omega) ht hbw HRR.out);rw[hz]at CT;rw[Zh ht]at HV;obtain⟨x,hx⟩:=ZX (wtX X (k-1));rw[hx]at CW HV;clear hrow hroot hz ht hx hb;go_wp2_with (first|(go_at_call 183;refine Zc CT.out ?_)|(go_at_call 184;refine ZM CW.out ?_;rintro w2 hb2;have HB2:=J (HB.out.trans (hb2.mono HB.out.size));clear hb2))
     go_ret;exact⟨Zo (by rw[HV.out];simp),HB2.out⟩
    ·have hz:¬trI X.K X.A X.B (k-1)=0:=λh=>ht ((ZnZ X (k-1)).1 h)
     rw[Zg ht]at HV;obtain⟨x,hx⟩:=ZX (trI X.K X.A X.B (k-1));rw[hx]at CT hz;have hz2:(x==0)=false:=(by simpa using hz);clear hrow hroot ht hx hb hz;go_wp2_with (go_at_call 183;refine Zc CT.out ?_)
     go_ret;exact⟨Zo (by rw[HV.out];rfl),HB.out⟩
 ·have e:=Zj5 (X:=X) (by rw[HX.out];exact hs);rw[e];by_cases g:len=0
  ·go_enter func134,ntmps134
   go_wp2;go_ret;exact⟨rfl,Ze _ _⟩
  ·have g2:(120:Int)<(len:Int):=by omega
   go_enter func134,ntmps134
   go_wp2;go_ret;exact⟨rfl,Ze _ _⟩
end
section
open Go.RowKit
def ZiS:Value->Nat|.string s=>s.size|_=>0
def Zil(r:Bool×ZB×Int×Bool):Value:=.tuple #[.agg #[.bool r.1,.string r.2.1,I r.2.2.1],.bool r.2.2.2]
theorem ZjZ:ZP false (⟨#[]⟩:ZB) 0=true:=by rw[Zdx _ _ _ rfl];rfl
theorem Zcv{w w1:World}{xs ys:Array Value}{T U:TypeId}(h:Below ((w.alloc (.cells xs T)).alloc (.cells ys U)).heap.size ((w.alloc (.cells xs T)).alloc (.cells ys U)) w1):
  w1.frozen? ⟨w.heap.size,0,none⟩=false/\w1.frozen? ⟨w.heap.size,1,none⟩=false/\w1.frozen? ⟨w.heap.size,2,none⟩=false:=by
 have hb:((w.alloc (.cells xs T)).alloc (.cells ys U)).heap[w.heap.size]?=some (.cells xs T (0,0)):=by
  rw[((Ze (w.alloc (.cells xs T)).heap.size (w.alloc (.cells xs T))).alloc (Zb _) (.cells ys U)).block w.heap.size (by simp)];exact Zz w _
 have e:∀i,w1.frozen? ⟨w.heap.size,i,none⟩=false:=λi=>by
  rw[h.frozen (p:=⟨w.heap.size,i,none⟩) (by simp;omega)];exact ZEm _ w.heap.size i _ T hb
 exact⟨e 0,e 1,e 2⟩
theorem Zlh{w1:World}{G:Nat}{a b c:Value}{T:TypeId}(h:w1.heap[G]?=some (.cells #[a,b,c] T (0,0)))(x y z:Value):
  (((w1.setCell ⟨G,0,none⟩ x).setCell ⟨G,1,none⟩ y).setCell ⟨G,2,none⟩ z).cell? ⟨G,0,none⟩=some x/\(((w1.setCell ⟨G,0,none⟩ x).setCell ⟨G,1,none⟩ y).setCell ⟨G,2,none⟩ z).cell? ⟨G,1,none⟩=some y/\(((w1.setCell ⟨G,0,none⟩ x).setCell ⟨G,1,none⟩ y).setCell ⟨G,2,none⟩ z).cell? ⟨G,2,none⟩=some z:=by
 have h1:=ZEk w1 G 0 _ T x h;have h2:=ZEk _ G 1 _ T y h1;have h3:=ZEk _ G 2 _ T z h2;refine⟨?_,?_,?_⟩<;>rw[ZO _ G _ _ T (0,0) h3]<;>rfl
theorem Zb8{w w1:World}{a b c:Value}{ys:Array Value}{T U:TypeId}(h:Below ((w.alloc (.cells #[a,b,c] T)).alloc (.cells ys U)).heap.size ((w.alloc (.cells #[a,b,c] T)).alloc (.cells ys U)) w1)(x y z:Value):
  (((w1.setCell ⟨w.heap.size,0,none⟩ x).setCell ⟨w.heap.size,1,none⟩ y).setCell ⟨w.heap.size,2,none⟩ z).cell? ⟨w.heap.size,0,none⟩=some x/\(((w1.setCell ⟨w.heap.size,0,none⟩ x).setCell ⟨w.heap.size,1,none⟩ y).setCell ⟨w.heap.size,2,none⟩ z).cell? ⟨w.heap.size,1,none⟩=some y/\(((w1.setCell ⟨w.heap.size,0,none⟩ x).setCell ⟨w.heap.size,1,none⟩ y).setCell ⟨w.heap.size,2,none⟩ z).cell? ⟨w.heap.size,2,none⟩=some z:=by
 refine Zlh (a:=a) (b:=b) (c:=c) (T:=T) ?_ x y z;rw[h.block w.heap.size (by simp;omega),((Ze (w.alloc (.cells #[a,b,c] T)).heap.size (w.alloc (.cells #[a,b,c] T))).alloc (Zb _) (.cells ys U)).block w.heap.size (by simp)];exact Zz w _
theorem Zat{w w1:World}(h:ZL w w1)(x y z:Value):ZL w (((w1.setCell ⟨w.heap.size,0,none⟩ x).setCell ⟨w.heap.size,1,none⟩ y).setCell ⟨w.heap.size,2,none⟩ z):=
 ((h.setCell (Zb _) _).setCell (Zb _) _).setCell (Zb _) _
theorem Zbb(t:ZB)(h:t.size=0):t=⟨#[]⟩:=ByteArray.size_eq_zero_iff.1 h
theorem ZcC(t:ZB)(h:0<t.size):t.toList.isEmpty=false:=by
 rw[ZEr];cases hq:t.data.toList with
 |nil=>
      have hl:t.data.toList.length=t.size:=(by simp);rw[hq]at hl;simp at hl;omega
 |cons a l=>rfl
theorem Zgb{n:Bool}{t:ZB}{k v c:Nat}(h:Za5 n v c=if t.size=0 then (false,ByteArray.empty,0,true) else if ZP n t (k:Int)=true then (n,t,(k:Int),true) else (false,ByteArray.empty,0,false))(h0:t.size=0):Za5 n v c=(false,ByteArray.empty,0,true):=by rw[h,Zd h0]
theorem ZhX{n:Bool}{t:ZB}{k v c:Nat}(h:Za5 n v c=if t.size=0 then (false,ByteArray.empty,0,true) else if ZP n t (k:Int)=true then (n,t,(k:Int),true) else (false,ByteArray.empty,0,false))(h0:¬t.size=0)(hb:ZP n t (k:Int)=true):Za5 n v c=(n,t,(k:Int),true):=by rw[h,Za h0,Zd hb]
theorem ZkR{n:Bool}{t:ZB}{k v c:Nat}(h:Za5 n v c=if t.size=0 then (false,ByteArray.empty,0,true) else if ZP n t (k:Int)=true then (n,t,(k:Int),true) else (false,ByteArray.empty,0,false))(h0:¬t.size=0)(hb:ZP n t (k:Int)=false):Za5 n v c=(false,ByteArray.empty,0,false):=by rw[h,Za h0,Za (by rw[hb];simp)]
theorem ZiI(n:Bool)(t:ZB)(c:Int)(w:World)(ht:t.size<=400)(hd:dgL t.data.toList)(hc0:0<=c)(hc1:c<=200):
  Calls prog 138 #[.bool n,.string t,I c] w λe w'=>e=.returned (Zil (Za5 n (Zw t.data.toList) c.toNat))/\ZL w w':=by
 have HD:=J hd;clear hd;obtain⟨v,hv⟩:=ZX (Zw t.data.toList);obtain⟨q,hq⟩:=ZX c.toNat;obtain⟨R,hR⟩:=ZX (Za5 n v q);rw[hv,hq,hR];have HV:=J (show Z7 (Zw t.data.toList) c.toNat=Z7 v q by rw[hv,hq]);have HR:=J hR;clear hv hq hR;go_enter func138,ntmps138
 go_wp2
 go_loop [1,2] (λvt vc=>∃(u:ZB) (k:Nat),vt=.string u/\vc=I k/\u.size<=400/\k<=200/\Hid (dgL u.data.toList)/\Hid (Z7 (Zw u.data.toList) k=Z7 v q)) (λ_ vc=>(Zi vc).toNat)
 case atStart=>exact⟨t,c.toNat,rfl,by rw[show((c.toNat:Nat):Int)=c by omega],ht,by omega,HD,HV⟩
 case round=>
  clear HD HV;obtain⟨u,k,rfl,rfl,hu,hk,HD,HV⟩:=hrel;rcases(show k=0\/(0<k/\u.size=0)\/(0<k/\0<u.size) by omega) with hk0|⟨hk0,hu0⟩|⟨hk0,hu0⟩
  ·subst hk0;go_wp2;have HL:Hid (0=0\/(u:ZB).size=0\/∀a b,(u:ZB).data.toList=a++[b]->b.toNat≠48):=J (.inl rfl)
   go_loop [1] (λvt=>∃x:ZB,vt=.string x/\x.size<=400/\Hid (dgL x.data.toList)/\Hid (Z7 (Zw x.data.toList) 0=Z7 v q)/\Hid (0=0\/x.size=0\/∀a b,x.data.toList=a++[b]->b.toNat≠48)) (λvt=>ZiS vt)
   case atStart=>exact⟨u,rfl,hu,HD,HV,HL⟩
   case round=>
    obtain⟨x,rfl,hx,HDx,HVx,HLx⟩:=hrel;clear HL HD HV;rcases(show x.size=0\/0<x.size by omega) with hx0|hx0
    ·have HF:=J (Zgb (ZbT n x 0 v q HDx.out (Zem x (.inl hx0)) HLx.out HVx.out) hx0);have:=Zbb x hx0;subst this;go_wp2_with fail
     refine ZM (ZcL false ⟨#[]⟩ 0 _ (by simp[ByteArray.size])) ?_;rintro w1 hb1;obtain⟨hx1,hx2,hbb⟩:=Za6 hb1;obtain⟨f0,f1,f2⟩:=Zcv hb1;have HB:=J hbb;obtain⟨a0,a1,a2,a3⟩:=hx1;obtain⟨b0,b1,b2,b3⟩:=hx2;have HC:=J (Zb8 hb1 (.bool false) (.string ⟨#[]⟩) (I 0));clear hb1 hbb;have hdz:=ZjZ;have HRE:Hid (R=(false,ByteArray.empty,0,true)):=J (HR.out.symm.trans HF.out);go_wp2;obtain⟨c0,c1,c2⟩:=HC.out;exact bodyPost_ret (v:=.tuple #[.agg #[.bool false,.string ⟨#[]⟩,I 0],.bool true]) (by simp[results,results138,go_sem,c0,c1,c2]) rfl ⟨by rw[HRE.out];rfl,Zat HB.out _ _ _⟩
    ·have hxe:=ZcC x hx0;by_cases hz2:(x[0].toNat:Int)=48
     ·obtain⟨g1,g2,g3⟩:=ZhR x hx0 HDx.out hz2;have G1:=J g1;have G2:Hid (Z7 (Zw (x.extract 1 x.size).data.toList) 0=Z7 v q):=J (by rw[g2];exact HVx.out);have G3:Hid (0=0\/(x.extract 1 x.size).size=0\/∀a b,(x.extract 1 x.size).data.toList=a++[b]->b.toNat≠48):=J (by
       rcases HLx.out with h|h|h
       ·exact .inl h
       ·omega
       ·exact .inr (g3 h))
      clear g1 g2 g3;go_wp2
      go_round
      case rel=>exact⟨_,rfl,by simp;omega,G1,G2,J (by first|exact G3.out|exact .inl trivial)⟩
      case measure=>simp[ZiS];omega
     ·have hzb2:((x[0].toNat:Int)==48)=false:=(by simpa using hz2);have HF:=J (ZbT n x 0 v q HDx.out (Zem x (.inr ⟨hx0,hz2⟩)) HLx.out HVx.out);go_wp2_with fail
      refine ZM (ZcL n x 0 _ (by unfold maxLen;omega)) ?_;rintro w1 hb1;obtain⟨hx1,hx2,hbb⟩:=Za6 hb1;obtain⟨f0,f1,f2⟩:=Zcv hb1;have HB:=J hbb;obtain⟨a0,a1,a2,a3⟩:=hx1;obtain⟨b0,b1,b2,b3⟩:=hx2;have HC:=J (Zb8 hb1 (.bool false) (.string ⟨#[]⟩) (I 0));have HC2:=J (Zb8 hb1 (.bool n) (.string x) (I (0:Int)));clear hb1 hbb;cases hdb:ZP n x (0:Int)
      ·have HRE:Hid (R=(false,ByteArray.empty,0,false)):=J (HR.out.symm.trans (ZkR HF.out (by omega) hdb));go_wp2;obtain⟨c0,c1,c2⟩:=HC.out;exact bodyPost_ret (v:=ZJ) (by simp[ZJ,results,results138,go_sem,c0,c1,c2]) rfl ⟨by rw[HRE.out];rfl,Zat HB.out _ _ _⟩
      ·have HRE:Hid (R=(n,x,(0:Int),true)):=J (HR.out.symm.trans (ZhX HF.out (by omega) hdb));go_wp2;obtain⟨c0,c1,c2⟩:=HC2.out;exact bodyPost_ret (v:=.tuple #[.agg #[.bool n,.string x,I (0:Int)],.bool true]) (by simp[results,results138,go_sem,c0,c1,c2]) rfl ⟨by rw[HRE.out];rfl,Zat HB.out _ _ _⟩
  ·have:=Zbb u hu0;subst this;go_wp2;have HL:Hid (k=0\/(⟨#[]⟩:ZB).size=0\/∀a b,(⟨#[]⟩:ZB).data.toList=a++[b]->b.toNat≠48):=J (.inr (.inl rfl))
   go_loop [1] (λvt=>∃x:ZB,vt=.string x/\x.size<=400/\Hid (dgL x.data.toList)/\Hid (Z7 (Zw x.data.toList) k=Z7 v q)/\Hid (k=0\/x.size=0\/∀a b,x.data.toList=a++[b]->b.toNat≠48)) (λvt=>ZiS vt)
   case atStart=>exact⟨⟨#[]⟩,rfl,by simp[ByteArray.size],HD,HV,HL⟩
   case round=>
    obtain⟨x,rfl,hx,HDx,HVx,HLx⟩:=hrel;clear HL HD HV;rcases(show x.size=0\/0<x.size by omega) with hx0|hx0
    ·have HF:=J (Zgb (ZbT n x k v q HDx.out (Zem x (.inl hx0)) HLx.out HVx.out) hx0);have:=Zbb x hx0;subst this;go_wp2_with fail
     refine ZM (ZcL false ⟨#[]⟩ 0 _ (by simp[ByteArray.size])) ?_;rintro w1 hb1;obtain⟨hx1,hx2,hbb⟩:=Za6 hb1;obtain⟨f0,f1,f2⟩:=Zcv hb1;have HB:=J hbb;obtain⟨a0,a1,a2,a3⟩:=hx1;obtain⟨b0,b1,b2,b3⟩:=hx2;have HC:=J (Zb8 hb1 (.bool false) (.string ⟨#[]⟩) (I 0));clear hb1 hbb;have hdz:=ZjZ;have HRE:Hid (R=(false,ByteArray.empty,0,true)):=J (HR.out.symm.trans HF.out);go_wp2;obtain⟨c0,c1,c2⟩:=HC.out;exact bodyPost_ret (v:=.tuple #[.agg #[.bool false,.string ⟨#[]⟩,I 0],.bool true]) (by simp[results,results138,go_sem,c0,c1,c2]) rfl ⟨by rw[HRE.out];rfl,Zat HB.out _ _ _⟩
    ·have hxe:=ZcC x hx0;by_cases hz2:(x[0].toNat:Int)=48
     ·obtain⟨g1,g2,g3⟩:=ZhR x hx0 HDx.out hz2;have G1:=J g1;have G2:Hid (Z7 (Zw (x.extract 1 x.size).data.toList) k=Z7 v q):=J (by rw[g2];exact HVx.out);have G3:Hid (k=0\/(x.extract 1 x.size).size=0\/∀a b,(x.extract 1 x.size).data.toList=a++[b]->b.toNat≠48):=J (by
       rcases HLx.out with h|h|h
       ·exact .inl h
       ·omega
       ·exact .inr (g3 h))
      clear g1 g2 g3;go_wp2
      go_round
      case rel=>exact⟨_,rfl,by simp;omega,G1,G2,J (by first|exact G3.out|exact .inl trivial)⟩
      case measure=>simp[ZiS];omega
     ·have hzb2:((x[0].toNat:Int)==48)=false:=(by simpa using hz2);have HF:=J (ZbT n x k v q HDx.out (Zem x (.inr ⟨hx0,hz2⟩)) HLx.out HVx.out);go_wp2_with fail
      refine ZM (ZcL n x k _ (by unfold maxLen;omega)) ?_;rintro w1 hb1;obtain⟨hx1,hx2,hbb⟩:=Za6 hb1;obtain⟨f0,f1,f2⟩:=Zcv hb1;have HB:=J hbb;obtain⟨a0,a1,a2,a3⟩:=hx1;obtain⟨b0,b1,b2,b3⟩:=hx2;have HC:=J (Zb8 hb1 (.bool false) (.string ⟨#[]⟩) (I 0));have HC2:=J (Zb8 hb1 (.bool n) (.string x) (I (k:Int)));clear hb1 hbb;cases hdb:ZP n x (k:Int)
      ·have HRE:Hid (R=(false,ByteArray.empty,0,false)):=J (HR.out.symm.trans (ZkR HF.out (by omega) hdb));go_wp2;obtain⟨c0,c1,c2⟩:=HC.out;exact bodyPost_ret (v:=ZJ) (by simp[ZJ,results,results138,go_sem,c0,c1,c2]) rfl ⟨by rw[HRE.out];rfl,Zat HB.out _ _ _⟩
      ·have HRE:Hid (R=(n,x,(k:Int),true)):=J (HR.out.symm.trans (ZhX HF.out (by omega) hdb));go_wp2;obtain⟨c0,c1,c2⟩:=HC2.out;exact bodyPost_ret (v:=.tuple #[.agg #[.bool n,.string x,I (k:Int)],.bool true]) (by simp[results,results138,go_sem,c0,c1,c2]) rfl ⟨by rw[HRE.out];rfl,Zat HB.out _ _ _⟩
  ·have hne:=ZcC u hu0;have hkk:(0:Int)<(k:Int):=by omega
   by_cases hz:(u[u.size-1].toNat:Int)=48
   ·obtain⟨hd2,hv2⟩:=Zm8 u k v q hu0 hk0 HD.out hz HV.out;have HD2:=J hd2;have HV2:=J hv2;clear hd2 hv2;go_wp2
    go_round
    case rel=>exact⟨_,k-1,rfl,by go_num,by simp;omega,by omega,HD2,HV2⟩
    case measure=>simp[Zi];omega
   ·have hzb:((u[u.size-1].toNat:Int)==48)=false:=(by simpa using hz);go_wp2;have HL:Hid (k=0\/(u:ZB).size=0\/∀a b,(u:ZB).data.toList=a++[b]->b.toNat≠48):=J (.inr (.inr (Zms u hu0 hz)))
    go_loop [1] (λvt=>∃x:ZB,vt=.string x/\x.size<=400/\Hid (dgL x.data.toList)/\Hid (Z7 (Zw x.data.toList) k=Z7 v q)/\Hid (k=0\/x.size=0\/∀a b,x.data.toList=a++[b]->b.toNat≠48)) (λvt=>ZiS vt)
    case atStart=>exact⟨u,rfl,hu,HD,HV,HL⟩
    case round=>
     obtain⟨x,rfl,hx,HDx,HVx,HLx⟩:=hrel;clear HL HD HV;rcases(show x.size=0\/0<x.size by omega) with hx0|hx0
     ·have HF:=J (Zgb (ZbT n x k v q HDx.out (Zem x (.inl hx0)) HLx.out HVx.out) hx0);have:=Zbb x hx0;subst this;go_wp2_with fail
      refine ZM (ZcL false ⟨#[]⟩ 0 _ (by simp[ByteArray.size])) ?_;rintro w1 hb1;obtain⟨hx1,hx2,hbb⟩:=Za6 hb1;obtain⟨f0,f1,f2⟩:=Zcv hb1;have HB:=J hbb;obtain⟨a0,a1,a2,a3⟩:=hx1;obtain⟨b0,b1,b2,b3⟩:=hx2;have HC:=J (Zb8 hb1 (.bool false) (.string ⟨#[]⟩) (I 0));clear hb1 hbb;have hdz:=ZjZ;have HRE:Hid (R=(false,ByteArray.empty,0,true)):=J (HR.out.symm.trans HF.out);go_wp2;obtain⟨c0,c1,c2⟩:=HC.out;exact bodyPost_ret (v:=.tuple #[.agg #[.bool false,.string ⟨#[]⟩,I 0],.bool true]) (by simp[results,results138,go_sem,c0,c1,c2]) rfl ⟨by rw[HRE.out];rfl,Zat HB.out _ _ _⟩
     ·have hxe:=ZcC x hx0;by_cases hz2:(x[0].toNat:Int)=48
      ·obtain⟨g1,g2,g3⟩:=ZhR x hx0 HDx.out hz2;have G1:=J g1;have G2:Hid (Z7 (Zw (x.extract 1 x.size).data.toList) k=Z7 v q):=J (by rw[g2];exact HVx.out);have G3:Hid (k=0\/(x.extract 1 x.size).size=0\/∀a b,(x.extract 1 x.size).data.toList=a++[b]->b.toNat≠48):=J (by
        rcases HLx.out with h|h|h
        ·exact .inl h
        ·omega
        ·exact .inr (g3 h))
       clear g1 g2 g3;go_wp2
       go_round
       case rel=>exact⟨_,rfl,by simp;omega,G1,G2,J (by first|exact G3.out|exact .inl trivial)⟩
       case measure=>simp[ZiS];omega
      ·have hzb2:((x[0].toNat:Int)==48)=false:=(by simpa using hz2);have HF:=J (ZbT n x k v q HDx.out (Zem x (.inr ⟨hx0,hz2⟩)) HLx.out HVx.out);go_wp2_with fail
       refine ZM (ZcL n x k _ (by unfold maxLen;omega)) ?_;rintro w1 hb1;obtain⟨hx1,hx2,hbb⟩:=Za6 hb1;obtain⟨f0,f1,f2⟩:=Zcv hb1;have HB:=J hbb;obtain⟨a0,a1,a2,a3⟩:=hx1;obtain⟨b0,b1,b2,b3⟩:=hx2;have HC:=J (Zb8 hb1 (.bool false) (.string ⟨#[]⟩) (I 0));have HC2:=J (Zb8 hb1 (.bool n) (.string x) (I (k:Int)));clear hb1 hbb;cases hdb:ZP n x (k:Int)
       ·have HRE:Hid (R=(false,ByteArray.empty,0,false)):=J (HR.out.symm.trans (ZkR HF.out (by omega) hdb));go_wp2;obtain⟨c0,c1,c2⟩:=HC.out;exact bodyPost_ret (v:=ZJ) (by simp[ZJ,results,results138,go_sem,c0,c1,c2]) rfl ⟨by rw[HRE.out];rfl,Zat HB.out _ _ _⟩
       ·have HRE:Hid (R=(n,x,(k:Int),true)):=J (HR.out.symm.trans (ZhX HF.out (by omega) hdb));go_wp2;obtain⟨c0,c1,c2⟩:=HC2.out;exact bodyPost_ret (v:=.tuple #[.agg #[.bool n,.string x,I (k:Int)],.bool true]) (by simp[results,results138,go_sem,c0,c1,c2]) rfl ⟨by rw[HRE.out];rfl,Zat HB.out _ _ _⟩
end
section
open Go.RowKit Go.Joins

theorem Zvn(c:Int)(w:World):Calls prog 283 #[I c] w λe w'=>e=.returned (.bool (isS sgO c))/\w'=w:=by
 go_enter func283,ntmps283
 go_wp2
 go_loop [3] (λi=>∃k:Nat,k<=12/\i=I k/\Hid (∀j,j<k->((sgO[j]?.getD 0).toNat:Int)≠c)) (λi=>12-(Zi i).toNat)
 case atStart=>exact⟨0,Zx _,rfl,λj h=>by omega⟩
 case round=>
  obtain⟨k,hk,rfl,HA⟩:=hrel;by_cases hlt:k<12
  ·have hki:(k:Int)<12:=by omega
   have hkb:k<(⟨#[46,92,63,42,43,123,125,40,41,124,91,93]⟩:ZB).size:=hlt;have hkb2:(k:Int)<((⟨#[46,92,63,42,43,123,125,40,41,124,91,93]⟩:ZB).size:Int):=hki;obtain⟨x,hx⟩:∃x:UInt8,(⟨#[46,92,63,42,43,123,125,40,41,124,91,93]⟩:ZB)[k]'hkb=x:=⟨_,rfl⟩;have hx2:sgO[k]?.getD 0=x:=by
    rw[<-hx];have hkl:k<sgO.length:=hlt;rw[Zv hkl];rfl
   have HX2:=J hx2;have hx8:x.toNat<256:=x.toNat_lt;clear hx2;by_cases he:(x.toNat:Int)=c
   ·have heb:((x.toNat:Int)==c)=true:=(by rw[ZEd];exact he);have HY:Hid (isS sgO c=true):=J (ZyM (j:=k) hlt (by rw[HX2.out];exact he));clear he;go_wp2;go_ret;exact⟨Zo HY.out.symm,rfl⟩
   ·have heb:((x.toNat:Int)==c)=false:=(by rw[ZDU];exact he);have HA2:Hid (∀j,j<k+1->((sgO[j]?.getD 0).toNat:Int)≠c):=J (λj hj=>by
     by_cases e:j=k
     ·subst e;rw[HX2.out];exact he
     ·exact HA.out j (by omega))
    clear he;go_wp2
    go_round
    case rel=>exact⟨k+1,by omega,by go_num,HA2⟩
    case measure=>simp[Zi];omega
  ·have hkm:k=12:=by omega
   subst hkm;have HN:Hid (isS sgO c=false):=J (ZBk HA.out);go_wp2;go_ret;exact⟨Zo HN.out.symm,rfl⟩
end
end Go.Proofs.YtcdnilpdohknfaaGreatDoor
