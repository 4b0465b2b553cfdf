import Derived.Test.YtcdnilpdohknfaaGreatDoorJ14
import Derived.Test.YtcdnilpdohknfaaGreatDoorJ15
import Derived.Maps.Own
import Derived.Maps.OwnOps
import Derived.Maps.OwnSet
import Derived.Maps.Views
import Derived.Maps.RangeWalk
set_option linter.unusedVariables false
set_option linter.unusedSimpArgs false
set_option maxRecDepth 100000
set_option maxHeartbeats 16000000
namespace Go.Proofs.YtcdnilpdohknfaaGreatDoor
open Tryz
section
open Go.RowKit
theorem Zmb(x:UInt8):(x.toNat:Int).toNat.toUInt8=x:=by simp
theorem ZxG(r:Int)(w:World)(h:128<=r)(h2:r<=1114111)(hv:Lib.validRune r=true)(he:r≠65533)(a b:UInt8)(hN:Utf8.encode r=⟨#[a,b]⟩)(hb:128<=b.toNat):Calls prog 119 #[.string ⟨#[32,9,10,13]⟩,.int .i32 r] w (Zpi w):=by
 have CV:=J (ZFc r w);rw[hv]at CV;have hcv:=Zmq r;rw[hN]at hcv;have hnot:∀(x:Bool) (w:World),(Op.unary .not (.bool x)).run prog w=.ok (.bool (!x)) w:=λ_ _=>rfl
 have h0:(0:Int)<=r:=by omega
 have h1:¬r<128:=by omega
 have e1:(r==65533)=false:=by simpa using he
 have hne:(((⟨#[32,9,10,13]⟩:ZB)[1]'(by decide)).toNat:Int)≠(((⟨#[a,b]⟩:ZB)[1]'(Zb 2)).toNat:Int):=by
  have e1:((⟨#[32,9,10,13]⟩:ZB)[1]'(by decide)).toNat<128:=by decide
  have e2:128<=((⟨#[a,b]⟩:ZB)[1]'(Zb 2)).toNat:=hb;omega
 have hne2:((((⟨#[32,9,10,13]⟩:ZB)[1]'(by decide)).toNat:Int) != (((⟨#[a,b]⟩:ZB)[1]'(Zb 2)).toNat:Int))=true:=by
  rw[bne_iff_ne];exact hne
 go_enter func119,ntmps119
 go_wp2_with (go_at_call 155;refine Zc CV.out ?_)
 go_step3
 go_wp2
 go_loopw [9] (λv9 wr=>v9=I 1/\wr=w) (λ_ _=>0)
 case atStart=>exact⟨rfl,rfl⟩
 case round=>
  obtain⟨rfl,rfl⟩:=hrel;go_wp2
  go_step3
  go_wp2
  go_region
  go_wp2;go_region_with (go_at_call 154;refine(ZE5 _ _ _).mono ?_;rintro e w9 ⟨he9,h9⟩;have e9:e=.returned (I (-1)):=he9.trans (by rw[Zj3 _ _ (by decide) (by rw[Zmb];exact hb)]);rw[e9,h9];clear he9 e9 h9)
  all_goals (go_wp2;rw[ZEq];go_ret;exact⟨rfl,(((Ze _ _).drew).drew)⟩)
theorem Zx6(r:Int)(w:World)(h:128<=r)(h2:r<=1114111)(hv:Lib.validRune r=true)(he:r≠65533)(a b c:UInt8)(hN:Utf8.encode r=⟨#[a,b,c]⟩)(hb:128<=c.toNat):Calls prog 119 #[.string ⟨#[32,9,10,13]⟩,.int .i32 r] w (Zpi w):=by
 have CV:=J (ZFc r w);rw[hv]at CV;have hcv:=Zmq r;rw[hN]at hcv;have hnot:∀(x:Bool) (w:World),(Op.unary .not (.bool x)).run prog w=.ok (.bool (!x)) w:=λ_ _=>rfl
 have h0:(0:Int)<=r:=by omega
 have h1:¬r<128:=by omega
 have e1:(r==65533)=false:=by simpa using he
 have hne:(((⟨#[32,9,10,13]⟩:ZB)[2]'(by decide)).toNat:Int)≠(((⟨#[a,b,c]⟩:ZB)[2]'(Zb 3)).toNat:Int):=by
  have e1:((⟨#[32,9,10,13]⟩:ZB)[2]'(by decide)).toNat<128:=by decide
  have e2:128<=((⟨#[a,b,c]⟩:ZB)[2]'(Zb 3)).toNat:=hb;omega
 have hne2:((((⟨#[32,9,10,13]⟩:ZB)[2]'(by decide)).toNat:Int) != (((⟨#[a,b,c]⟩:ZB)[2]'(Zb 3)).toNat:Int))=true:=by
  rw[bne_iff_ne];exact hne
 go_enter func119,ntmps119
 go_wp2_with (go_at_call 155;refine Zc CV.out ?_)
 go_step3
 go_wp2
 go_loopw [9] (λv9 wr=>v9=I 2/\wr=w) (λ_ _=>0)
 case atStart=>exact⟨rfl,rfl⟩
 case round=>
  obtain⟨rfl,rfl⟩:=hrel;go_wp2
  go_step3
  go_wp2
  go_region
  go_wp2;go_region_with (go_at_call 154;refine(ZE5 _ _ _).mono ?_;rintro e w9 ⟨he9,h9⟩;have e9:e=.returned (I (-1)):=he9.trans (by rw[Zj3 _ _ (by decide) (by rw[Zmb];exact hb)]);rw[e9,h9];clear he9 e9 h9)
  all_goals (go_wp2;rw[ZEq];go_ret;exact⟨rfl,(((Ze _ _).drew).drew)⟩)
theorem ZxW(r:Int)(w:World)(h:128<=r)(h2:r<=1114111)(hv:Lib.validRune r=true)(he:r≠65533)(a b c d:UInt8)(hN:Utf8.encode r=⟨#[a,b,c,d]⟩)(hb:128<=d.toNat):Calls prog 119 #[.string ⟨#[32,9,10,13]⟩,.int .i32 r] w (Zpi w):=by
 have CV:=J (ZFc r w);rw[hv]at CV;have hcv:=Zmq r;rw[hN]at hcv;have hnot:∀(x:Bool) (w:World),(Op.unary .not (.bool x)).run prog w=.ok (.bool (!x)) w:=λ_ _=>rfl
 have h0:(0:Int)<=r:=by omega
 have h1:¬r<128:=by omega
 have e1:(r==65533)=false:=by simpa using he
 have hne:(((⟨#[32,9,10,13]⟩:ZB)[3]'(by decide)).toNat:Int)≠(((⟨#[a,b,c,d]⟩:ZB)[3]'(Zb 4)).toNat:Int):=by
  have e1:((⟨#[32,9,10,13]⟩:ZB)[3]'(by decide)).toNat<128:=by decide
  have e2:128<=((⟨#[a,b,c,d]⟩:ZB)[3]'(Zb 4)).toNat:=hb;omega
 have hne2:((((⟨#[32,9,10,13]⟩:ZB)[3]'(by decide)).toNat:Int) != (((⟨#[a,b,c,d]⟩:ZB)[3]'(Zb 4)).toNat:Int))=true:=by
  rw[bne_iff_ne];exact hne
 go_enter func119,ntmps119
 go_wp2_with (go_at_call 155;refine Zc CV.out ?_)
 go_step3
 go_wp2
 go_loopw [9] (λv9 wr=>v9=I 3/\wr=w) (λ_ _=>0)
 case atStart=>exact⟨rfl,rfl⟩
 case round=>
  obtain⟨rfl,rfl⟩:=hrel;go_wp2
  go_step3
  go_wp2
  go_region
  go_wp2;go_region_with (go_at_call 154;refine(ZE5 _ _ _).mono ?_;rintro e w9 ⟨he9,h9⟩;have e9:e=.returned (I (-1)):=he9.trans (by rw[Zj3 _ _ (by decide) (by rw[Zmb];exact hb)]);rw[e9,h9];clear he9 e9 h9)
  all_goals (go_wp2;rw[ZEq];go_ret;exact⟨rfl,(((Ze _ _).drew).drew)⟩)
theorem Zre(x:Nat)(h:x<128):decide (0<=Lib.indexByte [32,9,10,13] (x:Int).toNat.toUInt8)=blR x:=by
 have:∀y:Fin 128,decide (0<=Lib.indexByte [32,9,10,13] ((y.val:Nat):Int).toNat.toUInt8)=blR y.val:=by decide
 exact this ⟨x,h⟩
theorem ZA6(x:Nat)(h:128<=x):blR x=false:=by
 unfold blR;have:∀m:Nat,m<128->(x==m)=false:=λm hm=>by simp;omega
 rw[this 32 (by omega),this 9 (by omega),this 10 (by omega),this 13 (by omega)];rfl
theorem ZCr(x:Nat)(w:World)(h:128<=x)(h2:x<=1114111):Calls prog 119 #[.string ⟨#[32,9,10,13]⟩,.int .i32 x] w (Zpi w):=by
 by_cases he:x=65533
 ·subst he;exact ZCv w
 ·cases hv:Lib.validRune (x:Int)
  ·exact ZB9 x w (by omega) (by omega) hv (by omega)
  ·rcases ZBL x (by omega) hv with ⟨a,b,e,hb⟩|⟨a,b,c,e,hb⟩|⟨a,b,c,d,e,hb⟩
   ·exact ZxG x w (by omega) (by omega) hv (by omega) a b e hb
   ·exact Zx6 x w (by omega) (by omega) hv (by omega) a b c e hb
   ·exact ZxW x w (by omega) (by omega) hv (by omega) a b c d e hb
theorem ZzM(x:Nat)(w:World)(h2:x<=1114111):Calls prog 72 #[.string ⟨#[32,9,10,13]⟩,.int .i32 x] w λe w'=>e=.returned (.bool (blR x))/\ZL w w':=by
 by_cases h:x<128
 ·refine Zc (ZEZ ⟨#[32,9,10,13]⟩ (x:Int) w (by omega) (by omega)) ?_;refine⟨?_,Ze _ _⟩;rw[<-Zre x h]
 ·have CR:=J (ZCr x w (by omega) h2);rw[ZA6 x (by omega)];go_enter func72,ntmps72
  go_wp2_with (go_at_call 119;refine ZM CR.out ?_;rintro w9 hb;have HB:=J hb;clear hb)
  go_ret;exact⟨rfl,HB.out⟩
theorem ZAE(x:Nat)(w:World)(h2:x<=1114111):Calls prog 71 #[.int .i32 x] w λe w'=>e=.returned (.bool (blR x))/\ZL w w':=by
 have CR:=J (ZzM x w h2);go_enter func71,ntmps71
 go_wp2_with (go_at_call 72;refine ZM CR.out ?_;rintro w9 hb;have HB:=J hb;clear hb)
 go_ret;exact⟨rfl,HB.out⟩
theorem ZAk(w:World):PredGrows prog 71 #[] blR w:=λW x hx hb=>ZAE x W hx
def ZwJ(s:ZB)(w:World)(e:Ending)(w':World):Prop:=∃A,e=.returned (.slice (some ⟨A,0,none⟩) (Lib.goFieldsP blR s).length (Lib.goFieldsP blR s).length)/\w'.ownsRow w.heap.size 9 1 (.slice (some ⟨A,0,none⟩) (Lib.goFieldsP blR s).length (Lib.goFieldsP blR s).length) (Lib.goFieldsP blR s).length ((Lib.goFieldsP blR s).map Value.string)/\ZL w w'
theorem ZlY(s:ZB)(w:World)(hs:s.size<=1048576):Calls prog 40 #[.string s] w (ZwJ s w):=by
 have CF:=J (ZE3 71 #[] (λargs w=>enters_of func71 (by kernel_rfl) rfl args w) blR s w (by omega) (ZAk w));go_enter func40,ntmps40
 go_wp2_with (go_at_call 70;refine CF.out.mono ?_;rintro e w1 ⟨A,rfl,hA,ho,hb⟩;have HO:=J ho;have HB:=J hb;clear ho hb)
 go_ret;exact⟨A,rfl,HO.out,HB.out⟩
theorem ZgA(s:ZB)(i:Int)(w:World)(hs:s.size<=1048576):
  Calls prog 17 #[.string s,I i] w λe w'=>e=.returned (.string (whB s i))/\ZL w w':=by
 by_cases h1:i=1
 ·subst h1;have HE:Hid (whB s 1=⟨(reB s.data.toList).toArray⟩):=J rfl;have CN:=J (Zz0 w.heap.size (w.alloc (.cells ZpJ.toArray 9)) (Zz w _));go_enter func17,ntmps17
  go_wp2_with (first|(go_at_call 37;refine CN.out.mono ?_;rintro e w1 ⟨R,g,cap,rfl,⟨hR,hgR⟩,hrep,ho,hb⟩;have CR:=J (Zz5 R g cap _ s w1 hs hgR hrep ho);have HB:=J hb;have hRl:w.heap.size<=R:=(by have:=hR;simp at this;omega);clear hrep ho hb)|(go_at_call 38;refine ZM CR.out ?_;rintro w2 hb2;have HB2:=J hb2;clear hb2))
  go_ret;refine⟨by rw[HE.out];rfl,?_⟩;have h3:ZL w (w.alloc (.cells ZpJ.toArray 9)):=(Ze _ _).alloc (Zb _) _;exact(h3.trans (HB.out.mono h3.size)).trans (HB2.out.mono hRl)
 ·have e1:(i==1)=false:=by simpa using h1
  by_cases h2:i=2
  ·subst h2;have CW:=J (ZlY s w hs);have HE:Hid (whB s 2=jnB s):=J rfl;have HFW:=J (Zcy s);have hbd:=Zou s.data.toList [];have HQ:Hid ((Lib.join (wdB [] s.data.toList) [32]).length<=1048578/\(wdB [] s.data.toList).length<=1048578):=J (by
    have h5:s.data.toList.length=s.size:=(by simp);rw[h5]at hbd;simp at hbd;have h6:=Zgd [32] rfl (wdB [] s.data.toList);have h7:∀l:List (List UInt8),l.length<=Zip l:=λl=>by
     induction l with
     |nil=>simp
     |cons t l ih=>simp only[Zip,ZDB];omega
    have h8:=h7 (wdB [] s.data.toList);omega)
   have HLN:Hid ((Lib.goFieldsP blR s).length=(wdB [] s.data.toList).length):=J (by
    have:=Zn List.length (Zcy s);rw[ZDD]at this;exact this)
   clear hbd;have CJ:Hid (∀(A:Nat) (w1:World),w1.ownsRow w.heap.size 9 1 (.slice (some ⟨A,0,none⟩) (Lib.goFieldsP blR s).length (Lib.goFieldsP blR s).length) (Lib.goFieldsP blR s).length ((Lib.goFieldsP blR s).map Value.string)->Calls prog 39 #[.slice (some ⟨A,0,none⟩) (Lib.goFieldsP blR s).length (Lib.goFieldsP blR s).length,.string ⟨#[32]⟩] w1 λe w'=>e=.returned (.string (jnB s))/\ZL w1 w'):=J (λA w1 ho=>by
    refine(ZE6 A 0 (Lib.goFieldsP blR s).length (Lib.goFieldsP blR s) ⟨#[32]⟩ w1 (λj x hx=>?_) ?_ (by rw[HLN.out];have:=HQ.out.2;omega) (Zb _) (by rw[HFW.out];exact ZDA HQ.out.1 (by omega))).mono ?_
    ·have hj:=(List.getElem?_eq_some_iff.1 hx).1;have h8:=ho.cellAt j (by simpa using hj);rw[ZDE,h8];rw[List.getElem?_map,hx];rfl
    ·exact(ho.lt A rfl).2
    ·rintro e w' ⟨rfl,hb⟩;refine⟨?_,hb⟩;rw[HFW.out];rfl)
   go_enter func17,ntmps17
   go_wp2_with (first|(go_at_call 40;refine CW.out.mono ?_;rintro e w1 ⟨A,rfl,ho,hb⟩;have CJ1:=J (CJ.out A w1 ho);have HB:=J hb;clear ho hb)|(go_at_call 39;refine ZM CJ1.out ?_;rintro w2 hb2;have HB2:=J (HB.out.trans (hb2.mono HB.out.size));clear hb2))
   go_ret;exact⟨by rw[HE.out];rfl,HB2.out⟩
  ·have e2:(i==2)=false:=by simpa using h2
   have HE:Hid (whB s i=s):=J (by unfold whB;rw[Za h1,Za h2]);go_enter func17,ntmps17
   go_wp2;go_ret;exact⟨by rw[HE.out];rfl,Ze _ _⟩
end
def WOk(W:List (List UInt8)):Prop:=∀x∈W,x≠[]/\∀c∈x,blB c=false
theorem ZxD:∀(l cur:List UInt8),(∀c∈cur,blB c=false)->WOk (wdB cur l)
 |[],cur,h=>by
  unfold wdB;by_cases e:cur=[]
  ·rw[Zd e];intro x hx;cases hx
  ·rw[Za e];intro x hx;rw[List.mem_singleton]at hx;subst hx;exact⟨e,h⟩
 |c::l,cur,h=>by
  rw[wdB];by_cases hb:blB c=true
  ·rw[Zd hb];have ih:=ZxD l [] (λc hc=>by cases hc);by_cases e:cur=[]
   ·rw[Zd e];exact ih
   ·rw[Za e];intro x hx;rcases List.mem_cons.1 hx with rfl|hx
    ·exact⟨e,h⟩
    ·exact ih x hx
  ·rw[Za hb];exact ZxD l (cur++[c]) (λd hd=>by
    rcases List.mem_append.1 hd with hd|hd
    ·exact h d hd
    ·rw[List.mem_singleton]at hd;subst hd;simpa using hb)
theorem Zd4(x y:List UInt8)(r:List (List UInt8)):Lib.join (x::y::r) [32]=x++32::Lib.join (y::r) [32]:=by
 rw[Lib.join_cons,Lib.join_cons];simp[Lib.joinTail]
theorem ZqB:∀(W:List (List UInt8)),WOk W->wdB [] (Lib.join W [32])=W
 |[],_=>rfl
 |[x],h=>by
  rw[Lib.join_one];obtain⟨h1,h2⟩:=h x (ZDH ..);have:=Zlo x [] [] h2;rw[List.append_nil,List.nil_append]at this;rw[this,wdB,Za h1]
 |x::y::r,h=>by
  obtain⟨h1,h2⟩:=h x (ZDH ..);have ih:=ZqB (y::r) (λz hz=>h z (ZDN _ hz));rw[Zd4,Zlo x [] _ h2,List.nil_append,wdB,Zd (by decide),Za h1,ih]
section
open Go.RowKit Go.Joins Go.Maps
theorem Zox:Keyed prog 2:=int_keyed underlying2
theorem Zme(w:World):(zeroValue 93).run prog w=.ok (.agg #[]) w:=by kernel_rfl
def PS(w:World)(b:Nat)(S:Nat->Bool)(K:Nat):Prop:=∃(n:Nat) (D:DataW Unit),w.ownsMap prog 2 unitElem b n D/\n+nf S K<=K/\IsMap D/\(∀x:Int,Maps.has D (Lit.int .i64 x)=true↔∃q:Nat,x=q/\S q=true)/\∀q,S q=true->q<K
theorem ZCh{p:Nat}(h:p<=400000):keyOf prog 2 (I (p:Int))=some (Lit.int .i64 (p:Int)):=keyOf_int_mk underlying2 (WalkArith.wf_i64 (by omega))
theorem ZBH{x y:Int}(h:x≠y):Lit.int .i64 x≠Lit.int .i64 y:=λe=>h (by injection e)
theorem ZnY{D:DataW Unit}{S:Nat->Bool}(h:∀x:Int,Maps.has D (Lit.int .i64 x)=true↔∃q:Nat,x=q/\S q=true)(p:Nat):Maps.has D (Lit.int .i64 (p:Int))=S p:=by
 cases e:S p
 ·cases e2:Maps.has D (Lit.int .i64 (p:Int))
  ·rfl
  ·obtain⟨q,h1,h2⟩:=(h p).1 e2;have:p=q:=by omega
   subst this;rw[e]at h2;cases h2
 ·exact(h p).2 ⟨p,rfl,e⟩
theorem Zog{w:World}{b p K n:Nat}{S:Nat->Bool}{D:DataW Unit}(h:w.ownsMap prog 2 unitElem b (n+1) (D.put (Lit.int .i64 (p:Int)) (.agg [])))(hn:n+nf S K<=K)(hm:IsMap D)(hh:∀x:Int,Maps.has D (Lit.int .i64 x)=true↔∃q:Nat,x=q/\S q=true)(hK:∀q,S q=true->q<K)(hp:S p=false)(hpK:p<K):PS w b (Zlc S p) K:=by
 refine⟨n+1,_,h,?_,?_,λx=>?_,λq hq=>?_⟩
 ·have:=ZsG (S:=S) (S':=Zlc S p) (λx hx=>Zfi hx) hp (Zd2 _ _) K hpK;omega
 ·obtain⟨es,rfl⟩:=hm;exact⟨_,rfl⟩
 ·by_cases e:x=p
  ·subst e;rw[has_put_same hm (by trivial)];exact⟨λ_=>⟨p,rfl,Zd2 _ _⟩,λ_=>rfl⟩
  ·rw[has_put_other (ZBH e),hh x];constructor
   ·rintro ⟨q,h1,h2⟩;exact⟨q,h1,Zfi h2⟩
   ·rintro ⟨q,rfl,h2⟩;rcases Ze7 h2 with h2|rfl
    ·exact⟨q,rfl,h2⟩
    ·exact absurd rfl e
 ·rcases Ze7 hq with h2|rfl
  ·exact hK q h2
  ·exact hpK
theorem ZsR{w:World}{b:Nat}{K:Nat}(h:w.ownsMap (H:=Unit) prog 2 unitElem b 0 (.map [])):PS w b (λ_=>false) K:=⟨0,_,h,by rw[Zmy];omega,isMap_empty,λx=>⟨λh=>(by cases h),λh=>(by obtain⟨q,-,h⟩:=h;cases h)⟩,λq h=>(by cases h)⟩
theorem ZgL{S:Nat->Prop}{w w':World}(h:Kp S w w'){b:Nat}(hS:∀j,S j->j=b):w.grownBy w' (some b):=⟨h.os,h.tape,h.output,h.size,λi hi hne=>h.block i hi (λhs=>hne (by rw[hS i hs]))⟩
theorem Zfl{w w':World}{b K:Nat}{S:Nat->Bool}{T:Nat->Prop}(h:PS w b S K)(k:Kp T w w')(hb:¬T b):PS w' b S K:=by
 obtain⟨n,D,h1,h2⟩:=h;have hlt:=h1.lt;obtain⟨es,clock,hb1,F,hs,hD⟩:=h1;exact⟨n,D,⟨es,clock,(k.block b hlt hb).trans hb1,F,hs,hD⟩,h2⟩
theorem ZwO{w:World}{b K:Nat}{S:Nat->Bool}(h:PS w b S K):b<w.heap.size:=by obtain⟨n,D,h1,h2⟩:=h;exact h1.lt
theorem Zlv{w:World}{b K:Nat}{S:Nat->Bool}(h:PS w b S K):∃es cl,w.heap[b]?=some (.map es cl):=by
 obtain⟨n,D,⟨es,clock,hb1,-⟩,-⟩:=h;exact⟨es,clock,hb1⟩
theorem Zn9{B R b:Nat}{w w':World}{v0 v2 v3:Value}{M:List Sp}(h:MA B w R v0 v2 v3 M)(hb:∃es cl,w.heap[b]?=some (.map es cl))(k:Kp (λj=>j=b) w w'):MA B w' R v0 v2 v3 M:=by
 obtain⟨es,cl,hb⟩:=hb;refine Zz4 h k ?_ ?_
 ·intro e;have e':R=b:=e;obtain⟨h0,sa,sc,h1,h2⟩:=h;subst e';unfold MX at h1;rw[hb]at h1;cases h1
 ·intro j cur e hc;have e':j=b:=e;subst e';rw[hb]at hc;cases hc
def SXm(w:World)(G:Nat)(fk:Bool)(cs nx ot:Nat):Prop:=w.heap[G]?=some (.cells #[.bool fk,I cs,I nx,I ot] 233 (0,0))
theorem ZpV(w:World)(fk:Bool)(cs nx ot:Nat):SXm (w.alloc (.cells #[.bool fk,I cs,I nx,I ot] 233)) w.heap.size fk cs nx ot:=Zz w _
theorem Zgc{w:World}{G:Nat}{fk:Bool}{cs nx ot:Nat}(h:SXm w G fk cs nx ot):w.cell? ⟨G,0,none⟩=some (.bool fk)/\w.cell? ⟨G,1,none⟩=some (I cs)/\w.cell? ⟨G,2,none⟩=some (I nx)/\w.cell? ⟨G,3,none⟩=some (I ot):=by
 have e:∀i,w.cell? ⟨G,i,none⟩=(#[.bool fk,I cs,I nx,I ot]:Array Value)[i]?:=λi=>by rw[ZO w G i _ _ (0,0) h]
 exact⟨e 0,e 1,e 2,e 3⟩
theorem ZtP{w w':World}{G:Nat}{fk:Bool}{cs nx ot:Nat}{T:Nat->Prop}(h:SXm w G fk cs nx ot)(k:Kp T w w')(hT:¬T G):SXm w' G fk cs nx ot:=(k.block G (Array.getElem?_eq_some_iff.1 h).1 hT).trans h
def RcA(M:List Sp)(K b:Nat)(S:Nat->Bool)(p:Nat)(w:World)(e:Ending)(w':World):Prop:=e=.returned (.tuple #[])/\∃S',PS w' b S' K/\RcP M S p S'/\Kp (λj=>j=b) w w'
theorem Zrd(X:Rx)(B R:Nat)(v0 v2 v3:Value)(M:List Sp)(K b:Nat)(hM:M.length=K)(hX:K<=400000)(hW:Wf X M):∀(m:Nat) (S:Nat->Bool) (p:Nat) (w:World),nf S K<m->p<K->MA B w R v0 v2 v3 M->PS w b S K->
  Calls prog 189 #[.pointer (some ⟨R,0,none⟩),.map (some b),I p] w (RcA M K b S p w)
 |0,S,p,w,hm,hp,h,hps=>by omega
 |m+1,S,p,w,hm,hp,h,hps=>by
  have IH:Hid (∀(S:Nat->Bool) (p:Nat) (w:World),nf S K<m->p<K->MA B w R v0 v2 v3 M->PS w b S K->Calls prog 189 #[.pointer (some ⟨R,0,none⟩),.map (some b),I p] w (RcA M K b S p w)):=J (λS p w h1 h2 h3 h4=>Zrd X B R v0 v2 v3 M K b hM hX hW m S p w h1 h2 h3 h4);have HM:=J h;obtain⟨n,D,hown,hn,hmap,hh,hK⟩:=hps;have HHas:=ZnY hh p;have HOW:=J hown;have HI:=J hmap;have HH:=J hh;have HK:=J hK;have hkey:=ZCh (show p<=400000 by omega);have hnK:n+1<maxLen:=by unfold maxLen;omega
  obtain⟨s,hs⟩:∃s,M[p]?=some s:=⟨_,Zv (by omega)⟩;obtain⟨w1',w2',w3⟩:=hW p s hs;rw[hM]at w1' w2';obtain⟨fk,cs,nx,ot⟩:=s;simp only at w1' w2';have HS:=J hs;have HMp:Hid (∃es cl,w.heap[b]?=some (.map es cl)):=J (by obtain⟨es,clock,hb1,-⟩:=hown;exact⟨es,clock,hb1⟩);have hnf:S p=false->nf (Zlc S p) K<nf S K:=λhSp=>ZsG (S:=S) (S':=Zlc S p) (λx hx=>Zfi hx) hSp (Zd2 _ _) K hp
  have HML:=J hM;clear hW hown hmap hh hK hs w3 h hM;have hi:(p:Int)<(K:Int):=by omega
  have hi0:(0:Int)<=(p:Int):=by omega
  cases hSp:S p
  ·rw[hSp]at HHas;have hnf:=hnf hSp;cases fk
   ·go_enter func189,ntmps189
    go_wp2_with (first
     |(at_lookup;refine wpList_lookup_own_unit _ rfl _ _ 60 rfl 2 93 Zox underlying60 (Zme _) b n _ rfl HOW.out _ _ rfl hkey ?_;rw[HHas])
     |(at_mapUpdate;refine wpList_mapUpdate_own _ rfl _ _ _ 60 rfl 2 93 Zox underlying60 (unitElem (H:=Unit)) b n _ rfl (HOW.out.alloc _) (by omega) _ _ _ rfl rfl hkey _ [] unitElem_mk ?_;intro w1 hown1 hgrow1;have hk1:Kp (λj=>j=b) w w1:=(Zay w _).trans (Zca (S:=λj=>j=b) hgrow1 (λk hk=>(Option.some.inj hk).symm)) (λ_ _ e=>e);have HK1:=J hk1;have HM1:=J (Zn9 HM.out HMp.out hk1);have HP1:=J (Zog hown1 hn HI.out HH.out HK.out hSp hp);obtain⟨sa,sc,q0,q1,q2,q3,ha⟩:=ZfZ HM1.out;rw[HML.out]at q1;obtain⟨g,rfl,hg,s0,s1,s2,s3⟩:=ha p _ HS.out;simp only at s0 s1 s2 s3;clear hown1 hgrow1 hk1 ha))
    go_end0
    exact⟨rfl,_,Zfl HP1.out (Zay (S:=λ_=>False) _ _) (λe=>e),ZrR HS.out rfl,HK1.out.trans (Zay (S:=λ_=>False) _ _) (λ_ _ e=>e.elim)⟩
   ·go_enter func189,ntmps189
    go_wp2_with (first
     |(at_lookup;refine wpList_lookup_own_unit _ rfl _ _ 60 rfl 2 93 Zox underlying60 (Zme _) b n _ rfl HOW.out _ _ rfl hkey ?_;rw[HHas])
     |(at_mapUpdate;refine wpList_mapUpdate_own _ rfl _ _ _ 60 rfl 2 93 Zox underlying60 (unitElem (H:=Unit)) b n _ rfl (HOW.out.alloc _) (by omega) _ _ _ rfl rfl hkey _ [] unitElem_mk ?_;intro w1 hown1 hgrow1;have hk1:Kp (λj=>j=b) w w1:=(Zay w _).trans (Zca (S:=λj=>j=b) hgrow1 (λk hk=>(Option.some.inj hk).symm)) (λ_ _ e=>e);have HK1:=J hk1;have HM1:=J (Zn9 HM.out HMp.out hk1);have HP1:=J (Zog hown1 hn HI.out HH.out HK.out hSp hp);obtain⟨sa,sc,q0,q1,q2,q3,ha⟩:=ZfZ HM1.out;rw[HML.out]at q1;obtain⟨g,rfl,hg,s0,s1,s2,s3⟩:=ha p _ HS.out;simp only at s0 s1 s2 s3;clear hown1 hgrow1 hk1 ha))
    have hb1:=ZwO HP1.out;have HX1:=J (ZpV w1 true cs nx ot);have HMa:=λo=>J (Zg4 HM1.out ((Ze w1.heap.size w1).alloc (Zb _) o))
    have HPa:=λo=>J (Zfl HP1.out (Zay (S:=λ_=>False) w1 o) (λe=>e))
    have CA:=J (IH.out (Zlc S p) nx _ (by omega) w1' (HMa _).out (HPa (.cells #[.bool true,I cs,I nx,I ot] 233)).out);go_wp2_with fail
    refine ZM CA.out ?_;rintro w4 ⟨S4,hp4,hr4,hk4⟩;have HP4:=J hp4;have HR4:=J hr4;have HK4:=J hk4;have HX4:=J (ZtP HX1.out hk4 (λe=>by have e':w1.heap.size=b:=e;omega));have HM4:=J (Zn9 (HMa _).out (Zlv (HPa _).out) hk4);obtain⟨b0,b1,b2,b3⟩:=Zgc HX4.out;have CB:=J (IH.out S4 ot _ (by have:=ZjP hr4.1 K;omega) w2' HM4.out hp4);clear hp4 hr4 hk4;go_wp2_with fail
    refine ZM CB.out ?_;rintro w5 ⟨S5,hp5,hr5,hk5⟩;have HP5:=J hp5;have HR5:=J hr5;have HK5:=J hk5;clear hp5 hr5 hk5;go_wp2
    go_end0
    exact⟨rfl,S5,HP5.out,ZsE HS.out rfl HR4.out HR5.out,(((HK1.out.trans (Zay (S:=λ_=>False) _ _) (λ_ _ e=>e.elim)).trans HK4.out (λ_ _ e=>e)).trans HK5.out (λ_ _ e=>e))⟩
  ·rw[hSp]at HHas;go_enter func189,ntmps189
   go_wp2_with (first
    |(at_lookup;refine wpList_lookup_own_unit _ rfl _ _ 60 rfl 2 93 Zox underlying60 (Zme _) b n _ rfl HOW.out _ _ rfl hkey ?_;rw[HHas]))
   go_end0
   refine⟨rfl,S,⟨n,D,HOW.out.alloc _,hn,HI.out,HH.out,HK.out⟩,Zv0 hSp,Zay _ _⟩
theorem ZkT(k:Int)(w:World):(Instr.makeMap 60 (some (I k))).run prog w=.ok (.map (some w.heap.size)) (w.alloc (.map #[] 0)):=by kernel_rfl
def AfS(M:List Sp)(d:Nat->Bool)(S:Nat->Bool)(left:Lit->Bool)(T:Nat->Bool):Prop:=∀x,T x=true↔∃p s,S p=true/\left (Lit.int .i64 (p:Nat))=false/\M[p]?=some s/\s.fk=false/\d s.cs=true/\Rch M s.nx x
section
variable {M:List Sp} {d:Nat->Bool} {S:Nat->Bool} {left:Lit->Bool} {T T':Nat->Bool} {q:Nat} {s:Sp}
theorem ZeS(left:Lit->Bool)(q p:Nat):((λz:Lit=>left z && !z.sameKey (Lit.int .i64 (q:Int))) (Lit.int .i64 (p:Int))=false)↔left (Lit.int .i64 (p:Int))=false\/p=q:=by
 show(left _ && !(Lit.int .i64 (p:Int)).sameKey (Lit.int .i64 (q:Int)))=false↔_;have e:(Lit.int .i64 (p:Int)).sameKey (Lit.int .i64 (q:Int))=decide (p=q):=by
  by_cases h:p=q
  ·subst h;simp[Lit.sameKey]
  ·have h2:(p:Int)≠(q:Int):=by omega
   simp[Lit.sameKey,h,h2]
 rw[e];cases left (Lit.int .i64 (p:Int))<;>simp
theorem ZnE(h:AfS M d S left T)(hs:M[q]?=some s)(hn:¬(s.fk=false/\d s.cs=true)):AfS M d S (λz=>left z && !z.sameKey (Lit.int .i64 (q:Int))) T:=λx=>by
 rw[h x];constructor
 ·rintro ⟨p,u,h1,h2,h3⟩;exact⟨p,u,h1,(ZeS left q p).2 (.inl h2),h3⟩
 ·rintro ⟨p,u,h1,h2,h3,h4,h5,h6⟩;rcases(ZeS left q p).1 h2 with h2|rfl
  ·exact⟨p,u,h1,h2,h3,h4,h5,h6⟩
  ·rw[hs]at h3;cases h3;exact absurd ⟨h4,h5⟩ hn
theorem ZxK(h:AfS M d S left T)(hS:S q=true)(hs:M[q]?=some s)(h4:s.fk=false)(h5:d s.cs=true)(hT:∀x,T' x=true↔T x=true\/Rch M s.nx x):AfS M d S (λz=>left z && !z.sameKey (Lit.int .i64 (q:Int))) T':=λx=>by
 rw[hT x,h x];constructor
 ·rintro (⟨p,u,h1,h2,h3⟩|hr)
  ·exact⟨p,u,h1,(ZeS left q p).2 (.inl h2),h3⟩
  ·exact⟨q,s,hS,(ZeS left q q).2 (.inr rfl),hs,h4,h5,hr⟩
 ·rintro ⟨p,u,h1,h2,h3,h4',h5',h6⟩;rcases(ZeS left q p).1 h2 with h2|rfl
  ·exact .inl ⟨p,u,h1,h2,h3,h4',h5',h6⟩
  ·rw[hs]at h3;cases h3;exact .inr h6
theorem ZqG{D:DataW Unit}(hh:∀p:Nat,Maps.has D (Lit.int .i64 (p:Int))=S p):AfS M d S (Maps.has D) (λ_=>false):=λx=>by
 constructor
 ·intro h;cases h
 ·rintro ⟨p,s,h1,h2,-⟩;rw[hh p,h1]at h2;cases h2
theorem Zy2(h:AfS M d S left T)(hl:∀kl,left kl=false):Aft M d S T:=λx=>by
 rw[h x];constructor
 ·rintro ⟨p,s,h1,h2,h3⟩;exact⟨p,s,h1,h3⟩
 ·rintro ⟨p,s,h1,h3⟩;exact⟨p,s,h1,hl _,h3⟩
end
theorem Zew{w w':World}(h:ZL w w')(S:Nat->Prop):Kp S w w':=⟨h.os,h.tape,h.output,h.size,λj hj _=>h.block j hj⟩
def dX(X:Rx)(ch:Int)(n:Nat):Bool:=inC (X.NT n) (X.NR n) (X.L n) (X.H n) ch
def AfA(X:Rx)(M:List Sp)(K:Nat)(ch:Int)(S:Nat->Bool)(w:World)(e:Ending)(w':World):Prop:=∃T,e=.returned (.map (some w.heap.size))/\PS w' w.heap.size T K/\Clo M T/\Aft M (dX X ch) S T/\ZL w w'
end
section
open Go.RowKit Go.Joins
theorem ZkU(B R:Nat)(v0 v2 v3:Value)(M:List Sp)(m:Nat)(w:World)(hM:M.length=m)(hX:m<=400000)(h:MA B w R v0 v2 v3 M):
  Calls prog 188 #[.pointer (some ⟨R,0,none⟩)] w λe w'=>e=.returned (I m)/\MA B w' R v0 v2 v3 (M++[⟨true,0,m,m⟩])/\Bf B R w w':=by
 have C:=J (Zsa B R v0 v2 v3 M ⟨true,0,m,m⟩ m w hM hX h);obtain⟨sa,sc,d0,d1,d2,d3,-⟩:=ZfZ h;rw[hM]at d1;clear h hM;go_enter func188,ntmps188
 go_wp2_with (go_at_call 225;refine ZM C.out ?_;rintro w2 ⟨h2,hb2⟩;have H2:=J h2;have HB2:=J hb2;clear h2 hb2)
 go_ret;exact⟨rfl,H2.out,HB2.out⟩
def EiP(M2:List Sp)(p q r:Nat)(M3:List Sp):Prop:=(p=q/\r=p/\M3=M2)\/(p≠q/\(∃cs nx,M2[p]?=some ⟨true,cs,nx,q⟩)/\r=p/\M3=M2)\/(p≠q/\r=M2.length/\M3=M2++[⟨true,0,p,q⟩])
def EiA(B R:Nat)(v0 v2 v3:Value)(M:List Sp)(p q:Nat)(w:World)(e:Ending)(w':World):Prop:=∃r M3,e=.returned (I (r:Nat))/\EiP M p q r M3/\MA B w' R v0 v2 v3 M3/\Bf B R w w'
theorem ZnF(B R:Nat)(v0 v2 v3:Value)(M:List Sp)(p q m:Nat)(w:World)(hM:M.length=m)(hX:m<=400000)(hp:p<m)(hq:q<m)(h:MA B w R v0 v2 v3 M):
  Calls prog 226 #[.pointer (some ⟨R,0,none⟩),I p,I q] w (EiA B R v0 v2 v3 M p q w):=by
 obtain⟨s,hs⟩:∃s,M[p]?=some s:=⟨_,Zv (by omega)⟩;have HS:=J hs;have hB:=Zey h;have HB0:=J hB.1;have bA:∀o,Hid (Bf B R w (w.alloc o)):=λo=>J (ZdI hB.1 _)
 have mA:∀o,Hid (MA B (w.alloc o) R v0 v2 v3 M):=λo=>J (Zg4 h ((Ze w.heap.size w).alloc (Zb _) o))
 have CA:=J (λw h=>Zsa B R v0 v2 v3 M ⟨true,0,p,q⟩ m w hM hX h);obtain⟨sa,sc,d0,d1,d2,d3,hat⟩:=ZfZ h;obtain⟨g,rfl,hg,s0,s1,s2,s3⟩:=hat p s hs;obtain⟨fk,cs,nx,ot⟩:=s;simp only at s0 s1 s2 s3;have HM:=J hM;rw[hM]at d1;have hi:(p:Int)<(m:Int):=by omega
 have hi0:(0:Int)<=(p:Int):=by omega
 clear h hM hs hat hB;by_cases e:p=q
 ·subst e;go_enter func226,ntmps226
  go_wp2;go_ret;exact⟨p,M,rfl,.inl ⟨rfl,rfl,rfl⟩,(mA _).out,(bA _).out⟩
 ·have e1:((p:Int)==(q:Int))=false:=by rw[ZDU];omega
  by_cases e2:fk=true/\ot=q
  ·obtain⟨rfl,rfl⟩:=e2;go_enter func226,ntmps226
   go_wp2;go_ret;exact⟨p,M,rfl,.inr (.inl ⟨e,⟨cs,nx,HS.out⟩,rfl,rfl⟩),(mA _).out,(bA _).out⟩
  ·cases fk
   ·go_enter func226,ntmps226
    go_wp2_with (go_at_call 225;refine ZM (CA.out _ (mA _).out) ?_;rintro w2 ⟨h2,hb2⟩;have H2:=J h2;have HB2:=J (Zbe (bA _).out hb2);clear h2 hb2)
    go_ret;exact⟨m,_,rfl,.inr (.inr ⟨e,HM.out.symm,rfl⟩),H2.out,HB2.out⟩
   ·have e3:((ot:Int)==(q:Int))=false:=by
     rw[ZDU];intro x;exact e2 ⟨rfl,by omega⟩
    clear e2;go_enter func226,ntmps226
    go_wp2_with (go_at_call 225;refine ZM (CA.out _ (mA _).out) ?_;rintro w2 ⟨h2,hb2⟩;have H2:=J h2;have HB2:=J (Zbe (bA _).out hb2);clear h2 hb2)
    go_ret;exact⟨m,_,rfl,.inr (.inr ⟨e,HM.out.symm,rfl⟩),H2.out,HB2.out⟩
def lfB(kd mn mx:Int):Bool:=decide (kd=5)&&decide (mn=0)&&(decide (mx=1)||decide (mx = -1))
theorem ZBn(kd:Int)(nt:Bool)(a:Option Addr)(n c:Nat)(A B mn mx:Int)(w:World):
  Calls prog 287 #[.agg #[I kd,.bool nt,.slice a n c,I A,I B,I mn,I mx]] w λe w'=>e=.returned (.bool (lfB kd mn mx))/\ZL w w':=by
 have st:∀o,Hid (ZL w (w.alloc o)):=λo=>J ((Ze _ _).alloc (Zb _) _)
 by_cases h5:kd=5
 ·subst h5;by_cases h0:mn=0
  ·subst h0;by_cases h1:mx=1
   ·subst h1;go_enter func287,ntmps287
    go_wp2;go_ret;exact⟨rfl,(st _).out⟩
   ·have e1:(mx==1)=false:=(by rw[ZDU];exact h1);by_cases h2:mx = -1
    ·subst h2;go_enter func287,ntmps287
     go_wp2;go_ret;exact⟨rfl,(st _).out⟩
    ·have e2:(mx == -1)=false:=(by rw[ZDU];exact h2);have HV:Hid (lfB 5 0 mx=false):=J (by simp[lfB,h1,h2]);clear h1 h2;go_enter func287,ntmps287
     go_wp2;go_ret;exact⟨Zo HV.out.symm,(st _).out⟩
  ·have e0:(mn==0)=false:=by rw[ZDU];exact h0
   have HV:Hid (lfB 5 mn mx=false):=J (by simp[lfB,h0]);clear h0;go_enter func287,ntmps287
   go_wp2;go_ret;exact⟨Zo HV.out.symm,(st _).out⟩
 ·have e0:(kd==5)=false:=by rw[ZDU];exact h5
  have HV:Hid (lfB kd mn mx=false):=J (by simp[lfB,h5]);clear h5;go_enter func287,ntmps287
  go_wp2;go_ret;exact⟨Zo HV.out.symm,(st _).out⟩
end
section
open Go.RowKit
theorem ZgU{w w3:World}{y mo d h mi s:Int}{g:Bool}{z:Int}{T:TypeId}(hx:Below ((w.alloc (.cells #[I 0,I 0,I 0,I 0,I 0,I 0,.bool false,I 0] T)).alloc (.cells #[I y,I mo,I d,I h,I mi,I s,.bool g,I z] T)).heap.size ((w.alloc (.cells #[I 0,I 0,I 0,I 0,I 0,I 0,.bool false,I 0] T)).alloc (.cells #[I y,I mo,I d,I h,I mi,I s,.bool g,I z] T)) w3):Zkr w w3/\Zgl w3 (w.heap.size+1) y mo d h mi s g z:=by
 have s1:(w.alloc (.cells #[I 0,I 0,I 0,I 0,I 0,I 0,.bool false,I 0] T)).heap.size=w.heap.size+1:=by simp
 have n1:=Zds w 0 0 0 0 0 0 false 0 T;have n2:=Zds (w.alloc (.cells #[I 0,I 0,I 0,I 0,I 0,I 0,.bool false,I 0] T)) y mo d h mi s g z T;rw[s1]at n2;exact⟨⟨ZcQ (Zl9 n1 _) hx,Zp (((Ze _ _).alloc (Zb _) _).alloc (by simp) _) hx⟩,ZcQ n2 hx⟩
theorem ZeM(w:World)(o p:Obj):ZL w ((w.alloc o).alloc p):=((Ze _ _).alloc (Zb _) _).alloc (by simp) _
theorem Zpr(s:ZB)(w:World)(hs:s.size<=1048576):Calls prog 140 #[.string s,I 0,I 4] w λe w'=>e=.returned (I (Zf s 0 4))/\w'=w:=ZgS s 0 4 w hs (by omega) (by omega)
theorem ZoT(s:ZB)(w:World)(hs:s.size<=1048576):Calls prog 140 #[.string s,I 5,I 2] w λe w'=>e=.returned (I (Zf s 5 2))/\w'=w:=ZgS s 5 2 w hs (by omega) (by omega)
theorem Zpc(s:ZB)(w:World)(hs:s.size<=1048576):Calls prog 140 #[.string s,I 8,I 2] w λe w'=>e=.returned (I (Zf s 8 2))/\w'=w:=ZgS s 8 2 w hs (by omega) (by omega)
theorem Zo5(s:ZB)(w:World)(hs:s.size<=1048576):Calls prog 140 #[.string s,I 11,I 2] w λe w'=>e=.returned (I (Zf s 11 2))/\w'=w:=ZgS s 11 2 w hs (by omega) (by omega)
theorem ZoI(s:ZB)(w:World)(hs:s.size<=1048576):Calls prog 140 #[.string s,I 14,I 2] w λe w'=>e=.returned (I (Zf s 14 2))/\w'=w:=ZgS s 14 2 w hs (by omega) (by omega)
theorem ZoG(s:ZB)(w:World)(hs:s.size<=1048576):Calls prog 140 #[.string s,I 17,I 2] w λe w'=>e=.returned (I (Zf s 17 2))/\w'=w:=ZgS s 17 2 w hs (by omega) (by omega)
theorem Zkm(s:ZB)(w:World)(hs:s.size<=1048576):Calls prog 140 #[.string s,I 1,I 2] w λe w'=>e=.returned (I (Zf s 1 2))/\w'=w:=ZgS s 1 2 w hs (by omega) (by omega)
theorem ZjK(s:ZB)(w:World)(hs:s.size<=1048576):Calls prog 140 #[.string s,I 4,I 2] w λe w'=>e=.returned (I (Zf s 4 2))/\w'=w:=ZgS s 4 2 w hs (by omega) (by omega)
theorem Zlu{s t:ZB}(h:19<=s.size)(q:Zku s=true)(ht:Zu s=t)(h0:¬t.size=0)(hz:¬t=⟨#[90]⟩)(k:zS t=false):ZH s=false:=by
 rw[Zol h q,ht];rcases Zx5 h0 hz k with e|e
 ·rw[e];rfl
 ·rw[ZiQ,Zpp e];simp
theorem Zn4{s:ZB}{g:Bool}{z:Int}(h:19<=s.size)(q:ZH s=true)(hz:zI (Zu s)=(g,z,true)):rdV s=.tuple #[.agg #[I (Zf s 0 4),I (Zf s 5 2),I (Zf s 8 2),I (Zf s 11 2),I (Zf s 14 2),I (Zf s 17 2),.bool g,I z],.bool true]:=by
 obtain⟨e0,e1,e2,e3,e4,e5⟩:=ZrU h q;unfold rdV;rw[Zd q,hz,e0,e1,e2,e3,e4,e5]
theorem Zm3(s:ZB)(w:World)(hs:s.size<=1048576):Calls prog 106 #[.string s] w λe w'=>e=.returned (rdV s)/\ZL w w':=by
 by_cases hsz:s.size<19
 ·have HV:=J (Zcc (Znv hsz));go_enter func106,ntmps106
  go_wp2;exact bodyPost_ret (v:=ZK) (by simp[ZK,results,results106,go_sem]) rfl ⟨by rw[HV.out],ZbU _ _⟩
 ·have h19:19<=s.size:=by omega
  have h19i:¬((s.size:Int)<19):=by omega
  have h19j:(19:Int)<=(s.size:Int):=by omega
  have h4i:(4:Int)<(s.size:Int):=by omega
  have HA4:=J (ZaX s 4 (by omega));by_cases hc4:(s[4].toNat:Int)=45
  rotate_left
  ·have HE:decide (at8 s 4=45)=false:=Zg (by rw[HA4.out];exact hc4);have HV:=J (Zcc (Zk2 h19 (show Zku s=false by simp[Zku,HE])));clear HE;have hcb:((s[4].toNat:Int) != 45)=true:=by simpa using hc4
   clear hc4;go_enter func106,ntmps106
   go_wp2;exact bodyPost_ret (v:=ZK) (by simp[ZK,results,results106,go_sem]) rfl ⟨by rw[HV.out],ZbU _ _⟩
  have HC4:=J hc4;have hb4:((s[4].toNat:Int) != 45)=false:=by simpa using hc4
  clear hc4;have h7i:(7:Int)<(s.size:Int):=by omega
  have HA7:=J (ZaX s 7 (by omega));by_cases hc7:(s[7].toNat:Int)=45
  rotate_left
  ·have HE:decide (at8 s 7=45)=false:=Zg (by rw[HA7.out];exact hc7);have HV:=J (Zcc (Zk2 h19 (show Zku s=false by simp[Zku,HE])));clear HE;have hcb:((s[7].toNat:Int) != 45)=true:=by simpa using hc7
   clear hc7;go_enter func106,ntmps106
   go_wp2;exact bodyPost_ret (v:=ZK) (by simp[ZK,results,results106,go_sem]) rfl ⟨by rw[HV.out],ZbU _ _⟩
  have HC7:=J hc7;have hb7:((s[7].toNat:Int) != 45)=false:=by simpa using hc7
  clear hc7;have h10i:(10:Int)<(s.size:Int):=by omega
  have HA10:=J (ZaX s 10 (by omega));by_cases hc10:(s[10].toNat:Int)=84
  rotate_left
  ·have HE:decide (at8 s 10=84)=false:=Zg (by rw[HA10.out];exact hc10);have HV:=J (Zcc (Zk2 h19 (show Zku s=false by simp[Zku,HE])));clear HE;have hcb:((s[10].toNat:Int) != 84)=true:=by simpa using hc10
   clear hc10;go_enter func106,ntmps106
   go_wp2;exact bodyPost_ret (v:=ZK) (by simp[ZK,results,results106,go_sem]) rfl ⟨by rw[HV.out],ZbU _ _⟩
  have HC10:=J hc10;have hb10:((s[10].toNat:Int) != 84)=false:=by simpa using hc10
  clear hc10;have h13i:(13:Int)<(s.size:Int):=by omega
  have HA13:=J (ZaX s 13 (by omega));by_cases hc13:(s[13].toNat:Int)=58
  rotate_left
  ·have HE:decide (at8 s 13=58)=false:=Zg (by rw[HA13.out];exact hc13);have HV:=J (Zcc (Zk2 h19 (show Zku s=false by simp[Zku,HE])));clear HE;have hcb:((s[13].toNat:Int) != 58)=true:=by simpa using hc13
   clear hc13;go_enter func106,ntmps106
   go_wp2;exact bodyPost_ret (v:=ZK) (by simp[ZK,results,results106,go_sem]) rfl ⟨by rw[HV.out],ZbU _ _⟩
  have HC13:=J hc13;have hb13:((s[13].toNat:Int) != 58)=false:=by simpa using hc13
  clear hc13;have h16i:(16:Int)<(s.size:Int):=by omega
  have HA16:=J (ZaX s 16 (by omega));by_cases hc16:(s[16].toNat:Int)=58
  rotate_left
  ·have HE:decide (at8 s 16=58)=false:=Zg (by rw[HA16.out];exact hc16);have HV:=J (Zcc (Zk2 h19 (show Zku s=false by simp[Zku,HE])));clear HE;have hcb:((s[16].toNat:Int) != 58)=true:=by simpa using hc16
   clear hc16;go_enter func106,ntmps106
   go_wp2;exact bodyPost_ret (v:=ZK) (by simp[ZK,results,results106,go_sem]) rfl ⟨by rw[HV.out],ZbU _ _⟩
  have HC16:=J hc16;have hb16:((s[16].toNat:Int) != 58)=false:=by simpa using hc16
  clear hc16;have HH:Hid (Zku s=true):=J (by simp[Zku,HA4.out,HA7.out,HA10.out,HA13.out,HA16.out,HC4.out,HC7.out,HC10.out,HC13.out,HC16.out]);have HPT:=J (Zol h19 HH.out);by_cases hss:s.size=19
  ·have HZI:Hid (zI (Zu s)=(false,0,true)):=J (by
    have e:(Zu s).size=0:=(by unfold Zu;rw[Zao s 19 s.size (by omega)];omega);unfold zI;rw[Zd e])
   cases hdb:Z8 (Zf s 0 4) (Zf s 5 2) (Zf s 8 2) (Zf s 11 2) (Zf s 14 2) (Zf s 17 2) false (0)
   ·have HV:=J (Zcc (show ZH s=false by rw[HPT.out,HZI.out];exact hdb));go_enter func106,ntmps106
    go_wp2_with fail
    refine Zc (Zpr s _ hs) ?_;go_wp2_with fail
    refine Zc (ZoT s _ hs) ?_;go_wp2_with fail
    refine Zc (Zpc s _ hs) ?_;go_wp2_with fail
    refine Zc (Zo5 s _ hs) ?_;go_wp2_with fail
    refine Zc (ZoI s _ hs) ?_;go_wp2_with fail
    refine Zc (ZoG s _ hs) ?_;go_wp2_with fail
    refine(ZbN (Zf s 0 4) (Zf s 5 2) (Zf s 8 2) (Zf s 11 2) (Zf s 14 2) (Zf s 17 2) false (0) _).mono ?_;rw[hdb];rintro e w3 ⟨rfl,hb3⟩;obtain⟨hri,hq⟩:=ZgU hb3;have HI4:=J hri;clear hb3 hri hq;obtain⟨⟨r0,r1,r2,r3,r4,r5,r6,r7⟩,f0,f1,f2,f3,f4,f5,f6,f7⟩:=Zai HI4.out.1;have HZ:=J (Zai (Zbd HI4.out.1 0 0 0 0 0 0 false 0)).1;go_wp2;obtain⟨q0,q1,q2,q3,q4,q5,q6,q7⟩:=HZ.out;exact bodyPost_ret (v:=ZK) (by simp[ZK,results,results106,go_sem,q0,q1,q2,q3,q4,q5,q6,q7]) rfl ⟨by rw[HV.out],Za2 HI4.out.2 (Zb _) _ _ _ _ _ _ _ _⟩
   ·have HV:=J (Zn4 h19 (show ZH s=true by rw[HPT.out,HZI.out];exact hdb) HZI.out);go_enter func106,ntmps106
    go_wp2_with fail
    refine Zc (Zpr s _ hs) ?_;go_wp2_with fail
    refine Zc (ZoT s _ hs) ?_;go_wp2_with fail
    refine Zc (Zpc s _ hs) ?_;go_wp2_with fail
    refine Zc (Zo5 s _ hs) ?_;go_wp2_with fail
    refine Zc (ZoI s _ hs) ?_;go_wp2_with fail
    refine Zc (ZoG s _ hs) ?_;go_wp2_with fail
    refine(ZbN (Zf s 0 4) (Zf s 5 2) (Zf s 8 2) (Zf s 11 2) (Zf s 14 2) (Zf s 17 2) false (0) _).mono ?_;rw[hdb];rintro e w3 ⟨rfl,hb3⟩;obtain⟨hri,hq⟩:=ZgU hb3;have HI4:=J hri;have HQ4:=J hq;clear hb3 hri hq;obtain⟨⟨r0,r1,r2,r3,r4,r5,r6,r7⟩,f0,f1,f2,f3,f4,f5,f6,f7⟩:=Zai HI4.out.1;obtain⟨⟨a0,a1,a2,a3,a4,a5,a6,a7⟩,_⟩:=Zai HQ4.out;have HZ:=J (Zai (Zbd HI4.out.1 (Zf s 0 4) (Zf s 5 2) (Zf s 8 2) (Zf s 11 2) (Zf s 14 2) (Zf s 17 2) false (0))).1;go_wp2;obtain⟨q0,q1,q2,q3,q4,q5,q6,q7⟩:=HZ.out;exact bodyPost_ret (v:=.tuple #[.agg #[I (Zf s 0 4),I (Zf s 5 2),I (Zf s 8 2),I (Zf s 11 2),I (Zf s 14 2),I (Zf s 17 2),.bool false,I (0)],.bool true]) (by simp[results,results106,go_sem,q0,q1,q2,q3,q4,q5,q6,q7]) rfl ⟨by rw[HV.out],Za2 HI4.out.2 (Zb _) _ _ _ _ _ _ _ _⟩
  ·obtain⟨t,htl⟩:=ZX (s.extract 19 s.size);have HTL:Hid (Zu s=t):=J htl;have hts:t.size<=1048576:=by rw[<-htl,Zao s 19 s.size (by omega)];omega
   have htp:0<t.size:=by rw[<-htl,Zao s 19 s.size (by omega)];omega
   have ht0:¬t.size=0:=by omega
   have hte:=isE htp;by_cases hz:t=⟨#[90]⟩
   ·have hzb:=ZCT hz;have HZI:Hid (zI (Zu s)=(true,0,true)):=J (by rw[HTL.out];unfold zI;rw[Za ht0,Zd hz]);clear hz;cases hdb:Z8 (Zf s 0 4) (Zf s 5 2) (Zf s 8 2) (Zf s 11 2) (Zf s 14 2) (Zf s 17 2) true (0)
    ·have HV:=J (Zcc (show ZH s=false by rw[HPT.out,HZI.out];exact hdb));go_enter func106,ntmps106
     go_wp2_with fail
     refine Zc (Zpr s _ hs) ?_;go_wp2_with fail
     refine Zc (ZoT s _ hs) ?_;go_wp2_with fail
     refine Zc (Zpc s _ hs) ?_;go_wp2_with fail
     refine Zc (Zo5 s _ hs) ?_;go_wp2_with fail
     refine Zc (ZoI s _ hs) ?_;go_wp2_with fail
     refine Zc (ZoG s _ hs) ?_;go_wp2_with fail
     refine(ZbN (Zf s 0 4) (Zf s 5 2) (Zf s 8 2) (Zf s 11 2) (Zf s 14 2) (Zf s 17 2) true (0) _).mono ?_;rw[hdb];rintro e w3 ⟨rfl,hb3⟩;obtain⟨hri,hq⟩:=ZgU hb3;have HI4:=J hri;clear hb3 hri hq;obtain⟨⟨r0,r1,r2,r3,r4,r5,r6,r7⟩,f0,f1,f2,f3,f4,f5,f6,f7⟩:=Zai HI4.out.1;have HZ:=J (Zai (Zbd HI4.out.1 0 0 0 0 0 0 false 0)).1;go_wp2;obtain⟨q0,q1,q2,q3,q4,q5,q6,q7⟩:=HZ.out;exact bodyPost_ret (v:=ZK) (by simp[ZK,results,results106,go_sem,q0,q1,q2,q3,q4,q5,q6,q7]) rfl ⟨by rw[HV.out],Za2 HI4.out.2 (Zb _) _ _ _ _ _ _ _ _⟩
    ·have HV:=J (Zn4 h19 (show ZH s=true by rw[HPT.out,HZI.out];exact hdb) HZI.out);go_enter func106,ntmps106
     go_wp2_with fail
     refine Zc (Zpr s _ hs) ?_;go_wp2_with fail
     refine Zc (ZoT s _ hs) ?_;go_wp2_with fail
     refine Zc (Zpc s _ hs) ?_;go_wp2_with fail
     refine Zc (Zo5 s _ hs) ?_;go_wp2_with fail
     refine Zc (ZoI s _ hs) ?_;go_wp2_with fail
     refine Zc (ZoG s _ hs) ?_;go_wp2_with fail
     refine(ZbN (Zf s 0 4) (Zf s 5 2) (Zf s 8 2) (Zf s 11 2) (Zf s 14 2) (Zf s 17 2) true (0) _).mono ?_;rw[hdb];rintro e w3 ⟨rfl,hb3⟩;obtain⟨hri,hq⟩:=ZgU hb3;have HI4:=J hri;have HQ4:=J hq;clear hb3 hri hq;obtain⟨⟨r0,r1,r2,r3,r4,r5,r6,r7⟩,f0,f1,f2,f3,f4,f5,f6,f7⟩:=Zai HI4.out.1;obtain⟨⟨a0,a1,a2,a3,a4,a5,a6,a7⟩,_⟩:=Zai HQ4.out;have HZ:=J (Zai (Zbd HI4.out.1 (Zf s 0 4) (Zf s 5 2) (Zf s 8 2) (Zf s 11 2) (Zf s 14 2) (Zf s 17 2) true (0))).1;go_wp2;obtain⟨q0,q1,q2,q3,q4,q5,q6,q7⟩:=HZ.out;exact bodyPost_ret (v:=.tuple #[.agg #[I (Zf s 0 4),I (Zf s 5 2),I (Zf s 8 2),I (Zf s 11 2),I (Zf s 14 2),I (Zf s 17 2),.bool true,I (0)],.bool true]) (by simp[results,results106,go_sem,q0,q1,q2,q3,q4,q5,q6,q7]) rfl ⟨by rw[HV.out],Za2 HI4.out.2 (Zb _) _ _ _ _ _ _ _ _⟩
   ·have hzb:=isZ hz;have HNZ:=J hz;clear hz;by_cases h6:t.size=6
    rotate_left
    ·have h6b:((t.size:Int) != 6)=true:=(by simp;omega);have HV:=J (Zcc (Zlu h19 HH.out HTL.out ht0 HNZ.out (show zS t=false by simp[zS,h6])));go_enter func106,ntmps106
     go_wp2_with fail
     refine Zc (Zpr s _ hs) ?_;go_wp2_with fail
     refine Zc (ZoT s _ hs) ?_;go_wp2_with fail
     refine Zc (Zpc s _ hs) ?_;go_wp2_with fail
     refine Zc (Zo5 s _ hs) ?_;go_wp2_with fail
     refine Zc (ZoI s _ hs) ?_;go_wp2_with fail
     refine Zc (ZoG s _ hs) ?_;go_wp2_with fail
     refine Zc (Zkm t _ hts) ?_;go_wp2_with fail
     refine Zc (ZjK t _ hts) ?_;go_wp2;exact bodyPost_ret (v:=ZK) (by simp[ZK,results,results106,go_sem]) rfl ⟨by rw[HV.out],ZeM _ _ _⟩
    have h6b:((t.size:Int) != 6)=false:=(by simp;omega);have i0:(0:Int)<(t.size:Int):=(by omega);have i3:(3:Int)<(t.size:Int):=(by omega);have HT0:=J (ZaX t 0 (by omega));have HT3:=J (ZaX t 3 (by omega));by_cases hsg:at8 t 0=43\/at8 t 0=45
    rotate_left
    ·have g1:((t[0].toNat:Int) != 43)=true:=(by rw[<-HT0.out];simp;omega);have g2:((t[0].toNat:Int) != 45)=true:=(by rw[<-HT0.out];simp;omega);have HV:=J (Zcc (Zlu h19 HH.out HTL.out ht0 HNZ.out (show zS t=false by simp[zS,hsg])));go_enter func106,ntmps106
     go_wp2_with fail
     refine Zc (Zpr s _ hs) ?_;go_wp2_with fail
     refine Zc (ZoT s _ hs) ?_;go_wp2_with fail
     refine Zc (Zpc s _ hs) ?_;go_wp2_with fail
     refine Zc (Zo5 s _ hs) ?_;go_wp2_with fail
     refine Zc (ZoI s _ hs) ?_;go_wp2_with fail
     refine Zc (ZoG s _ hs) ?_;go_wp2_with fail
     refine Zc (Zkm t _ hts) ?_;go_wp2_with fail
     refine Zc (ZjK t _ hts) ?_;go_wp2;exact bodyPost_ret (v:=ZK) (by simp[ZK,results,results106,go_sem]) rfl ⟨by rw[HV.out],ZeM _ _ _⟩
    by_cases h3:at8 t 3=58
    rotate_left
    ·have g3:((t[3].toNat:Int) != 58)=true:=(by rw[<-HT3.out];simpa using h3);have hsg2:(t[0].toNat:Int)=43\/(t[0].toNat:Int)=45:=(by rw[<-HT0.out];exact hsg);have HZF:Hid (zS t=false):=J (by simp[zS,h3]);clear hsg h3;rcases hsg2 with hsg2|hsg2
     all_goals
      have HV:=J (Zcc (Zlu h19 HH.out HTL.out ht0 HNZ.out (show zS t=false by exact HZF.out)));go_enter func106,ntmps106
      go_wp2_with fail
      refine Zc (Zpr s _ hs) ?_;go_wp2_with fail
      refine Zc (ZoT s _ hs) ?_;go_wp2_with fail
      refine Zc (Zpc s _ hs) ?_;go_wp2_with fail
      refine Zc (Zo5 s _ hs) ?_;go_wp2_with fail
      refine Zc (ZoI s _ hs) ?_;go_wp2_with fail
      refine Zc (ZoG s _ hs) ?_;go_wp2_with fail
      refine Zc (Zkm t _ hts) ?_;go_wp2_with fail
      refine Zc (ZjK t _ hts) ?_;go_wp2;exact bodyPost_ret (v:=ZK) (by simp[ZK,results,results106,go_sem]) rfl ⟨by rw[HV.out],ZeM _ _ _⟩
    have g3:((t[3].toNat:Int) != 58)=false:=(by rw[<-HT3.out];simpa using h3);have hsg2:(t[0].toNat:Int)=43\/(t[0].toNat:Int)=45:=(by rw[<-HT0.out];exact hsg);cases b1:inB 0 (Zf t 1 2) 14
    ·have HZF:Hid (zS t=false):=J (by simp[zS,b1]);clear hsg;rcases hsg2 with hsg2|hsg2
     all_goals
      have HV:=J (Zcc (Zlu h19 HH.out HTL.out ht0 HNZ.out (show zS t=false by exact HZF.out)));go_enter func106,ntmps106
      go_wp2_with fail
      refine Zc (Zpr s _ hs) ?_;go_wp2_with fail
      refine Zc (ZoT s _ hs) ?_;go_wp2_with fail
      refine Zc (Zpc s _ hs) ?_;go_wp2_with fail
      refine Zc (Zo5 s _ hs) ?_;go_wp2_with fail
      refine Zc (ZoI s _ hs) ?_;go_wp2_with fail
      refine Zc (ZoG s _ hs) ?_;go_wp2_with fail
      refine Zc (Zkm t _ hts) ?_;go_wp2_with fail
      refine Zc (ZjK t _ hts) ?_;go_wp2_with (go_at_call 30;refine Zc (ZbF _ _ _ _ b1) ?_)
      exact bodyPost_ret (v:=ZK) (by simp[ZK,results,results106,go_sem]) rfl ⟨by rw[HV.out],ZeM _ _ _⟩
    cases b2:inB 0 (Zf t 4 2) 59
    ·have HZF:Hid (zS t=false):=J (by simp[zS,b2]);clear hsg;rcases hsg2 with hsg2|hsg2
     all_goals
      have HV:=J (Zcc (Zlu h19 HH.out HTL.out ht0 HNZ.out (show zS t=false by exact HZF.out)));go_enter func106,ntmps106
      go_wp2_with fail
      refine Zc (Zpr s _ hs) ?_;go_wp2_with fail
      refine Zc (ZoT s _ hs) ?_;go_wp2_with fail
      refine Zc (Zpc s _ hs) ?_;go_wp2_with fail
      refine Zc (Zo5 s _ hs) ?_;go_wp2_with fail
      refine Zc (ZoI s _ hs) ?_;go_wp2_with fail
      refine Zc (ZoG s _ hs) ?_;go_wp2_with fail
      refine Zc (Zkm t _ hts) ?_;go_wp2_with fail
      refine Zc (ZjK t _ hts) ?_;go_wp2_with (first|(go_at_call_of 30 (I (Zf t 1 2));refine Zc (ZaV _ _ _ _ b1) ?_)|(go_at_call_of 30 (I (Zf t 4 2));refine Zc (ZbF _ _ _ _ b2) ?_))
      exact bodyPost_ret (v:=ZK) (by simp[ZK,results,results106,go_sem]) rfl ⟨by rw[HV.out],ZeM _ _ _⟩
    have HZY:=J (ZuS ht0 HNZ.out (show zS t=true by simp only[zS,h6,h3,b1,b2,decide_true,Bool.and_true,Bool.true_and];exact Zh hsg));obtain⟨k1,k2⟩:=Zc0 b1;obtain⟨k3,k4⟩:=Zc0 b2;clear hsg;rcases hsg2 with hsg2|hsg2
    ·have HZI:Hid (zI (Zu s)=(true,60*Zf t 1 2+Zf t 4 2,true)):=J (by rw[HTL.out,HZY.out,Za (by rw[HT0.out];omega)]);cases hdb:Z8 (Zf s 0 4) (Zf s 5 2) (Zf s 8 2) (Zf s 11 2) (Zf s 14 2) (Zf s 17 2) true (60*Zf t 1 2+Zf t 4 2)
     ·have HV:=J (Zcc (show ZH s=false by rw[HPT.out,HZI.out];exact hdb));go_enter func106,ntmps106
      go_wp2_with fail
      refine Zc (Zpr s _ hs) ?_;go_wp2_with fail
      refine Zc (ZoT s _ hs) ?_;go_wp2_with fail
      refine Zc (Zpc s _ hs) ?_;go_wp2_with fail
      refine Zc (Zo5 s _ hs) ?_;go_wp2_with fail
      refine Zc (ZoI s _ hs) ?_;go_wp2_with fail
      refine Zc (ZoG s _ hs) ?_;go_wp2_with fail
      refine Zc (Zkm t _ hts) ?_;go_wp2_with fail
      refine Zc (ZjK t _ hts) ?_;go_wp2_with (first|(go_at_call_of 30 (I (Zf t 1 2));refine Zc (ZaV _ _ _ _ b1) ?_)|(go_at_call_of 30 (I (Zf t 4 2));refine Zc (ZaV _ _ _ _ b2) ?_))
      refine(ZbN (Zf s 0 4) (Zf s 5 2) (Zf s 8 2) (Zf s 11 2) (Zf s 14 2) (Zf s 17 2) true (60*Zf t 1 2+Zf t 4 2) _).mono ?_;rw[hdb];rintro e w3 ⟨rfl,hb3⟩;obtain⟨hri,hq⟩:=ZgU hb3;have HI4:=J hri;clear hb3 hri hq;obtain⟨⟨r0,r1,r2,r3,r4,r5,r6,r7⟩,f0,f1,f2,f3,f4,f5,f6,f7⟩:=Zai HI4.out.1;have HZ:=J (Zai (Zbd HI4.out.1 0 0 0 0 0 0 false 0)).1;go_wp2;obtain⟨q0,q1,q2,q3,q4,q5,q6,q7⟩:=HZ.out;exact bodyPost_ret (v:=ZK) (by simp[ZK,results,results106,go_sem,q0,q1,q2,q3,q4,q5,q6,q7]) rfl ⟨by rw[HV.out],Za2 HI4.out.2 (Zb _) _ _ _ _ _ _ _ _⟩
     ·have HV:=J (Zn4 h19 (show ZH s=true by rw[HPT.out,HZI.out];exact hdb) HZI.out);go_enter func106,ntmps106
      go_wp2_with fail
      refine Zc (Zpr s _ hs) ?_;go_wp2_with fail
      refine Zc (ZoT s _ hs) ?_;go_wp2_with fail
      refine Zc (Zpc s _ hs) ?_;go_wp2_with fail
      refine Zc (Zo5 s _ hs) ?_;go_wp2_with fail
      refine Zc (ZoI s _ hs) ?_;go_wp2_with fail
      refine Zc (ZoG s _ hs) ?_;go_wp2_with fail
      refine Zc (Zkm t _ hts) ?_;go_wp2_with fail
      refine Zc (ZjK t _ hts) ?_;go_wp2_with (first|(go_at_call_of 30 (I (Zf t 1 2));refine Zc (ZaV _ _ _ _ b1) ?_)|(go_at_call_of 30 (I (Zf t 4 2));refine Zc (ZaV _ _ _ _ b2) ?_))
      refine(ZbN (Zf s 0 4) (Zf s 5 2) (Zf s 8 2) (Zf s 11 2) (Zf s 14 2) (Zf s 17 2) true (60*Zf t 1 2+Zf t 4 2) _).mono ?_;rw[hdb];rintro e w3 ⟨rfl,hb3⟩;obtain⟨hri,hq⟩:=ZgU hb3;have HI4:=J hri;have HQ4:=J hq;clear hb3 hri hq;obtain⟨⟨r0,r1,r2,r3,r4,r5,r6,r7⟩,f0,f1,f2,f3,f4,f5,f6,f7⟩:=Zai HI4.out.1;obtain⟨⟨a0,a1,a2,a3,a4,a5,a6,a7⟩,_⟩:=Zai HQ4.out;have HZ:=J (Zai (Zbd HI4.out.1 (Zf s 0 4) (Zf s 5 2) (Zf s 8 2) (Zf s 11 2) (Zf s 14 2) (Zf s 17 2) true (60*Zf t 1 2+Zf t 4 2))).1;go_wp2;obtain⟨q0,q1,q2,q3,q4,q5,q6,q7⟩:=HZ.out;exact bodyPost_ret (v:=.tuple #[.agg #[I (Zf s 0 4),I (Zf s 5 2),I (Zf s 8 2),I (Zf s 11 2),I (Zf s 14 2),I (Zf s 17 2),.bool true,I (60*Zf t 1 2+Zf t 4 2)],.bool true]) (by simp[results,results106,go_sem,q0,q1,q2,q3,q4,q5,q6,q7]) rfl ⟨by rw[HV.out],Za2 HI4.out.2 (Zb _) _ _ _ _ _ _ _ _⟩
    ·have HZI:Hid (zI (Zu s)=(true,-(60*Zf t 1 2+Zf t 4 2),true)):=J (by rw[HTL.out,HZY.out,Zd (by rw[HT0.out];exact hsg2)]);cases hdb:Z8 (Zf s 0 4) (Zf s 5 2) (Zf s 8 2) (Zf s 11 2) (Zf s 14 2) (Zf s 17 2) true (-(60*Zf t 1 2+Zf t 4 2))
     ·have HV:=J (Zcc (show ZH s=false by rw[HPT.out,HZI.out];exact hdb));go_enter func106,ntmps106
      go_wp2_with fail
      refine Zc (Zpr s _ hs) ?_;go_wp2_with fail
      refine Zc (ZoT s _ hs) ?_;go_wp2_with fail
      refine Zc (Zpc s _ hs) ?_;go_wp2_with fail
      refine Zc (Zo5 s _ hs) ?_;go_wp2_with fail
      refine Zc (ZoI s _ hs) ?_;go_wp2_with fail
      refine Zc (ZoG s _ hs) ?_;go_wp2_with fail
      refine Zc (Zkm t _ hts) ?_;go_wp2_with fail
      refine Zc (ZjK t _ hts) ?_;go_wp2_with (first|(go_at_call_of 30 (I (Zf t 1 2));refine Zc (ZaV _ _ _ _ b1) ?_)|(go_at_call_of 30 (I (Zf t 4 2));refine Zc (ZaV _ _ _ _ b2) ?_))
      refine(ZbN (Zf s 0 4) (Zf s 5 2) (Zf s 8 2) (Zf s 11 2) (Zf s 14 2) (Zf s 17 2) true (-(60*Zf t 1 2+Zf t 4 2)) _).mono ?_;rw[hdb];rintro e w3 ⟨rfl,hb3⟩;obtain⟨hri,hq⟩:=ZgU hb3;have HI4:=J hri;clear hb3 hri hq;obtain⟨⟨r0,r1,r2,r3,r4,r5,r6,r7⟩,f0,f1,f2,f3,f4,f5,f6,f7⟩:=Zai HI4.out.1;have HZ:=J (Zai (Zbd HI4.out.1 0 0 0 0 0 0 false 0)).1;go_wp2;obtain⟨q0,q1,q2,q3,q4,q5,q6,q7⟩:=HZ.out;exact bodyPost_ret (v:=ZK) (by simp[ZK,results,results106,go_sem,q0,q1,q2,q3,q4,q5,q6,q7]) rfl ⟨by rw[HV.out],Za2 HI4.out.2 (Zb _) _ _ _ _ _ _ _ _⟩
     ·have HV:=J (Zn4 h19 (show ZH s=true by rw[HPT.out,HZI.out];exact hdb) HZI.out);go_enter func106,ntmps106
      go_wp2_with fail
      refine Zc (Zpr s _ hs) ?_;go_wp2_with fail
      refine Zc (ZoT s _ hs) ?_;go_wp2_with fail
      refine Zc (Zpc s _ hs) ?_;go_wp2_with fail
      refine Zc (Zo5 s _ hs) ?_;go_wp2_with fail
      refine Zc (ZoI s _ hs) ?_;go_wp2_with fail
      refine Zc (ZoG s _ hs) ?_;go_wp2_with fail
      refine Zc (Zkm t _ hts) ?_;go_wp2_with fail
      refine Zc (ZjK t _ hts) ?_;go_wp2_with (first|(go_at_call_of 30 (I (Zf t 1 2));refine Zc (ZaV _ _ _ _ b1) ?_)|(go_at_call_of 30 (I (Zf t 4 2));refine Zc (ZaV _ _ _ _ b2) ?_))
      refine(ZbN (Zf s 0 4) (Zf s 5 2) (Zf s 8 2) (Zf s 11 2) (Zf s 14 2) (Zf s 17 2) true (-(60*Zf t 1 2+Zf t 4 2)) _).mono ?_;rw[hdb];rintro e w3 ⟨rfl,hb3⟩;obtain⟨hri,hq⟩:=ZgU hb3;have HI4:=J hri;have HQ4:=J hq;clear hb3 hri hq;obtain⟨⟨r0,r1,r2,r3,r4,r5,r6,r7⟩,f0,f1,f2,f3,f4,f5,f6,f7⟩:=Zai HI4.out.1;obtain⟨⟨a0,a1,a2,a3,a4,a5,a6,a7⟩,_⟩:=Zai HQ4.out;have HZ:=J (Zai (Zbd HI4.out.1 (Zf s 0 4) (Zf s 5 2) (Zf s 8 2) (Zf s 11 2) (Zf s 14 2) (Zf s 17 2) true (-(60*Zf t 1 2+Zf t 4 2)))).1;go_wp2;obtain⟨q0,q1,q2,q3,q4,q5,q6,q7⟩:=HZ.out;exact bodyPost_ret (v:=.tuple #[.agg #[I (Zf s 0 4),I (Zf s 5 2),I (Zf s 8 2),I (Zf s 11 2),I (Zf s 14 2),I (Zf s 17 2),.bool true,I (-(60*Zf t 1 2+Zf t 4 2))],.bool true]) (by simp[results,results106,go_sem,q0,q1,q2,q3,q4,q5,q6,q7]) rfl ⟨by rw[HV.out],Za2 HI4.out.2 (Zb _) _ _ _ _ _ _ _ _⟩
end
end Go.Proofs.YtcdnilpdohknfaaGreatDoor
