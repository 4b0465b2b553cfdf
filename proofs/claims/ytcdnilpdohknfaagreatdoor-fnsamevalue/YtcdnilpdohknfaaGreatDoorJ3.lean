import Derived.Lib.TrimUEq
import Derived.Lib.ValidLaws
import Derived.Lib.DecodeN
import Derived.Lib.MapLaws
import Derived.Test.YtcdnilpdohknfaaGreatDoorJ1
set_option linter.unusedVariables false
set_option linter.unusedSimpArgs false
set_option maxRecDepth 100000
set_option maxHeartbeats 16000000
namespace Go.Proofs.YtcdnilpdohknfaaGreatDoor
open Tryz
section
open Go.Lib
def rnF(d:Nat×Nat):Int×Int:=if d=(65533,1) then (0,0) else ((d.1:Int),(d.2:Int))
theorem Zyp{d:Nat×Nat}(h:d=(65533,1)):rnF d=(0,0):=by rw[rnF,Zd h]
theorem ZBF{d:Nat×Nat}{x k:Nat}(h:d=(x,k))(hk:k≠1\/x≠65533):rnF d=((x:Int),(k:Int)):=by
 rw[rnF,Za (by rw[h];simp only[Prod.mk.injEq];omega),h]
variable {n b0 b1 b2 b3:Nat}
theorem d1(h:b0<128):decodeN n b0 b1 b2 b3=(b0,1):=by unfold decodeN;rw[Zd h]
theorem dx(h:128<=b0)(h':b0<192\/248<=b0):decodeN n b0 b1 b2 b3=(65533,1):=by
 unfold decodeN;rw[Za (by omega),Za (by omega),Za (by omega),Za (by omega)]
theorem d2n(h:192<=b0)(h':b0<224)(hb:n<2\/b1<128\/192<=b1)(h1:b1<256):decodeN n b0 b1 b2 b3=(65533,1):=by
 unfold decodeN;rw[Za (by omega),Za (by omega),Za (by omega),Za (by omega)]
theorem d2l(h:192<=b0)(h':b0<224)(hn:2<=n)(hb:128<=b1)(hb':b1<192)(hl:64*(b0%32)+b1%64<128):decodeN n b0 b1 b2 b3=(65533,1):=by
 unfold decodeN;rw[Za (by omega),Zd (by omega),Za (by omega)]
theorem d2y(h:192<=b0)(h':b0<224)(hn:2<=n)(hb:128<=b1)(hb':b1<192)(hl:128<=64*(b0%32)+b1%64):decodeN n b0 b1 b2 b3=(64*(b0%32)+b1%64,2):=by
 unfold decodeN;rw[Za (by omega),Zd (by omega),Zd (by omega)];exact Prod.ext (by show _=_;omega) rfl
theorem d3n(h:224<=b0)(h':b0<240)(hb:n<3\/b1<128\/192<=b1\/b2<128\/192<=b2)(h1:b1<256)(h2:b2<256):decodeN n b0 b1 b2 b3=(65533,1):=by
 unfold decodeN;rw[Za (by omega),Za (by omega),Za (by omega),Za (by omega)]
theorem d3l(h:224<=b0)(h':b0<240)(hn:3<=n)(hb:128<=b1)(hb':b1<192)(hc:128<=b2)(hc':b2<192)
  (hl:64*(64*(b0%16)+b1%64)+b2%64<2048\/(55296<=64*(64*(b0%16)+b1%64)+b2%64/\64*(64*(b0%16)+b1%64)+b2%64<57344)):decodeN n b0 b1 b2 b3=(65533,1):=by
 unfold decodeN;rw[Za (by omega),Za (by omega),Zd (by omega),Za (by omega)]
theorem d3y(h:224<=b0)(h':b0<240)(hn:3<=n)(hb:128<=b1)(hb':b1<192)(hc:128<=b2)(hc':b2<192)
  (hl:2048<=64*(64*(b0%16)+b1%64)+b2%64) (hl':64*(64*(b0%16)+b1%64)+b2%64<55296\/57344<=64*(64*(b0%16)+b1%64)+b2%64):
  decodeN n b0 b1 b2 b3=(64*(64*(b0%16)+b1%64)+b2%64,3):=by
 unfold decodeN;rw[Za (by omega),Za (by omega),Zd (by omega),Zd (by omega)];exact Prod.ext (by show _=_;omega) rfl
theorem d4n(h:240<=b0)(h':b0<248)(hb:n<4\/b1<128\/192<=b1\/b2<128\/192<=b2\/b3<128\/192<=b3)(h1:b1<256)(h2:b2<256)(h3:b3<256):decodeN n b0 b1 b2 b3=(65533,1):=by
 unfold decodeN;rw[Za (by omega),Za (by omega),Za (by omega),Za (by omega)]
theorem d4l(h:240<=b0)(h':b0<248)(hn:4<=n)(hb:128<=b1)(hb':b1<192)(hc:128<=b2)(hc':b2<192)(hd:128<=b3)(hd':b3<192)
  (hl:64*(64*(64*(b0%8)+b1%64)+b2%64)+b3%64<65536\/1114111<64*(64*(64*(b0%8)+b1%64)+b2%64)+b3%64):decodeN n b0 b1 b2 b3=(65533,1):=by
 unfold decodeN;rw[Za (by omega),Za (by omega),Za (by omega),Zd (by omega),Za (by omega)]
theorem d4y(h:240<=b0)(h':b0<248)(hn:4<=n)(hb:128<=b1)(hb':b1<192)(hc:128<=b2)(hc':b2<192)(hd:128<=b3)(hd':b3<192)
  (hl:65536<=64*(64*(64*(b0%8)+b1%64)+b2%64)+b3%64) (hl':64*(64*(64*(b0%8)+b1%64)+b2%64)+b3%64<=1114111):
  decodeN n b0 b1 b2 b3=(64*(64*(64*(b0%8)+b1%64)+b2%64)+b3%64,4):=by
 unfold decodeN;rw[Za (by omega),Za (by omega),Za (by omega),Zd (by omega),Zd (by omega)];exact Prod.ext (by show _=_;omega) rfl
def byN(s:ZB)(k:Nat):Nat:=(s.data.toList.getD k 0).toNat
theorem Zfo(s:ZB)(k:Nat)(h:k<s.size):s[k].toNat=byN s k:=by
 have h':k<s.data.toList.length:=by simpa using h
 unfold byN;rw[List.getD,Zv h'];rfl
theorem ZaW(s:ZB)(k:Nat):byN s k<256:=UInt8.toNat_lt _
theorem ZqY(s:ZB):decodeL s.data.toList=decodeN s.size (byN s 0) (byN s 1) (byN s 2) (byN s 3):=by
 rw[decodeL_N,ZDL];rfl
def ZfV:Nat->List UInt8->Option (List Int)
 |0,_=>some []
 |f+1,l=>if l=[] then some [] else if (decodeL l).1=65533/\(decodeL l).2=1 then none else (ZfV f (l.drop (decodeL l).2)).map (((decodeL l).1:Int)::·)
def Z9(l:List UInt8):Option (List Int):=ZfV l.length l
theorem ZhO:∀(f g:Nat) (l:List UInt8),l.length<=f->l.length<=g->ZfV f l=ZfV g l
 |0,0,_,_,_=>rfl
 |0,g+1,l,hf,_=>by have:l=[]:=List.length_eq_zero_iff.1 (by omega);subst this;simp[ZfV]
 |f+1,0,l,_,hg=>by have:l=[]:=List.length_eq_zero_iff.1 (by omega);subst this;simp[ZfV]
 |f+1,g+1,l,hf,hg=>by
  unfold ZfV;by_cases h:l=[]
  ·rw[Zd h,Zd h]
  ·rw[Za h,Za h];have hw:=decodeL_width l;have hl:0<l.length:=List.length_pos_iff.2 h;rw[ZhO f g (l.drop (decodeL l).2) (by rw[ZDC];omega) (by rw[ZDC];omega)]
theorem Zbs:Z9 []=some []:=rfl
theorem Zb7{l:List UInt8}(h:l≠[])(hb:decodeL l=(65533,1)):Z9 l=none:=by
 have hl:0<l.length:=List.length_pos_iff.2 h;unfold Z9;obtain⟨k,hk⟩:∃k,l.length=k+1:=⟨l.length-1,by omega⟩;rw[hk,ZfV,Za h,Zd (by rw[hb];exact⟨rfl,rfl⟩)]
theorem ZbA{l:List UInt8}(h:l≠[])(hb:decodeL l≠(65533,1)):Z9 l=(Z9 (l.drop (decodeL l).2)).map (((decodeL l).1:Int)::·):=by
 have hl:0<l.length:=List.length_pos_iff.2 h;have hw:=decodeL_width l
 conv=>lhs;unfold Z9
 obtain⟨k,hk⟩:∃k,l.length=k+1:=⟨l.length-1,by omega⟩;rw[hk,ZfV,Za h,Za (λe=>hb (Prod.ext e.1 e.2)),Z9,ZhO k (l.drop (decodeL l).2).length _ (by rw[ZDC];omega) (Zb _)]
theorem ZgR:∀(f:Nat) (l:List UInt8),l.length<=f->validD l=(Z9 l).isSome
 |0,l,hf=>by have:l=[]:=List.length_eq_zero_iff.1 (by omega);subst this;rfl
 |f+1,l,hf=>by
  by_cases h:l=[]
  ·subst h;rfl
  ·have hl:0<l.length:=List.length_pos_iff.2 h;have hw:=decodeL_width l;rw[validD_step l h];by_cases hb:decodeL l=(65533,1)
   ·rw[Zd (by rw[hb];exact⟨rfl,rfl⟩),Zb7 h hb];rfl
   ·rw[Za (λe=>hb (Prod.ext e.1 e.2)),ZbA h hb,ZgR f _ (by rw[ZDC];omega)];cases Z9 (l.drop (decodeL l).2)<;>rfl
end
end Go.Proofs.YtcdnilpdohknfaaGreatDoor
