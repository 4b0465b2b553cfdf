import Derived.Test.YtcdnilpdohknfaaGreatDoorJ21
import Derived.Recover
import Derived.Lib.QuoteLoop
import Derived.Test.YtcdnilpdohknfaaGreatDoorJ20
set_option linter.unusedVariables false
set_option linter.unusedSimpArgs false
set_option maxRecDepth 100000
set_option maxHeartbeats 16000000
namespace Go.Proofs.YtcdnilpdohknfaaGreatDoor
open Tryz
section
open Go.RowKit Go.Joins
def CkN(w:World)(N:Nat)(a mn mx:Int):Prop:=w.heap[N]?=some (.cells #[I 5,.bool false,.slice none 0 0,I a,I 0,I mn,I mx] 204 (0,0))
structure CK (B R N M:Nat) (w:World) (u:List Int) (X:List Nd) (a mn mx:Int):Prop where
 rd:RD (λj=>B<=j/\j<M) B R w u X
 nd:CkN w N a mn mx
 hN:M<=N
 hB:B<=M
section
variable {B R N M:Nat} {w w':World} {u u':List Int} {X:List Nd} {a mn mx:Int}
theorem Zbp(h:CkN w N a mn mx):(w.cell? ⟨N,0,none⟩=some (I 5)/\w.cell? ⟨N,1,none⟩=some (.bool false)/\w.cell? ⟨N,2,none⟩=some (.slice none 0 0)/\w.cell? ⟨N,3,none⟩=some (I a)/\w.cell? ⟨N,4,none⟩=some (I 0)/\w.cell? ⟨N,5,none⟩=some (I mn)/\w.cell? ⟨N,6,none⟩=some (I mx))/\w.frozen? ⟨N,5,none⟩=false/\w.frozen? ⟨N,6,none⟩=false:=by
 have e:∀i,w.cell? ⟨N,i,none⟩=(#[I 5,.bool false,.slice none 0 0,I a,I 0,I mn,I mx]:Array Value)[i]?:=λi=>by rw[ZO w N i _ _ (0,0) h]
 exact⟨⟨e 0,e 1,e 2,e 3,e 4,e 5,e 6⟩,ZEm w N 5 _ _ h,ZEm w N 6 _ _ h⟩
theorem ZvN(h:CkN w N a mn mx){S:Nat->Prop}(hr:RD S B R w u X):N≠R:=by
 rintro rfl;obtain⟨_,_,_,_,_,hx,_⟩:=hr;unfold XR at hx;rw[h]at hx;simp only[ZDJ,Obj.cells.injEq]at hx;exact absurd hx.2.1 (by decide)
theorem Zrr(h:CkN w N a mn mx):N<w.heap.size:=(Array.getElem?_eq_some_iff.1 h).1
theorem Zz1(h:CK B R N M w u X a mn mx)(k:Kp (λj=>j=R) w w')(hr:RD (λj=>B<=j/\j<M) B R w' u' X):CK B R N M w' u' X a mn mx:=
 ⟨hr,(k.block N (Zrr h.nd) (ZvN h.nd h.rd)).trans h.nd,h.hN,h.hB⟩
theorem ZvG(h:CK B R N M w u X a mn mx)(i:Nat)(v:Value){mn' mx':Int}(hn:CkN (w.setCell ⟨N,i,none⟩ v) N a mn' mx'):CK B R N M (w.setCell ⟨N,i,none⟩ v) u X a mn' mx'/\Below B w (w.setCell ⟨N,i,none⟩ v):=by
 have ks:Kp (λj=>j=N) w (w.setCell ⟨N,i,none⟩ v):=Zex (S:=λj=>j=N) _ _ _ rfl;have h1:=h.hN;have h2:=h.hB;have h3:=Zrr h.nd;exact⟨⟨ZyY h.rd ks (λj hj=>by have hj':j=N:=hj;omega) (λe=>ZvN h.nd h.rd e.symm) h.hB,hn,h.hN,h.hB⟩,ZaB ks (by omega) (λj hj=>by have hj':j=N:=hj;omega)⟩
theorem Zz8(h:CK B R N M w u X a mn mx)(y:Int):CK B R N M (w.setCell ⟨N,5,none⟩ (I y)) u X a y mx/\Below B w (w.setCell ⟨N,5,none⟩ (I y)):=ZvG h 5 _ (ZEk w N 5 _ _ _ h.nd)
theorem Zug(h:CK B R N M w u X a mn mx)(y:Int):CK B R N M (w.setCell ⟨N,6,none⟩ (I y)) u X a mn y/\Below B w (w.setCell ⟨N,6,none⟩ (I y)):=ZvG h 6 _ (ZEk w N 6 _ _ _ h.nd)
theorem Zne(h:CK B R N M w u X a mn mx)(hX:X.length<=5000):Calls prog 260 #[.pointer (some ⟨R,0,none⟩),.agg #[I 5,.bool false,.slice none 0 0,I a,I 0,I mn,I mx]] w λe w'=>e=.returned (.tuple #[])/\RD (λj=>B<=j) B R w' u (X++[cnN a mn mx])/\Below B w w':=
 Zmw B R u X (cnN a mn mx) none 0 w hX (by simp[cnN]) h.rd (λj hj=>hj.1) (ZEo _ _ _ _) (λk hk=>by cases hk)
end
theorem ZxC(n:Nat)(hA:AtC n):PcC n:=by
 intro B R u X w g hu hg hX h;obtain⟨f,rfl⟩:∃f,g=f+1:=⟨g-1,by omega⟩;have HE:Hid (rdP (f+1) u X=match rdA f u X with
  |none=>none
  |some (u1,X1)=>match ctP u1 with
   |none=>none
   |some (none,u2)=>some (u2,X1)
   |some (some m,u2)=>some (u2,X1++[cnN ((X1.length:Int)-1) m.1 m.2])):=J (by rw[rdP];rfl)
 have HA:=J (hA B R u X w f hu (by omega) hX h);clear h;rcases hr:rdA f u X with _|⟨u1,X1⟩
 ·have E:Hid (rdP (f+1) u X=none):=J (by rw[HE.out,hr]);have HN:=J (Zdn hr HA.out);clear HE HA hr;go_enter func285,ntmps285
  go_wp2_with fail
  refine HN.out.mono ?_;rintro e w2 ⟨⟨tv,v,rfl⟩,k2⟩;have K2:=J k2;clear k2;go_wp2;exact⟨rfl,Zha E.out ⟨⟨_,_,rfl⟩,K2.out⟩⟩
 ·have hsh:=(Zet f).2.2.2.2.2 hr;have hX1:X1.length<=4000:=by have:=hsh.2.2;omega
  have HE2:Hid (rdP (f+1) u X=match ctP u1 with
   |none=>none
   |some (none,u2)=>some (u2,X1)
   |some (some m,u2)=>some (u2,X1++[cnN ((X1.length:Int)-1) m.1 m.2])):=J (by rw[HE.out,hr])
  have HN:=J (Zdm hr HA.out);clear HE HA hr hsh;go_enter func285,ntmps285
  go_wp2_with fail
  refine ZM HN.out ?_;rintro w1 ⟨h1,k1⟩;have HB1:=J k1;have H1:=J h1;have hz:=Zg2 h1;have HL:=J (Zk8 B R u1 X1 w1 (by omega) h1);obtain⟨aa,haa⟩:=ZX ((X1.length:Int)-1);have HAA:=J haa;rw[haa]at HL HE2;have bA:=(Ze w1.heap.size w1).alloc (Zb _) (.cells #[I 5,.bool false,.slice none 0 0,I aa,I 0,I 0,I 0] 204);have HCK:Hid (CK B R w1.heap.size w1.heap.size (w1.alloc (.cells #[I 5,.bool false,.slice none 0 0,I aa,I 0,I 0,I 0] 204)) u1 X1 aa 0 0):=J ⟨ZgX (ZfU h1) bA,Zz w1 _,Zb _,hz⟩;have HB2:=J (HB1.out.trans (bA.mono hz));clear h1 k1 HN bA haa;go_wp2_with (go_at_call 258;refine Zc HL.out ?_)
  obtain⟨W,hW⟩:=ZX (w1.alloc (.cells #[I 5,.bool false,.slice none 0 0,I aa,I 0,I 0,I 0] 204));rw[hW]at HCK HB2 ⊢;obtain⟨N,hN⟩:=ZX w1.heap.size;rw[hN]at HCK ⊢;clear hW hN HL H1 HB1;by_cases e1:u1.head?=some 63
  ·obtain⟨q,rfl⟩:∃q,u1=63::q:=⟨_,ZaH e1⟩;have E:Hid (rdP (f+1) u X=some (q,X1++[cnN aa 0 1])):=J (by rw[HE2.out];unfold ctP;rw[Zd e1];rfl);have HT:=J (Zco B R 63 q X1 W HCK.out.rd);clear HE2 e1;go_wp2_with fail
   refine ZM HT.out ?_;rintro w2 ⟨h2,k2⟩;have HB3:=J (HB2.out.trans (ZcY HCK.out.rd k2));have C2:=Zz1 HCK.out k2 h2;obtain⟨C3,b3⟩:=Zug C2 1;obtain⟨⟨n0,n1,n2,n3,n4,n5,n6⟩,f5,f6⟩:=Zbp C2.nd;have HB4:=J (HB3.out.trans b3);have HA:=J (Zne C3 (by omega));clear h2 k2 C2 C3 b3 HCK HT;go_wp2_with fail
   refine ZM HA.out ?_;rintro w3 ⟨h3,k3⟩;have H3:=J h3;have HB5:=J (HB4.out.trans k3);clear h3 k3 HA;go_wp2
   go_end0
   exact Zgz E.out rfl H3.out HB5.out
  ·have HT1:=J (Zb4 B R 63 u1 X1 W HCK.out.rd e1);by_cases e2:u1.head?=some 42
   ·obtain⟨q,rfl⟩:∃q,u1=42::q:=⟨_,ZaH e2⟩;have E:Hid (rdP (f+1) u X=some (q,X1++[cnN aa 0 (-1)])):=J (by rw[HE2.out];unfold ctP;rw[Za e1,Zd e2];rfl);have HT:=J (Zco B R 42 q X1 W HCK.out.rd);clear HE2 e1 e2;go_wp2_with (go_at_call_of 259 (Value.int .i64 63);refine Zc HT1.out ?_)
    refine ZM HT.out ?_;rintro w2 ⟨h2,k2⟩;have HB3:=J (HB2.out.trans (ZcY HCK.out.rd k2));have C2:=Zz1 HCK.out k2 h2;obtain⟨C3,b3⟩:=Zug C2 (-1);obtain⟨⟨n0,n1,n2,n3,n4,n5,n6⟩,f5,f6⟩:=Zbp C2.nd;have HB4:=J (HB3.out.trans b3);have HA:=J (Zne C3 (by omega));clear h2 k2 C2 C3 b3 HCK HT HT1;go_wp2_with fail
    refine ZM HA.out ?_;rintro w3 ⟨h3,k3⟩;have H3:=J h3;have HB5:=J (HB4.out.trans k3);clear h3 k3 HA;go_wp2
    go_end0
    exact Zgz E.out rfl H3.out HB5.out
   ·have HT2:=J (Zb4 B R 42 u1 X1 W HCK.out.rd e2);by_cases e3:u1.head?=some 43
    ·obtain⟨q,rfl⟩:∃q,u1=43::q:=⟨_,ZaH e3⟩;have E:Hid (rdP (f+1) u X=some (q,X1++[cnN aa 1 (-1)])):=J (by rw[HE2.out];unfold ctP;rw[Za e1,Za e2,Zd e3];rfl);have HT:=J (Zco B R 43 q X1 W HCK.out.rd);clear HE2 e1 e2 e3;go_wp2_with (first|(go_at_call_of 259 (Value.int .i64 63);refine Zc HT1.out ?_)|(go_at_call_of 259 (Value.int .i64 42);refine Zc HT2.out ?_))
     refine ZM HT.out ?_;rintro w2 ⟨h2,k2⟩;have HB3:=J (HB2.out.trans (ZcY HCK.out.rd k2));have C2:=Zz1 HCK.out k2 h2;obtain⟨C3,b3⟩:=Zz8 C2 1;obtain⟨C4,b4⟩:=Zug C3 (-1);obtain⟨⟨n0,n1,n2,n3,n4,n5,n6⟩,f5,f6⟩:=Zbp C2.nd;have HB4:=J ((HB3.out.trans b3).trans b4);have HA:=J (Zne C4 (by omega));clear h2 k2 C2 C3 C4 b3 b4 HCK HT HT1 HT2;go_wp2_with fail
     refine ZM HA.out ?_;rintro w3 ⟨h3,k3⟩;have H3:=J h3;have HB5:=J (HB4.out.trans k3);clear h3 k3 HA;go_wp2
     go_end0
     exact Zgz E.out rfl H3.out HB5.out
    ·have HT3:=J (Zb4 B R 43 u1 X1 W HCK.out.rd e3);by_cases e4:u1.head?=some 123
     ·obtain⟨q,rfl⟩:∃q,u1=123::q:=⟨_,ZaH e4⟩;have HT:=J (Zco B R 123 q X1 W HCK.out.rd);rcases hl:lmP q with _|⟨⟨mn,mx⟩,q2⟩
      ·have E:Hid (rdP (f+1) u X=none):=J (by rw[HE2.out];unfold ctP;rw[Za e1,Za e2,Za e3,Zd e4];show(match (match lmP q with|none=>none|some (m,r)=>some (some m,r):Option (Option (Int×Int)×List Int)) with|none=>none|some (none,u2)=>some (u2,X1)|some (some m,u2)=>some (u2,X1++[cnN aa m.1 m.2]))=none;rw[hl]);clear HE2 e1 e2 e3 e4;go_wp2_with (first|(go_at_call_of 259 (Value.int .i64 63);refine Zc HT1.out ?_)|(go_at_call_of 259 (Value.int .i64 42);refine Zc HT2.out ?_)|(go_at_call_of 259 (Value.int .i64 43);refine Zc HT3.out ?_))
       refine ZM HT.out ?_;rintro w2 ⟨h2,k2⟩;have HB3:=J (HB2.out.trans (ZcY HCK.out.rd k2));have HM:Hid (Calls prog 296 #[.pointer (some ⟨R,0,none⟩)] w2 (ZlQ B w2)):=J (by have h9:=ZnK B R q X1 w2 h2;rw[hl]at h9;exact h9);clear h2 k2 hl;go_wp2_with fail
       refine HM.out.mono ?_;rintro e w3 ⟨⟨tv,v,rfl⟩,k3⟩;have K3:=J (ZeO HB3.out ⟨⟨tv,v,rfl⟩,k3⟩);clear k3;go_wp2;exact⟨rfl,Zha E.out K3.out⟩
      ·have E:Hid (rdP (f+1) u X=some (q2,X1++[cnN aa mn mx])):=J (by rw[HE2.out];unfold ctP;rw[Za e1,Za e2,Za e3,Zd e4];show(match (match lmP q with|none=>none|some (m,r)=>some (some m,r):Option (Option (Int×Int)×List Int)) with|none=>none|some (none,u2)=>some (u2,X1)|some (some m,u2)=>some (u2,X1++[cnN aa m.1 m.2]))=_;rw[hl]);clear HE2 e1 e2 e3 e4;go_wp2_with (first|(go_at_call_of 259 (Value.int .i64 63);refine Zc HT1.out ?_)|(go_at_call_of 259 (Value.int .i64 42);refine Zc HT2.out ?_)|(go_at_call_of 259 (Value.int .i64 43);refine Zc HT3.out ?_))
       refine ZM HT.out ?_;rintro w2 ⟨h2,k2⟩;have HB3:=J (HB2.out.trans (ZcY HCK.out.rd k2));have C2:=J (Zz1 HCK.out k2 h2);have HM:Hid (Calls prog 296 #[.pointer (some ⟨R,0,none⟩)] w2 (PvA (λj=>B<=j/\j<N) B R w2 X1 (some (.tuple #[I mn,I mx],q2)))):=J (by have h9:=ZnK B R q X1 w2 h2;rw[hl]at h9;exact h9);clear h2 k2 hl HT1 HT2 HT3 HT HCK;go_wp2_with fail
       refine ZM HM.out ?_;rintro w3 ⟨h3,k3⟩;have HB4:=J (HB3.out.trans (ZcY C2.out.rd k3));have C3:=Zz1 C2.out k3 h3;obtain⟨C4,b4⟩:=Zz8 C3 mn;obtain⟨C5,b5⟩:=Zug C4 mx;obtain⟨⟨n0,n1,n2,n3,n4,n5,n6⟩,f5,f6⟩:=Zbp C3.nd;have HB5:=J ((HB4.out.trans b4).trans b5);have HA:=J (Zne C5 (by omega));clear h3 k3 C3 C4 C5 b4 b5 C2 HM;go_wp2_with fail
       refine ZM HA.out ?_;rintro w4 ⟨h4,k4⟩;have H4:=J h4;have HB6:=J (HB5.out.trans k4);clear h4 k4 HA;go_wp2
       go_end0
       exact Zgz E.out rfl H4.out HB6.out
     ·have HT4:=J (Zb4 B R 123 u1 X1 W HCK.out.rd e4);have E:Hid (rdP (f+1) u X=some (u1,X1)):=J (by rw[HE2.out];unfold ctP;rw[Za e1,Za e2,Za e3,Za e4]);have HR:Hid (RD (λj=>B<=j) B R W u1 X1):=J (by
       obtain⟨h0,ta,tc,ad,c,h1,h2,h3,h4⟩:=HCK.out.rd;exact⟨h0,ta,tc,ad,c,h1,h2,ZhE h3 (λk _ hs=>hs.1),λk hk=>(h4 k hk).1⟩)
      clear HE2 e1 e2 e3 e4;go_wp2_with (first|(go_at_call_of 259 (Value.int .i64 63);refine Zc HT1.out ?_)|(go_at_call_of 259 (Value.int .i64 42);refine Zc HT2.out ?_)|(go_at_call_of 259 (Value.int .i64 43);refine Zc HT3.out ?_)|(go_at_call_of 259 (Value.int .i64 123);refine Zc HT4.out ?_))
      go_end0
      exact Zgz E.out rfl HR.out HB2.out
theorem Zri{B R:Nat}{u:List Int}{X:List Nd}{w:World}(k:Int)(a b:Int)(h:RD (λj=>B<=j) B R w u X)(hX:X.length<=5000):Calls prog 260 #[.pointer (some ⟨R,0,none⟩),.agg #[I k,.bool false,.slice none 0 0,I a,I b,I 0,I 0]] w λe w'=>e=.returned (.tuple #[])/\RD (λj=>B<=j) B R w' u (X++[⟨k,false,[],a,b,0,0⟩])/\Below B w w':=
 Zmw B R u X ⟨k,false,[],a,b,0,0⟩ none 0 w hX (by simp) h (λj hj=>hj) (ZEo _ _ _ _) (λk hk=>by cases hk)
theorem ZCu(n:Nat)(hP:PcC n):RwC n:=by
 intro B R u X w g hu hg hX h;obtain⟨f,rfl⟩:∃f,g=f+1:=⟨g-1,by omega⟩;have HE:Hid (rdR (f+1) u X=if rwE u=true then some (u,X++[emN]) else match rdP f u X with
  |none=>none
  |some (u1,X1)=>Zik f u1 X1):=J (by rw[rdR];rfl)
 have HR:=J (ZnM B R u X w h);by_cases hq:rwE u=true
 ·have E:Hid (rdR (f+1) u X=some (u,X++[emN])):=J (by rw[HE.out,Zd hq]);have HA:=J (Zri 1 0 0 h (by omega));rw[hq]at HR;clear h HE hq;go_enter func257,ntmps257
  go_wp2_with (go_at_call 284;refine Zc HR.out ?_)
  refine ZM HA.out ?_;rintro w2 ⟨h2,k2⟩;have H2:=J h2;have HB2:=J k2;clear h2 k2 HA;go_wp2
  go_end0
  exact Zgz E.out rfl H2.out HB2.out
 ·have hqf:rwE u=false:=by simpa using hq
  have HP:=J (hP B R u X w f hu (by omega) hX h);rw[hqf]at HR;rcases hr:rdP f u X with _|⟨u1,X1⟩
  ·have E:Hid (rdR (f+1) u X=none):=J (by rw[HE.out,Za hq,hr]);have HN:=J (Zdn hr HP.out);clear HE HP hr h hq hqf;go_enter func257,ntmps257
   go_wp2_with (go_at_call 284;refine Zc HR.out ?_)
   refine HN.out.mono ?_;rintro e w2 ⟨⟨tv,v,rfl⟩,k2⟩;have K2:=J k2;clear k2;go_wp2;exact⟨rfl,Zha E.out ⟨⟨_,_,rfl⟩,K2.out⟩⟩
  ·have E0:Hid (rdR (f+1) u X=Zik f u1 X1):=J (by rw[HE.out,Za hq,hr]);have HN:=J (Zdm hr HP.out);obtain⟨hsy,hs1,hs2⟩:=(Zet f).2.2.2.2.1 hr;have hsl:X.length<=X1.length:=by obtain⟨Y,rfl⟩:=hsy;simp
   clear HE HP hr h hq hqf hsy;go_enter func257,ntmps257
   go_wp2_with (go_at_call 284;refine Zc HR.out ?_)
   refine ZM HN.out ?_;rintro w1 ⟨h1,k1⟩;have H1:=J h1;have HB1:=J k1;clear h1 k1 HN HR;go_wp2_with fail
   go_loopw [] (λwr=>∃(ul:List Int) (Xl:List Nd) (q:Nat),(ul.length<=n/\4*ul.length+3<=q/\Xl.length+2*ul.length<=1999)/\Hid (RD (λj=>B<=j) B R wr ul Xl)/\Hid (Below B w wr)/\Hid (rdR (f+1) u X=Zik q ul Xl)) (λwr=>rsN R wr)
   case atStart=>exact⟨u1,X1,f,⟨by omega,by omega,by omega⟩,H1,HB1,E0⟩
   case round=>
    clear H1 HB1 E0;obtain⟨ul,Xl,q,⟨hb1,hb2,hb3⟩,HR,HB,HE⟩:=hrel;have hmeas:=Zh8 HR.out;obtain⟨q,rfl⟩:∃p,q=p+1:=⟨q-1,by omega⟩;have HE1:Hid (rdR (f+1) u X=if rwE ul=true then some (ul,Xl) else match rdP q ul Xl with
  |none=>none
  |some (u1,X1)=>Zik q u1 (X1++[sqN ((Xl.length:Int)-1) ((X1.length:Int)-1)])):=J (by rw[HE.out,Zik];rfl)
    have HQ:=J (ZnM B R ul Xl wr HR.out);clear HE;by_cases hq:rwE ul=true
    ·have E:Hid (rdR (f+1) u X=some (ul,Xl)):=J (by rw[HE1.out,Zd hq]);rw[hq]at HQ;clear HE1 hq;go_wp2_with (go_at_call 284;refine Zc HQ.out ?_)
     go_end0
     exact Zgz E.out rfl HR.out HB.out
    ·have hqf:rwE ul=false:=(by simpa using hq);have HP:=J (hP B R ul Xl wr q hb1 (by omega) (by omega) HR.out);have HL:=J (Zk8 B R ul Xl wr (by omega) HR.out);rw[hqf]at HQ;rcases hr:rdP q ul Xl with _|⟨u2,X2⟩
     ·have E:Hid (rdR (f+1) u X=none):=J (by rw[HE1.out,Za hq,hr]);have HN:=J (Zdn hr HP.out);clear HE1 HP hr hq hqf;go_wp2_with (first|(go_at_call 284;refine Zc HQ.out ?_)|(go_at_call 258;refine Zc HL.out ?_))
      refine HN.out.mono ?_;rintro e w2 ⟨⟨tv,v,rfl⟩,k2⟩;have K2:=J (ZeO HB.out ⟨⟨tv,v,rfl⟩,k2⟩);clear k2;go_wp2;exact⟨rfl,Zha E.out K2.out⟩
     ·have HE2:Hid (rdR (f+1) u X=Zik q u2 (X2++[sqN ((Xl.length:Int)-1) ((X2.length:Int)-1)])):=J (by rw[HE1.out,Za hq,hr]);have HN:=J (Zdm hr HP.out);obtain⟨hsy,hs1,hs2⟩:=(Zet q).2.2.2.2.1 hr;have hsl:Xl.length<=X2.length:=(by obtain⟨Y,rfl⟩:=hsy;simp);obtain⟨a1,ha1⟩:=ZX ((Xl.length:Int)-1);rw[ha1]at HE2 HL;clear HE1 HP hr hq hqf hsy;go_wp2_with (first|(go_at_call 284;refine Zc HQ.out ?_)|(go_at_call 258;refine Zc HL.out ?_))
      refine ZM HN.out ?_;rintro w2 ⟨h2,k2⟩;have HB2:=J (HB.out.trans k2);have HL2:=J (Zk8 B R u2 X2 w2 (by omega) h2);obtain⟨a2,ha2⟩:=ZX ((X2.length:Int)-1);rw[ha2]at HE2 HL2;have HA:=J (Zri 3 a1 a2 h2 (by omega));clear h2 k2 HL HQ HN ha1 ha2;go_wp2_with (go_at_call 258;refine Zc HL2.out ?_)
      refine ZM HA.out ?_;rintro w3 ⟨h3,k3⟩;have H3:=J h3;have HB3:=J (HB2.out.trans k3);clear h3 k3 HA;go_wp2
      go_roundw
      case rel=>exact⟨u2,X2++[sqN a1 a2],q,⟨by omega,by omega,by simp;omega⟩,H3,HB3,HE2⟩
      case measure=>rw[Zh8 H3.out,hmeas];omega
theorem Zus(n:Nat)(hR:RwC n):ChC n:=by
 intro B R u X w g hu hg hX h;obtain⟨f,rfl⟩:∃f,g=f+1:=⟨g-1,by omega⟩;have HE:Hid (rdC (f+1) u X=match rdR f u X with
  |none=>none
  |some (u1,X1)=>ZjR f u1 X1):=J (by rw[rdC];rfl)
 have HP:=J (hR B R u X w f hu (by omega) hX h);rcases hr:rdR f u X with _|⟨u1,X1⟩
 ·have E:Hid (rdC (f+1) u X=none):=J (by rw[HE.out,hr]);have HN:=J (Zdn hr HP.out);clear HE HP hr h;go_enter func221,ntmps221
  go_wp2_with fail
  refine HN.out.mono ?_;rintro e w2 ⟨⟨tv,v,rfl⟩,k2⟩;have K2:=J k2;clear k2;go_wp2;exact⟨rfl,Zha E.out ⟨⟨_,_,rfl⟩,K2.out⟩⟩
 ·have E0:Hid (rdC (f+1) u X=ZjR f u1 X1):=J (by rw[HE.out,hr]);have HN:=J (Zdm hr HP.out);obtain⟨hsy,hs1,hs2⟩:=(Zet f).2.2.1 hr;clear HE HP hr h hsy;go_enter func221,ntmps221
  go_wp2_with fail
  refine ZM HN.out ?_;rintro w1 ⟨h1,k1⟩;have H1:=J h1;have HB1:=J k1;clear h1 k1 HN;go_wp2_with fail
  go_loopw [] (λwr=>∃(ul:List Int) (Xl:List Nd) (q:Nat),(ul.length<=n/\4*ul.length+3<=q/\Xl.length+2*ul.length<=2001)/\Hid (RD (λj=>B<=j) B R wr ul Xl)/\Hid (Below B w wr)/\Hid (rdC (f+1) u X=ZjR q ul Xl)) (λwr=>rsN R wr)
  case atStart=>exact⟨u1,X1,f,⟨by omega,by omega,by omega⟩,H1,HB1,E0⟩
  case round=>
   clear H1 HB1 E0;obtain⟨ul,Xl,q,⟨hb1,hb2,hb3⟩,HR,HB,HE⟩:=hrel;have hmeas:=Zh8 HR.out;obtain⟨q,rfl⟩:∃p,q=p+1:=⟨q-1,by omega⟩;have HE1:Hid (rdC (f+1) u X=if ul.head?=some 124 then (match rdR q ul.tail Xl with
  |none=>none
  |some (u1,X1)=>ZjR q u1 (X1++[orN ((Xl.length:Int)-1) ((X1.length:Int)-1)])) else some (ul,Xl)):=J (by rw[HE.out,ZjR];rfl)
   have HL:=J (Zk8 B R ul Xl wr (by omega) HR.out);clear HE;by_cases hq:ul.head?=some 124
   ·obtain⟨y,rfl⟩:∃y,ul=124::y:=⟨_,ZaH hq⟩;have HT:=J (Zco B R 124 y Xl wr HR.out);have HE2:Hid (rdC (f+1) u X=match rdR q y Xl with
  |none=>none
  |some (u1,X1)=>ZjR q u1 (X1++[orN ((Xl.length:Int)-1) ((X1.length:Int)-1)])):=J (by rw[HE1.out,Zd hq];rfl)
    simp only[ZDB]at hb1 hb2 hb3 hmeas;obtain⟨a1,ha1⟩:=ZX ((Xl.length:Int)-1);rw[ha1]at HE2 HL;clear HE1 hq ha1;go_wp2_with (go_at_call 258;refine Zc HL.out ?_)
    refine ZM HT.out ?_;rintro w2 ⟨h2,k2⟩;have HB2:=J (HB.out.trans (ZcY HR.out k2));have HP:=J (hR B R y Xl w2 q (by omega) (by omega) (by omega) h2);clear h2 k2 HL HT HR HB;rcases hr:rdR q y Xl with _|⟨u2,X2⟩
    ·have E:Hid (rdC (f+1) u X=none):=J (by rw[HE2.out,hr]);have HN:=J (Zdn hr HP.out);clear HE2 HP hr;go_wp2_with fail
     refine HN.out.mono ?_;rintro e w3 ⟨⟨tv,v,rfl⟩,k3⟩;have K3:=J (ZeO HB2.out ⟨⟨tv,v,rfl⟩,k3⟩);clear k3;go_wp2;exact⟨rfl,Zha E.out K3.out⟩
    ·have HE3:Hid (rdC (f+1) u X=ZjR q u2 (X2++[orN a1 ((X2.length:Int)-1)])):=J (by rw[HE2.out,hr]);have HN:=J (Zdm hr HP.out);obtain⟨hsy,hs1,hs2⟩:=(Zet q).2.2.1 hr;clear HE2 HP hr hsy;go_wp2_with fail
     refine ZM HN.out ?_;rintro w3 ⟨h3,k3⟩;have HB3:=J (HB2.out.trans k3);have HL2:=J (Zk8 B R u2 X2 w3 (by omega) h3);obtain⟨a2,ha2⟩:=ZX ((X2.length:Int)-1);rw[ha2]at HE3 HL2;have HA:=J (Zri 4 a1 a2 h3 (by omega));clear h3 k3 HN ha2;go_wp2_with (go_at_call 258;refine Zc HL2.out ?_)
     refine ZM HA.out ?_;rintro w4 ⟨h4,k4⟩;have H4:=J h4;have HB4:=J (HB3.out.trans k4);clear h4 k4 HA;go_wp2
     go_roundw
     case rel=>exact⟨u2,X2++[orN a1 a2],q,⟨by omega,by omega,by simp;omega⟩,H4,HB4,HE3⟩
     case measure=>rw[Zh8 H4.out,hmeas];omega
   ·have E:Hid (rdC (f+1) u X=some (ul,Xl)):=J (by rw[HE1.out,Za hq]);have HT:=J (Zb4 B R 124 ul Xl wr HR.out hq);clear HE1 hq;go_wp2_with (first|(go_at_call 258;refine Zc HL.out ?_)|(go_at_call 259;refine Zc HT.out ?_))
    go_end0
    exact Zgz E.out rfl HR.out HB.out
theorem ZCt:∀n,n<=400->ChC n:=by
 intro n;induction n using Nat.strongRecOn with
 |ind n ih=>
  intro hn;exact Zus n (ZCu n (ZxC n (Zzr n (λm hm=>ih m hm (by omega)) hn)))
theorem ZgZ(p q:Addr)(x y:Value)(t:TypeId)(pv:Value)(older:List PanicEntry)(w:World)(hc:w.cell? p=some x)(hz:w.frozen? p=false)(hd:(w.setCell p (.slice none 0 0)).cell? q=some y)(hy:(w.setCell p (.slice none 0 0)).frozen? q=false):
  CallsD prog 220 #[.pointer (some p),.pointer (some q)] (.panicking ({ v:=.iface t pv,recovered:=false }::older)) w λe u' w'=>
   e=.returned (.tuple #[])/\u'=.panicking ({ v:=.iface t pv,recovered:=true }::older)/\w'=(w.setCell p (.slice none 0 0)).setCell q (.bool false):=by
 refine callsD_of_wpS func220 rfl λc₀ cs hu=>?_
 apply wpS_seq;apply wpS_region;simp[wpOpsS,go_sem,recoverD,hu,ntmps220,Exit.thenS];refine wpS_cond (t:=true) (by simp[Act.eval,Array.replicate]) ?_;simp only[if_true];apply wpS_region;simp[wpOpsS,go_sem,hc,hz,hd,hy,bodyPostS,results,results220]
theorem ZlW(p q:Addr)(w:World):
  CallsD prog 220 #[.pointer (some p),.pointer (some q)] .returning w λe u' w'=>e=.returned (.tuple #[])/\u'=.returning/\w'=w:=by
 refine callsD_of_wpS func220 rfl λc₀ cs hu=>?_
 apply wpS_seq;apply wpS_region;simp[wpOpsS,go_sem,recoverD,hu,ntmps220,Exit.thenS];refine wpS_cond (t:=false) (by simp[Act.eval,Array.replicate]) ?_;simp only[ZN,if_false];refine wpS_of_wp (wp_skip ?_);cases c₀
 simp_all [bodyPostS,results,results220]
def rdW(u:List Int):Option (List Nd):=match rdC (4*u.length+4) u [] with
 |some ([],X)=>some X
 |_=>none
theorem Zns{u:List Int}{X:List Nd}(h:rdC (4*u.length+4) u []=some ([],X)):rdW u=some X:=by unfold rdW;rw[h]
theorem ZtC{u:List Int}(h:rdC (4*u.length+4) u []=none):rdW u=none:=by unfold rdW;rw[h]
theorem ZnN{u r:List Int}{c:Int}{X:List Nd}(h:rdC (4*u.length+4) u []=some (c::r,X)):rdW u=none:=by unfold rdW;rw[h]
def RwX(o:Option (List Nd))(w:World)(e:Ending)(w':World):Prop:=match o with
 |some X=>∃ad c,e=.returned (.tuple #[.slice ad X.length c,.bool true])/\XOZ 500 w.heap.size (λj=>w.heap.size<=j) w' ad c X/\ZL w w'
 |none=>e=.returned (.tuple #[.slice none 0 0,.bool false])/\ZL w w'
def BX(w:World)(L:Nat)(v:Value)(t:TypeId):Prop:=w.heap[L]?=some (.cells #[v] t (0,0))
section
variable {w w':World} {L:Nat} {v:Value} {t:TypeId}
theorem Zdc(h:BX w L v t):w.cell? ⟨L,0,none⟩=some v:=by
 rw[ZO w L 0 _ _ (0,0) h];rfl
theorem Zd0(h:BX w L v t):w.frozen? ⟨L,0,none⟩=false:=ZEm w L 0 _ _ h
theorem ZvO(h:BX w L v t)(v':Value):BX (w.setCell ⟨L,0,none⟩ v') L v' t:=ZEk w L 0 _ _ v' h
theorem Zqx{S:Nat->Prop}(h:BX w L v t)(k:Kp S w w')(hS:¬S L):BX w' L v t:=(k.block L (Array.getElem?_eq_some_iff.1 h).1 hS).trans h
theorem Zpm{B:Nat}(h:BX w L v t)(k:Below B w w')(hS:L<B):BX w' L v t:=(k.block L hS).trans h
end
theorem Zsu{w:World}{L:Nat}{v1 v2 a b:Value}{t1 t2:TypeId}(h1:BX w L v1 t1)(h2:BX w (L+1) v2 t2):BX ((w.setCell ⟨L,0,none⟩ a).setCell ⟨L+1,0,none⟩ b) L a t1/\BX ((w.setCell ⟨L,0,none⟩ a).setCell ⟨L+1,0,none⟩ b) (L+1) b t2/\Kp (λj=>j=L\/j=L+1) w ((w.setCell ⟨L,0,none⟩ a).setCell ⟨L+1,0,none⟩ b)/\BX (w.setCell ⟨L,0,none⟩ a) (L+1) v2 t2:=by
 have a1:=ZvO h1 a;have k1:Kp (λj=>j=L) w (w.setCell ⟨L,0,none⟩ a):=Zex (S:=λj=>j=L) _ _ _ rfl;have a2:=Zqx h2 k1 (by omega);have k2:Kp (λj=>j=L+1) (w.setCell ⟨L,0,none⟩ a) ((w.setCell ⟨L,0,none⟩ a).setCell ⟨L+1,0,none⟩ b):=Zex (S:=λj=>j=L+1) _ _ _ rfl;exact⟨Zqx a1 k2 (by omega),ZvO a2 b,((Kp.refl (λj=>j=L\/j=L+1) w).trans k1 (λj _ hj => .inl hj)).trans k2 (λj _ hj => .inr hj),a2⟩
theorem Zkb{Z B B':Nat}{S:Nat->Prop}{w:World}{ad:Option Addr}{c:Nat}{X:List Nd}(h:XOZ Z B S w ad c X)(hB:B'<=B):XOZ Z B' S w ad c X:=by
 obtain⟨xs,⟨h0,h1⟩,h2,h3⟩:=h;refine⟨xs,⟨h0,?_⟩,h2,h3⟩;rcases h1 with h1|⟨g,cap,cur,hv,hg,rest⟩
 ·exact .inl h1
 ·exact .inr ⟨g,cap,cur,hv,ZDA hB hg,rest⟩
theorem ZtG(u:List Int)(n:Nat)(ta:Option Addr)(tc:Nat)(w:World)(hn:u.length=n)(hu:n<=400)(ht:Tx w.heap.size w ta tc u):Calls prog 186 #[.slice ta n tc] w (RwX (rdW u) w):=by
 have hmf:∀(fn:Fn) (first cap:Array Value) (w:World),(Instr.makeFunc fn first cap).run prog w=.ok (.func fn first cap) w:=λ_ _ _ _=>rfl
 have hwaD:∃wa,wa=(((w.alloc (.cells #[.slice none 0 0] 57)).alloc (.cells #[.bool false] 4)).alloc (.cells #[.slice ta n tc,.slice none 0 0] 240)):=⟨_,rfl⟩;obtain⟨wa,hwa⟩:=hwaD;have hsz:wa.heap.size=w.heap.size+3:=by rw[hwa];simp
 have HKA:Hid (Kp (λ_=>False) w wa):=J (by
  rw[hwa];exact((Zay w _).trans (Zay (S:=λ_=>False) _ _) (λ_ _ x=>x)).trans (Zay (S:=λ_=>False) _ _) (λ_ _ x=>x))
 have HBA:Hid (ZL w wa):=J (ZaB HKA.out (Zb _) (λ_ h9=>h9.elim));have HA:Hid (RD (λj=>w.heap.size+1+1<=j) (w.heap.size+1+1) (w.heap.size+1+1) wa u []):=J (by
  refine⟨Zb _,ta,tc,none,0,?_,?_,Zrj _ _ _,λk hk=>(by cases hk)⟩
  ·rw[hwa,hn];have:=Zz ((w.alloc (.cells #[.slice none 0 0] 57)).alloc (.cells #[.bool false] 4)) (.cells #[.slice ta n tc,.slice none 0 0] 240);rw[show((w.alloc (.cells #[.slice none 0 0] 57)).alloc (.cells #[.bool false] 4)).heap.size=w.heap.size+1+1 by simp]at this;exact this
  ·obtain⟨t1,t2,t3,t4⟩:=ZbG ht HBA.out;exact⟨t1,t2,λh9=>by obtain⟨b,off,e,hb,hc⟩:=t3 h9;exact⟨b,off,e,by omega,hc⟩,t4⟩)
 have HB1:Hid (BX wa w.heap.size (.slice none 0 0) 57):=J (by
  rw[hwa];exact Zqx (Zqx (w:=w.alloc _) (Zz w _) (Zay (S:=λ_=>False) _ _) (λx=>x)) (Zay (S:=λ_=>False) _ _) (λx=>x))
 have HB2:Hid (BX wa (w.heap.size+1) (.bool false) 4):=J (by
  rw[hwa];have:=Zz (w.alloc (.cells #[.slice none 0 0] 57)) (.cells #[.bool false] 4);rw[show(w.alloc (.cells #[.slice none 0 0] 57)).heap.size=w.heap.size+1 by simp]at this;exact Zqx this (Zay (S:=λ_=>False) _ _) (λx=>x))
 have HC:=J (ZCt u.length (by omega) (w.heap.size+1+1) (w.heap.size+1+1) u [] wa (4*u.length+4) (Zb _) (Zb _) (by simp;omega) HA.out);clear ht hn
 go_enter_defers func186,ntmps186
 go_wp2_with fail
 rw[<-hwa];clear hwa;rcases hr:rdC (4*u.length+4) u [] with _|⟨u1,X1⟩
 ·have HN:=J (Zdn hr HC.out);have HE:=J (ZtC hr);clear HC hr;refine HN.out.mono ?_;rintro e w1 ⟨⟨tv,v,rfl⟩,hb⟩;have b1:=Zpm HB1.out hb (by omega);have b2:=Zpm HB2.out hb (by omega);have HB:=J (HBA.out.trans (hb.mono (by omega)));have BB1:=J b1;have BB2:=J b2;clear hb b1 b2;go_wp2;refine leaves_cons (f:=220) (args:=#[.pointer (some ⟨w.heap.size,0,none⟩),.pointer (some ⟨w.heap.size+1,0,none⟩)]) (by simp) (by simp[go_sem]) ?_;have g1:=BB1.out;have g2:=BB2.out;obtain⟨q1,q2,q3,q4⟩:=Zsu (a:=.slice none 0 0) (b:=.bool false) g1 g2;refine(ZgZ ⟨w.heap.size,0,none⟩ ⟨w.heap.size+1,0,none⟩ _ _ tv v [] w1 (Zdc g1) (Zd0 g1) (Zdc q4) (Zd0 q4)).mono ?_;rintro e u9 w9 ⟨rfl,rfl,hw9⟩;rw[<-hw9]at q1 q2 q3;clear hw9;have d1:=Zdc q1;have d2:=Zdc q2;have HQ:Hid (RwX (rdW u) w (.returned (.tuple #[.slice none 0 0,.bool false])) w9):=J (by rw[HE.out];exact⟨rfl,HB.out.trans (ZaB q3 HB.out.size (λj hj=>by omega))⟩);simp[Leaves,settle,results,results186,go_sem,d1,d2];exact HQ.out
 ·have HN:=J (Zdm hr HC.out);refine ZM HN.out ?_;rintro w1 ⟨h1,hb⟩;have b1:=Zpm HB1.out hb (by omega);have b2:=Zpm HB2.out hb (by omega);have HB:=J (HBA.out.trans (hb.mono (by omega)));obtain⟨h0,t1,tc1,ad,c,hx1,htx1,hxo,hxk⟩:=h1;obtain⟨r0,r1⟩:=ZdH hx1;have c1:=Zdc b1;have c2:=Zdc b2;have f1:=Zd0 b1;have f2:=Zd0 b2;have BB1:=J b1;have BB2:=J b2;have HXO:=J hxo;clear hb b1 b2 hx1 htx1 hxo hxk HC HN;cases u1 with
  |cons d r=>
   have HE:=J (ZnN hr);have hl:(((d::r).length:Int)==0)=false:=by simp only[ZDB,ZDU,ne_eq];omega
   clear hr;go_wp2_with fail
   refine(Zfu w1.heap.size _ _).mono ?_;rintro e w2 ⟨⟨tv,v,rfl⟩,k2⟩;have hs1:=HB.out.size;have g1:=Zpm BB1.out k2 (Array.getElem?_eq_some_iff.1 BB1.out).1;have g2:=Zpm BB2.out k2 (Array.getElem?_eq_some_iff.1 BB2.out).1;have HB2:=J (HB.out.trans (k2.mono hs1));obtain⟨q1,q2,q3,q4⟩:=Zsu (a:=.slice none 0 0) (b:=.bool false) g1 g2;have HQQ:=J (And.intro q1 (And.intro q2 (And.intro q3 q4)));have HG:=J (And.intro g1 g2);clear k2 c1 c2 f1 f2 r0 r1 g1 g2 q1 q2 q3 q4;go_wp2;refine leaves_cons (f:=220) (args:=#[.pointer (some ⟨w.heap.size,0,none⟩),.pointer (some ⟨w.heap.size+1,0,none⟩)]) (by simp) (by simp[go_sem]) ?_;obtain⟨q1,q2,q3,q4⟩:=HQQ.out;obtain⟨g1,g2⟩:=HG.out;refine(ZgZ ⟨w.heap.size,0,none⟩ ⟨w.heap.size+1,0,none⟩ _ _ tv v [] w2 (Zdc g1) (Zd0 g1) (Zdc q4) (Zd0 q4)).mono ?_;rintro e u9 w9 ⟨rfl,rfl,hw9⟩;rw[<-hw9]at q1 q2 q3;clear hw9;have d1:=Zdc q1;have d2:=Zdc q2;have HQ:Hid (RwX (rdW u) w (.returned (.tuple #[.slice none 0 0,.bool false])) w9):=J (by rw[HE.out];exact⟨rfl,HB2.out.trans (ZaB q3 HB2.out.size (λj hj=>by omega))⟩);simp[Leaves,settle,results,results186,go_sem,d1,d2];exact HQ.out
  |nil=>
   have HE:=J (Zns hr);clear hr;go_wp2_with fail
   refine ZM (Zfx _ _) ?_;rintro w2 hw2;rw[hw2];clear hw2 w2;go_wp2;obtain⟨q1,q2,q3,-⟩:=Zsu (a:=.slice ad X1.length c) (b:=.bool true) BB1.out BB2.out;obtain⟨wf,hwf⟩:=ZX ((w1.setCell ⟨w.heap.size,0,none⟩ (.slice ad X1.length c)).setCell ⟨w.heap.size+1,0,none⟩ (.bool true));rw[hwf]at q1 q2 q3;rw[hwf];clear hwf;have d1:=Zdc q1;have d2:=Zdc q2;have HQ:Hid (RwX (rdW u) w (.returned (.tuple #[.slice ad X1.length c,.bool true])) wf):=J (by
    rw[HE.out];refine⟨ad,c,rfl,Ztd (ZhE (Zkb HXO.out (by omega)) (λk _ hs=>by have hs':w.heap.size+1+1<=k:=hs;omega)) q3 (λj hj=>?_) (λB' z n v ys j hv hj _=>?_),HB.out.trans (ZaB q3 HB.out.size (λj hj=>by omega))⟩
    ·obtain⟨xs,hx,-⟩:=HXO.out;rintro (e|e)
     ·exact Zbf hx hj BB1.out (by decide) e
     ·exact Zbf hx hj BB2.out (by decide) e
    ·rintro (e|e)
     ·exact Zbf hv hj BB1.out (by decide) e
     ·exact Zbf hv hj BB2.out (by decide) e)
   refine leaves_cons (f:=220) (args:=#[.pointer (some ⟨w.heap.size,0,none⟩),.pointer (some ⟨w.heap.size+1,0,none⟩)]) (by simp) (by simp[go_sem]) ?_;refine(ZlW ⟨w.heap.size,0,none⟩ ⟨w.heap.size+1,0,none⟩ _).mono ?_;rintro e u9 w9 ⟨rfl,rfl,rfl⟩;simp[Leaves,settle,results,results186,go_sem,d1,d2];exact HQ.out
theorem Zx8(l:List UInt8):chB ((Lib.decodeL l).1:Int)=true:=by
 have h:=Lib.decodeN_valid l.length (l.getD 0 0).toNat (l.getD 1 0).toNat (l.getD 2 0).toNat (l.getD 3 0).toNat (UInt8.toNat_lt _);rw[<-Lib.decodeL_N]at h;unfold chB;rw[ZD1];omega
theorem ZkS:∀(f:Nat) (l:List UInt8),l.length<=f->∀x,Z9 l=some x->∀c∈x,chB c=true
 |0,l,hf,x,hx=>by
  have:l=[]:=List.length_eq_zero_iff.1 (by omega);subst this;rw[Zbs]at hx;cases hx;intro c hc;cases hc
 |f+1,l,hf,x,hx=>by
  by_cases h:l=[]
  ·subst h;rw[Zbs]at hx;cases hx;intro c hc;cases hc
  ·by_cases hb:Lib.decodeL l=(65533,1)
   ·rw[Zb7 h hb]at hx;cases hx
   ·have hl:0<l.length:=List.length_pos_iff.2 h;have hw:=Lib.decodeL_width l;rw[ZbA h hb]at hx;cases hy:Z9 (l.drop (Lib.decodeL l).2) with
    |none=>rw[hy]at hx;cases hx
    |some y=>
     rw[hy]at hx;simp at hx;subst hx;have ih:=ZkS f (l.drop (Lib.decodeL l).2) (by rw[ZDC];omega) y hy;intro c hc;rcases List.mem_cons.1 hc with rfl|hc
     ·exact Zx8 l
     ·exact ih c hc
theorem Zrb(s:ZB):∀c∈ZF (rns s),chB c=true:=by
 unfold rns;by_cases h:s.size<=20000
 ·rw[Zd h];cases hx:Z9 s.data.toList with
  |none=>intro c hc;simp[ZF]at hc
  |some x=>exact ZkS _ s.data.toList (Zb _) x hx
 ·rw[Za h];intro c hc;simp[ZF]at hc
theorem Zs8{kd:Int}{nt:Bool}{n:Nat}{L H:Nat->Int}{a b mn mx:Int}(h:ZR kd nt n L H a b mn mx=true):n<=12:=by
 unfold ZR at h;split at h
 ·simp at h;omega
 ·split at h
  ·unfold ZlR at h;simp at h;omega
  ·split at h
   ·simp at h;omega
   ·split at h
    ·simp at h;omega
    ·cases h
theorem ZwT{X:List Nd}(h:rxB (ZdZ X)=true){j:Nat}{nd:Nd}(hj:X[j]?=some nd):nd.L.length<=12:=by
 have hlt:j<X.length:=(List.getElem?_eq_some_iff.1 hj).1;cases hx:ZdO (ZdZ X) j with
 |false=>rw[Zhg (X:=ZdZ X) hlt hx]at h;cases h
 |true=>
  unfold ZdO at hx;have h9:=Zs8 hx;have e:(ZdZ X).NR j=nd.L.length:=by simp only[ZdZ,Zgt hj]
  omega
theorem ZDj{Z Z' B:Nat}{S:Nat->Prop}{w:World}{ad:Option Addr}{c:Nat}{X:List Nd}(h:XOZ Z B S w ad c X)(hz:∀(j:Nat) (nd:Nd),X[j]?=some nd->nd.L.length<=Z'):XOZ Z' B S w ad c X:=by
 obtain⟨xs,h1,h2,h3⟩:=h;refine⟨xs,h1,λj nd hj=>?_,h3⟩;obtain⟨a,cp,b1,b2,b3,b4⟩:=h2 j nd hj;exact⟨a,cp,b1,b2,b3,hz j nd hj⟩
theorem ZnD{Z B:Nat}{S:Nat->Prop}{w:World}{ad:Option Addr}{c:Nat}{X:List Nd}(h:XOZ Z B S w ad c X){j:Nat}(hj:j<X.length):(ZlT X j).L.length<=Z:=by
 obtain⟨xs,h1,h2,h3⟩:=h;obtain⟨a,cp,b1,b2,b3,b4⟩:=h2 j X[j] (Zv hj);rw[Zgt (Zv hj)];exact b4
def rgW(C:List Int)(b:Bool):Option (List Nd):=if b=true/\C.length<=400 then (match rdW C with
 |none=>none
 |some X=>if rxB (ZdZ X)=true then some X else none) else none
def ZqN(V:List Nd)(ok:Bool)(w:World)(e:Ending)(w':World):Prop:=∃ad c,e=.returned (.tuple #[.slice ad V.length c,.bool ok])/\XO w.heap.size (λj=>w.heap.size<=j) w' ad c V/\ZL w w'
def rgV(C:List Int)(b:Bool):List Nd:=(rgW C b).getD []
def rgO(C:List Int)(b:Bool):Bool:=(rgW C b).isSome
theorem Zjw{C:List Int}{b:Bool}{w w':World}(h:rgW C b=none)(hb:ZL w w'):ZqN (rgV C b) (rgO C b) w (.returned (.tuple #[.slice none 0 0,.bool false])) w':=by
 unfold rgV rgO;rw[h];exact⟨none,0,rfl,Zrj _ _ _,hb⟩
theorem Zvs{C:List Int}{b:Bool}{X:List Nd}{w w':World}{ad:Option Addr}{c:Nat}(h:rgW C b=some X)(hx:XOZ 500 w.heap.size (λj=>w.heap.size<=j) w' ad c X)(hr:rxB (ZdZ X)=true)(hb:ZL w w'):ZqN (rgV C b) (rgO C b) w (.returned (.tuple #[.slice ad X.length c,.bool true])) w':=by
 unfold rgV rgO;rw[h];exact⟨ad,c,rfl,ZDj hx (λj nd hj=>by have:=ZwT hr hj;omega),hb⟩
theorem ZiE{B:Nat}{w:World}{ta:Option Addr}{tc:Nat}{C:List Int}(h:w.ownsRow B 2 1 (.slice ta C.length tc) C.length (C.map (Value.int .i64)))(hc:C.length<=20000)(hch:∀c∈C,chB c=true)(htc:C.length<=tc/\tc<=maxLen):Tx w.heap.size w ta tc C:=by
 refine⟨htc.1,htc.2,λh0=>?_,hch⟩;obtain⟨g,cap,hv,-,hg⟩:=h.form h0;simp only[ZDG]at hv;obtain⟨rfl,-,rfl⟩:=hv;refine⟨g,0,rfl,hg,λj c hj=>?_⟩;have hlt:j<C.length:=(List.getElem?_eq_some_iff.1 hj).1;rw[ZDE,h.cellAt j (by omega),List.getElem?_map,hj];rfl
theorem Zmg(s:ZB)(C:List Int)(b:Bool)(w:World)(hs:s.size<=1048576)(hTb:Ztz w)(hC:ZF (rns s)=C)(hb:(rns s).isSome=b):
  Calls prog 144 #[.string s] w (ZqN (rgV C b) (rgO C b) w):=by
 have CR:=J (Zdd s C b w hs hTb hC hb);have hcl:C.length<=20000:=by rw[<-hC];exact Zb0 s
 have HCH:Hid (∀c∈C,chB c=true):=J (by rw[<-hC];exact Zrb s);clear hC hb hTb;go_enter func144,ntmps144
 go_wp2_with fail
 refine CR.out.mono ?_;rintro e w1 ⟨ta,tc,rfl,ho1,hb1⟩;have HO1:=J ho1;have HB1:=J hb1;clear ho1 hb1 CR;cases b
 ·have E:Hid (rgW C false=none):=J (by unfold rgW;rw[Za (by simp)]);go_wp2;go_ret2;exact Zjw E.out HB1.out
 ·by_cases h4:400<C.length
  ·have h4':(400:Int)<(C.length:Int):=by omega
   have E:Hid (rgW C true=none):=J (by unfold rgW;rw[Za (by omega)]);go_wp2;go_ret2;exact Zjw E.out HB1.out
  ·have h4':¬(400:Int)<(C.length:Int):=by omega
   have htc:C.length<=tc/\tc<=maxLen:=by
    rcases HO1.out.2 with ⟨hv',hz⟩|⟨g',cap',cur',hv',-,-,hcc,hmx,-⟩
    ·simp only[ZDG]at hv';unfold maxLen;omega
    ·simp only[ZDG]at hv';omega
   have HI:=J (ZtG C C.length ta tc w1 rfl (by omega) (ZiE HO1.out hcl HCH.out htc));have HE0:Hid (rgW C true=match rdW C with
    |none=>none
    |some X=>if rxB (ZdZ X)=true then some X else none):=J (by unfold rgW;rw[Zd ⟨rfl,by omega⟩]<;>rfl)
   rcases hr:rdW C with _|X
   ·rw[hr]at HI;have E:Hid (rgW C true=none):=J (by rw[HE0.out,hr]);clear hr HE0;go_wp2_with fail
    refine ZM HI.out ?_;rintro w2 hb2;have HB2:=J (HB1.out.trans (hb2.mono HB1.out.size));clear hb2;go_wp2;go_ret2;exact Zjw E.out HB2.out
   ·rw[hr]at HI;have HE1:Hid (rgW C true=if rxB (ZdZ X)=true then some X else none):=J (by rw[HE0.out,hr]);have hXl:X.length<=5000:=by
     have h9:∃u,rdC (4*C.length+4) C []=some (u,X):=by
      unfold rdW at hr;split at hr
      ·rename_i Y e9;cases hr;exact⟨_,e9⟩
      ·cases hr
     obtain⟨u,h9⟩:=h9;have:=((Zet _).1 h9).2.2;simp at this;omega
    clear hr HE0;go_wp2_with fail
    refine HI.out.mono ?_;rintro e w2 ⟨ad,c,rfl,hx,hb2⟩;have HB2:=J (HB1.out.trans (hb2.mono HB1.out.size));have HX:=J (ZhE (T:=λj=>w.heap.size<=j) (Zkb (B':=w.heap.size) hx HB1.out.size) (λk _ hs=>ZDA HB1.out.size hs));have HG:=J (Zw1 (ZdZ X) X.length ad c w2 rfl (by unfold maxLen;omega) (λj hj=>by
     have h9:=ZnD hx hj;show(ZlT X j).L.length<=maxLen;unfold maxLen;omega) (Zuf hx))
    clear hx hb2 HI;cases hq:rxB (ZdZ X)
    ·have E:Hid (rgW C true=none):=J (by rw[HE1.out,Za (by rw[hq];decide)]);rw[hq]at HG;clear hq HE1;go_wp2_with (go_at_call 187;refine ZM HG.out ?_;rintro w3 hb3;have HB3:=J (HB2.out.trans (hb3.mono HB2.out.size));clear hb3)
     go_ret2;exact Zjw E.out HB3.out
    ·have E:Hid (rgW C true=some X):=J (by rw[HE1.out,Zd hq]);have HQ:=J hq;rw[hq]at HG;clear hq HE1;go_wp2_with (go_at_call 187;refine ZM HG.out ?_;rintro w3 hb3;have HB3:=J (HB2.out.trans (hb3.mono HB2.out.size));have HX3:=J (Zen HX.out hb3);clear hb3)
     go_ret2;exact Zvs E.out HX3.out HQ.out HB3.out
def ChS(n:Nat):Prop:=∀(B R:Nat) (C:List Int) (k:Nat) (X:List Nd) (w:World) (g:Nat),C.length-k<=n->4*(C.length-k)+4<=g->X.length<=120->SD (λj=>B<=j) B R w C k false X->Calls prog 133 #[.pointer (some ⟨R,0,none⟩)] w (RaS B R C w (rdC g (C.drop k) X))
def RwS(n:Nat):Prop:=∀(B R:Nat) (C:List Int) (k:Nat) (X:List Nd) (w:World) (g:Nat),C.length-k<=n->4*(C.length-k)+3<=g->X.length<=120->SD (λj=>B<=j) B R w C k false X->Calls prog 179 #[.pointer (some ⟨R,0,none⟩)] w (RaS B R C w (rdR g (C.drop k) X))
def PcS(n:Nat):Prop:=∀(B R:Nat) (C:List Int) (k:Nat) (X:List Nd) (w:World) (g:Nat),k<C.length->C.length-k<=n->4*(C.length-k)+2<=g->X.length<=120->SD (λj=>B<=j) B R w C k false X->Calls prog 219 #[.pointer (some ⟨R,0,none⟩)] w (RaS B R C w (rdP g (C.drop k) X))
def AtS(n:Nat):Prop:=∀(B R:Nat) (C:List Int) (k:Nat) (X:List Nd) (w:World) (g:Nat),k<C.length->C.length-k<=n->4*(C.length-k)+1<=g->X.length<=120->SD (λj=>B<=j) B R w C k false X->Calls prog 255 #[.pointer (some ⟨R,0,none⟩)] w (RaS B R C w (rdA g (C.drop k) X))
section
variable {B R:Nat} {C:List Int} {w w1 w':World} {o o':Option (List Int×List Nd)} {k':Nat} {X:List Nd} {nd:Nd} {e:Ending}
theorem ZcK(E:o=some (C.drop k',X++[nd]))(h:SD (λj=>B<=j) B R w' C k' (decide (120<X.length+1)) (X++[nd]))(hb:Below B w w'):RaS B R C w o (.returned (I (X.length:Int))) w':=by
 by_cases hb9:120<X.length+1
 ·rw[Zh hb9]at h;refine .inr ⟨⟨X.length,k',X++[nd],rfl,h⟩,λu' X' h9=>?_,hb⟩;rw[E]at h9;cases h9;exact .inl (by simp;omega)
 ·rw[Zg hb9]at h;exact .inl ⟨k',X++[nd],E,by simp;omega,by simp,h,hb⟩
theorem Zeq{v:Int}(E:o=none)(h:SD (λj=>B<=j) B R w' C k' true X)(hb:Below B w w'):RaS B R C w o (.returned (I v)) w':=
 .inr ⟨⟨v,k',X,rfl,h⟩,λu' X' h9=>(by rw[E]at h9;cases h9),hb⟩
theorem ZwA(hb:Below B w w1)(h:RaS B R C w1 o e w'):RaS B R C w o e w':=by
 rcases h with ⟨k',X',h1,h2,h3,h4,h5⟩|⟨h1,h2,h3⟩
 ·exact .inl ⟨k',X',h1,h2,h3,h4,hb.trans h5⟩
 ·exact .inr ⟨h1,h2,hb.trans h3⟩
theorem ZvI(E:o'=o)(h:RaS B R C w o e w'):RaS B R C w o' e w':=by rw[E];exact h
end
theorem Zsk{B R:Nat}{C:List Int}{k:Nat}{X:List Nd}{w:World}(nt:Bool)(L:List (Int×Int))(cs:Array Value)(n:Nat)(hn:L.length=n)(hc:cs.toList=prV L)(hl:n<=500)(hX:X.length<=120)(h:SD (λj=>B<=j) B R w C k false X):
  Calls prog 181 #[.pointer (some ⟨R,0,none⟩),.agg #[I 2,.bool nt,.slice (some ⟨w.heap.size,0,none⟩) n n,I 0,I 0,I 0,I 0]] (w.alloc (.cells cs 238)) λe w'=>e=.returned (I (X.length:Int))/\SD (λj=>B<=j) B R w' C k (decide (120<X.length+1)) (X++[clN nt L])/\Below B w w':=by
 subst hn;have hB:=ZcI h;refine(ZrH B R C k X (clN nt L) (some ⟨w.heap.size,0,none⟩) L.length (w.alloc (.cells cs 238)) hX hl (Zg9 (Zhl h) ((Ze w.heap.size w).alloc (Zb _) _)) (λj hj=>hj.1) (Zh1 (L:=L) rfl hl hc (Zz w _)) (λk hk=>?_)).mono ?_
 ·have h9:w.heap.size=k:=(by simpa[Value.ownBlock] using hk);refine⟨by omega,λh10=>?_⟩;have:k<w.heap.size:=h10.2;omega
 ·rintro e w' ⟨rfl,h1,h2⟩;exact⟨rfl,h1,(((Ze w.heap.size w).alloc (Zb _) _).mono hB).trans h2⟩
theorem ZuQ(n:Nat)(hC:∀m,m<n->ChS m)(B R:Nat)(C:List Int)(k:Nat)(X:List Nd)(w:World)(f:Nat)(hlt:k<C.length)(hn:C.length-k<=n)(hg:4*(C.length-k)+1<=f+1)(hX:X.length<=120)(h:SD (λj=>B<=j) B R w C k false X)(c:Int)(hr:C.drop k=c::C.drop (k+1))(e1:c=40):
  Calls prog 255 #[.pointer (some ⟨R,0,none⟩)] w (RaS B R C w (rdA (f+1) (c::C.drop (k+1)) X)):=by
 have H0:=J h;have hB:=ZcI h;have hC4:=h.1.2.2;obtain⟨b,off,tc,ad,cp,c0,c1,c2,c3,f1,f2,ck,-⟩:=Zbj h hr;have hch:=Zbl (ZkO h c (by rw[<-List.take_append_drop k C,hr];simp));have hd:decide ((k:Int)>=(C.length:Int))=false:=Zg (by omega);have hi0:(0:Int)<=(k:Int):=by omega
 have hi1:(k:Int)<(C.length:Int):=by omega
 have hi2:¬(C.length:Int)<=(k:Int):=by omega
 have hw:IntKind.i64.wrap ((k:Int)+1)=(k:Int)+1:=by rw[ZY];omega
 clear h hr;have HE:Hid (rdA (f+1) (c::C.drop (k+1)) X=match rdC f (C.drop (k+1)) X with
  |none=>none
  |some (u1,X1)=>if u1.head?=some 41 then some (u1.tail,X1) else none):=J (by rw[rdA,Zd e1];rfl)
 subst e1;go_enter func255,ntmps255
 go_wp2;go_quiet (fail)
 revert nq;intro n1
 have H1:=J (Zg3 (Zbu H0.out n1) hlt);have HB1:Hid (Below B w ((w.drewN n1).setCell ⟨R,1,none⟩ (I ((k:Int)+1)))):=J (ZU H0.out (ZaS (Zar w _) (Zd9 _ R 1 _)));go_wp2_with fail
 obtain⟨W,hW⟩:=ZX ((w.drewN n1).setCell ⟨R,1,none⟩ (I ((k:Int)+1)));rw[hW]at H1 HB1 ⊢;clear hW c0 c1 c2 c3 f1 f2 ck hd hi0 hi1 hi2 hw H0;refine(hC (C.length-(k+1)) (by omega) B R C (k+1) X W f (Zb _) (by omega) hX H1.out).mono ?_;rintro e w2 (⟨k',X',ho,hX',rfl,h2,hb2⟩|⟨⟨v,k',X',rfl,h2⟩,hno,hb2⟩)
 ·have HB2:=J (HB1.out.trans hb2);have HE2:Hid (rdA (f+1) (40::C.drop (k+1)) X=if (C.drop k').head?=some 41 then some ((C.drop k').tail,X') else none):=J (by have h9:=HE.out;rw[ho]at h9;exact h9);clear hb2 HE ho;by_cases e2:(C.drop k').head?=some 41
  ·have e3:=ZaH e2;obtain⟨-,e4,hlt4⟩:=ZbM e3;have E:Hid (rdA (f+1) (40::C.drop (k+1)) X=some (C.drop (k'+1),X')):=J (by rw[HE2.out,Zd e2,e4]);have HT:=J (Zgu B R C k' 41 _ X' w2 h2 e3);have H2:=J h2;clear HE2 e2 e3 e4 h2;go_wp2_with fail
   refine ZM HT.out ?_;rintro w3 ⟨h3,q3⟩;have H3:=J h3;have HB3:=J (HB2.out.trans (ZU H2.out q3));clear h3 q3;go_wp2;go_ret;exact .inl ⟨k'+1,X',E.out,hX',rfl,H3.out,HB3.out⟩
  ·have E:Hid (rdA (f+1) (40::C.drop (k+1)) X=none):=J (by rw[HE2.out,Za e2]);have HT:=J (Zgo B R C k' 41 X' w2 h2 e2);have H2:=J h2;clear HE2 e2 h2;go_wp2_with fail
   refine ZM HT.out ?_;rintro w3 ⟨h3,q3⟩;obtain⟨_,_,_,_,⟨-,-,d2,-⟩,ff,-⟩:=Zal h3;have ff2:=ff 2;have H4:=J (Zia h3 true);have HB4:=J ((HB2.out.trans (ZU H2.out q3)).trans (ZU h3 (Zd9 _ R 2 (.bool true))));clear h3 q3 ff;go_wp2;go_ret;exact Zeq E.out H4.out HB4.out
 ·have HB2:=J (HB1.out.trans hb2);have HNO:Hid (∀u9 X9,rdA (f+1) (40::C.drop (k+1)) X=some (u9,X9)->Bd X9):=J (λu9 X9 h9=>by
   rw[HE.out]at h9;cases hq:rdC f (C.drop (k+1)) X with
   |none=>rw[hq]at h9;cases h9
   |some p=>
    obtain⟨u1,X1⟩:=p;rw[hq]at h9;have hb9:=hno u1 X1 hq;dsimp only at h9;split at h9
    ·cases h9;exact hb9
    ·cases h9)
  have HT:=J (ZoA B R C k' 41 X' w2 h2);have H2:=J h2;clear hb2 HE h2 hno;go_wp2_with fail
  refine ZM HT.out ?_;rintro w3 ⟨h3,q3⟩;obtain⟨_,_,_,_,⟨-,-,d2,-⟩,ff,-⟩:=Zal h3;have ff2:=ff 2;have H4:=J (Zia h3 true);have HB4:=J ((HB2.out.trans (ZU H2.out q3)).trans (ZU h3 (Zd9 _ R 2 (.bool true))));clear h3 q3 ff;go_wp2;go_ret;exact .inr ⟨⟨v,k',X',rfl,H4.out⟩,HNO.out,HB4.out⟩
theorem ZtR(n:Nat)(hC:∀m,m<n->ChS m)(B R:Nat)(C:List Int)(k:Nat)(X:List Nd)(w:World)(f:Nat)(hlt:k<C.length)(hn:C.length-k<=n)(hg:4*(C.length-k)+1<=f+1)(hX:X.length<=120)(h:SD (λj=>B<=j) B R w C k false X)(c:Int)(hr:C.drop k=c::C.drop (k+1))(e1:¬c=40)(e2:c=91):
  Calls prog 255 #[.pointer (some ⟨R,0,none⟩)] w (RaS B R C w (rdA (f+1) (c::C.drop (k+1)) X)):=by
 have H0:=J h;have hB:=ZcI h;have hC4:=h.1.2.2;obtain⟨b,off,tc,ad,cp,c0,c1,c2,c3,f1,f2,ck,-⟩:=Zbj h hr;have hch:=Zbl (ZkO h c (by rw[<-List.take_append_drop k C,hr];simp));have hd:decide ((k:Int)>=(C.length:Int))=false:=Zg (by omega);have hi0:(0:Int)<=(k:Int):=by omega
 have hi1:(k:Int)<(C.length:Int):=by omega
 have hi2:¬(C.length:Int)<=(k:Int):=by omega
 have hw:IntKind.i64.wrap ((k:Int)+1)=(k:Int)+1:=by rw[ZY];omega
 clear h hr;have b1:(c==40)=false:=by simp[e1]
 have HE:Hid (rdA (f+1) (c::C.drop (k+1)) X=brP (C.drop (k+1)) X):=J (by rw[rdA,Za e1,Zd e2]);subst e2;clear e1 b1;go_enter func255,ntmps255
 go_wp2;go_quiet (fail)
 revert nq;intro n1
 have H1:=J (Zg3 (Zbu H0.out n1) hlt);have HB1:Hid (Below B w ((w.drewN n1).setCell ⟨R,1,none⟩ (I ((k:Int)+1)))):=J (ZU H0.out (ZaS (Zar w _) (Zd9 _ R 1 _)));go_wp2_with fail
 obtain⟨W,hW⟩:=ZX ((w.drewN n1).setCell ⟨R,1,none⟩ (I ((k:Int)+1)));rw[hW]at H1 HB1 ⊢;clear hW c0 c1 c2 c3 f1 f2 ck hd hi0 hi1 hi2 hw H0;refine(ZxS B R C (k+1) X W hX H1.out).mono ?_;rintro e w2 (⟨k',X',ho,hX',rfl,h2,hb2⟩|⟨⟨v,k',X',rfl,h2⟩,hno,hb2⟩)
 ·have HQ:Hid (RaS B R C w (rdA (f+1) (91::C.drop (k+1)) X) (.returned (I ((X'.length:Int)-1))) w2):=J (ZvI HE.out (ZwA HB1.out (.inl ⟨k',X',ho,hX',rfl,h2,hb2⟩)));clear ho h2 hb2;go_wp2;go_ret;exact HQ.out
 ·have HQ:Hid (RaS B R C w (rdA (f+1) (91::C.drop (k+1)) X) (.returned (I v)) w2):=J (ZvI HE.out (ZwA HB1.out (.inr ⟨⟨v,k',X',rfl,h2⟩,hno,hb2⟩)));clear hno h2 hb2;go_wp2;go_ret;exact HQ.out
theorem Zu6(n:Nat)(hC:∀m,m<n->ChS m)(B R:Nat)(C:List Int)(k:Nat)(X:List Nd)(w:World)(f:Nat)(hlt:k<C.length)(hn:C.length-k<=n)(hg:4*(C.length-k)+1<=f+1)(hX:X.length<=120)(h:SD (λj=>B<=j) B R w C k false X)(c:Int)(hr:C.drop k=c::C.drop (k+1))(e1:¬c=40)(e2:¬c=91)(e3:c=46):
  Calls prog 255 #[.pointer (some ⟨R,0,none⟩)] w (RaS B R C w (rdA (f+1) (c::C.drop (k+1)) X)):=by
 have H0:=J h;have hB:=ZcI h;have hC4:=h.1.2.2;obtain⟨b,off,tc,ad,cp,c0,c1,c2,c3,f1,f2,ck,-⟩:=Zbj h hr;have hch:=Zbl (ZkO h c (by rw[<-List.take_append_drop k C,hr];simp));have hd:decide ((k:Int)>=(C.length:Int))=false:=Zg (by omega);have hi0:(0:Int)<=(k:Int):=by omega
 have hi1:(k:Int)<(C.length:Int):=by omega
 have hi2:¬(C.length:Int)<=(k:Int):=by omega
 have hw:IntKind.i64.wrap ((k:Int)+1)=(k:Int)+1:=by rw[ZY];omega
 clear h hr;have b1:(c==40)=false:=by simp[e1]
 have b2:(c==91)=false:=by simp[e2]
 have E:Hid (rdA (f+1) (c::C.drop (k+1)) X=some (C.drop (k+1),X++[ZAr])):=J (by rw[rdA,Za e1,Za e2,Zd e3]);subst e3;clear e1 b1 e2 b2;go_enter func255,ntmps255
 go_wp2;go_quiet (fail)
 revert nq;intro n1
 have H1:=J (Zg3 (Zbu H0.out n1) hlt);have HB1:Hid (Below B w ((w.drewN n1).setCell ⟨R,1,none⟩ (I ((k:Int)+1)))):=J (ZU H0.out (ZaS (Zar w _) (Zd9 _ R 1 _)));go_wp2_with fail
 obtain⟨W,hW⟩:=ZX ((w.drewN n1).setCell ⟨R,1,none⟩ (I ((k:Int)+1)));rw[hW]at H1 HB1 ⊢;have hWs:w.heap.size=W.heap.size:=by rw[<-hW,ZcS];rfl
 rw[hWs];clear hW c0 c1 c2 c3 f1 f2 ck hd hi0 hi1 hi2 hw H0;refine ZM (Zsk true [(10,10),(13,13)] #[I 10,I 10,I 13,I 13] 2 rfl rfl (by omega) hX H1.out) ?_;rintro w2 ⟨h2,hb2⟩;have HQ:Hid (RaS B R C w (rdA (f+1) (46::C.drop (k+1)) X) (.returned (I (X.length:Int))) w2):=J (ZcK E.out h2 (HB1.out.trans hb2));clear h2 hb2;go_wp2;go_ret;exact HQ.out
theorem Zt3(n:Nat)(hC:∀m,m<n->ChS m)(B R:Nat)(C:List Int)(k:Nat)(X:List Nd)(w:World)(f:Nat)(hlt:k<C.length)(hn:C.length-k<=n)(hg:4*(C.length-k)+1<=f+1)(hX:X.length<=120)(h:SD (λj=>B<=j) B R w C k false X)(c:Int)(hr:C.drop k=c::C.drop (k+1))(e1:¬c=40)(e2:¬c=91)(e3:¬c=46)(e4:c=92):
  Calls prog 255 #[.pointer (some ⟨R,0,none⟩)] w (RaS B R C w (rdA (f+1) (c::C.drop (k+1)) X)):=by
 have H0:=J h;have hB:=ZcI h;have hC4:=h.1.2.2;obtain⟨b,off,tc,ad,cp,c0,c1,c2,c3,f1,f2,ck,-⟩:=Zbj h hr;have hch:=Zbl (ZkO h c (by rw[<-List.take_append_drop k C,hr];simp));have hd:decide ((k:Int)>=(C.length:Int))=false:=Zg (by omega);have hi0:(0:Int)<=(k:Int):=by omega
 have hi1:(k:Int)<(C.length:Int):=by omega
 have hi2:¬(C.length:Int)<=(k:Int):=by omega
 have hw:IntKind.i64.wrap ((k:Int)+1)=(k:Int)+1:=by rw[ZY];omega
 clear h hr;have b1:(c==40)=false:=by simp[e1]
 have b2:(c==91)=false:=by simp[e2]
 have b3:(c==46)=false:=by simp[e3]
 have HE:Hid (rdA (f+1) (c::C.drop (k+1)) X=bsP (C.drop (k+1)) X):=J (by rw[rdA,Za e1,Za e2,Za e3,Zd e4]);subst e4;clear e1 b1 e2 b2 e3 b3;go_enter func255,ntmps255
 go_wp2;go_quiet (fail)
 revert nq;intro n1
 have H1:=J (Zg3 (Zbu H0.out n1) hlt);have HB1:Hid (Below B w ((w.drewN n1).setCell ⟨R,1,none⟩ (I ((k:Int)+1)))):=J (ZU H0.out (ZaS (Zar w _) (Zd9 _ R 1 _)));go_wp2_with fail
 obtain⟨W,hW⟩:=ZX ((w.drewN n1).setCell ⟨R,1,none⟩ (I ((k:Int)+1)));rw[hW]at H1 HB1 ⊢;clear hW c0 c1 c2 c3 f1 f2 ck hd hi0 hi1 hi2 hw H0;cases hr2:C.drop (k+1) with
 |nil=>
  have hk:C.length<=k+1:=List.drop_eq_nil_iff.1 hr2;have E:Hid (rdA (f+1) (92::C.drop (k+1)) X=none):=J (by rw[HE.out,hr2];rfl);obtain⟨ta,tc,ad,cp,⟨c0,c1,c2,c3⟩,ff,-⟩:=Zal H1.out;have f2:=ff 2;have ek:((k+1:Nat):Int)=(k:Int)+1:=by omega
  rw[ek]at c1;have hd:decide ((k:Int)+1>=(C.length:Int))=true:=Zh (by omega);have hi2:(C.length:Int)<=(k:Int)+1:=by omega
  clear ek ff hr2 HE;go_quiet (fail)
  go_wp2;go_ret;exact Zeq E.out (Zia (Zbu H1.out _) true) (HB1.out.trans (ZU H1.out (ZaS (Zar W _) (Zd9 _ R 2 _))))
 |cons d r2=>
  obtain⟨b,off,tc,ad,cp,c0,c1,c2,c3,f1,f2,ck,hlt2⟩:=Zbj H1.out hr2;obtain⟨-,hr3,-⟩:=ZbM hr2;have hdc:=Zbl (ZkO H1.out d (by rw[<-List.take_append_drop (k+1) C,hr2];simp));have HE1:Hid (rdA (f+1) (92::C.drop (k+1)) X=bsP (d::r2) X):=J (by rw[HE.out,hr2]);have HR3:=J hr3;have ek:((k+1:Nat):Int)=(k:Int)+1:=by omega
  rw[ek]at c1;have hd:decide ((k:Int)+1>=(C.length:Int))=false:=Zg (by omega);have hi0:(0:Int)<=(k:Int)+1:=by omega
  have hi1:(k:Int)+1<(C.length:Int):=by omega
  have hi2:¬(C.length:Int)<=(k:Int)+1:=by omega
  have hi3:((k:Int)+1).toNat=k+1:=by omega
  have hw:IntKind.i64.wrap ((k:Int)+1+1)=(k:Int)+1+1:=by rw[ZY];omega
  clear ek hr2 hr3 HE;go_quiet (fail)
  revert nq;intro n1
  go_wp2;go_quiet (fail)
  revert nq;intro n2
  have H2:=J (Zg3 (Zbu H1.out (n1+n2)) hlt2);have HB2:Hid (Below B w ((W.drewN (n1+n2)).setCell ⟨R,1,none⟩ (I ((k:Int)+1+1)))):=J (HB1.out.trans (ZU H1.out (ZaS (Zar W _) (Zd9 _ R 1 _))));have ek:((k+1:Nat):Int)+1=(k:Int)+1+1:=by omega
  rw[ek]at H2;go_wp2_with fail
  obtain⟨W2,hW2⟩:=ZX ((W.drewN (n1+n2)).setCell ⟨R,1,none⟩ (I ((k:Int)+1+1)));rw[hW2]at H2 HB2 ⊢;clear hW2 c0 c1 c2 c3 f1 f2 ck hd hi0 hi1 hi2 hi3 hw ek H1 HB1;refine(ZBO d W2).mono ?_;intro e w3 hm;have hB2:=ZcI H2.out;by_cases hl:0<(ltR d).length
  ·unfold MnA at hm;rw[Zd hl]at hm;obtain⟨na,rfl,ho,hk,hb3⟩:=hm;have E:Hid (rdA (f+1) (92::C.drop (k+1)) X=some (C.drop (k+1+1),X++[clN (Zvu d) (ltR d)])):=J (by rw[HE1.out,bsP,Zd hl,HR3.out]);have hl5:(ltR d).length<=500:=by unfold ltR;split<;>(try split)<;>(try split)<;>simp
   obtain⟨L,hL⟩:=ZX (ltR d);obtain⟨cb,hcb⟩:=ZX (Zvu d);rw[hL,hcb]at E;rw[hL]at ho hk hl hl5;have bA:=(Ze w3.heap.size w3).alloc (Zb _) (.cells #[I 2,.bool cb,.slice na L.length L.length,I 0,I 0,I 0,I 0] 204);have HS4:=J (Zg9 (Zg9 (Zhl H2.out) hb3) bA);have HB4:=J (HB2.out.trans ((hb3.mono hB2).trans (bA.mono (by have:=hb3.size;omega))));have HO4:=J (Zcd ho (Zay (S:=λ_=>False) w3 (.cells #[I 2,.bool cb,.slice na L.length L.length,I 0,I 0,I 0,I 0] 204)) (λ_ _ x=>x));have HA:=J (ZrH B R C (k+1+1) X (clN cb L) na L.length _ hX hl5 HS4.out (λj hj=>hj.1) HO4.out (λq hq=>⟨ZDA hB2 (hk q hq),λh10=>by have:=hk q hq;have:=h10.2;omega⟩));rw[hL,hcb];clear hL hcb ho hk hb3 bA HS4 HO4 HE1 HR3;go_wp2_with fail
   refine ZM HA.out ?_;rintro w5 ⟨h5,hb5⟩;have HQ:Hid (RaS B R C w (rdA (f+1) (92::C.drop (k+1)) X) (.returned (I (X.length:Int))) w5):=J (ZcK E.out h5 (HB4.out.trans hb5));clear h5 hb5;go_wp2;go_ret;exact HQ.out
  ·unfold MnA at hm;rw[Za hl]at hm;obtain⟨rfl,hb3⟩:=hm;have bA:=(Ze w3.heap.size w3).alloc (Zb _) (.cells #[I 0,.bool false,.slice none 0 0,I 0,I 0,I 0,I 0] 204);have HS4:=J (Zg9 (Zg9 H2.out hb3) bA);have HB4:=J (HB2.out.trans ((hb3.mono hB2).trans (bA.mono (by have:=hb3.size;omega))));have CE:=J (λW=>ZzX d W);have HE2:Hid (rdA (f+1) (92::C.drop (k+1)) X=match esP (d::r2) with
    |none=>none
    |some (d,r')=>some (r',X++[ZmO d])):=J (by rw[HE1.out,bsP,Za hl];rfl)
   clear hb3 bA HE1;rcases ZzY (c:=d) (r:=r2) (by omega) with ⟨he,hn9⟩|⟨he,hn9⟩
   ·have E:Hid (rdA (f+1) (92::C.drop (k+1)) X=none):=J (by rw[HE2.out,he]);obtain⟨x,hx⟩:=ZX (esC d);rw[hx]at CE hn9;clear HE2 he hx;go_wp2_with fail
    refine Zc (CE.out _) ?_;obtain⟨_,_,_,_,⟨-,-,d2,-⟩,ff,-⟩:=Zal HS4.out;have ff2:=ff 2;obtain⟨W5,hW5⟩:=ZX (w3.alloc (.cells #[I 0,.bool false,.slice none 0 0,I 0,I 0,I 0,I 0] 204));rw[hW5]at HS4 HB4 d2 ff2 ⊢;clear hW5 ff;go_wp2;go_ret;exact Zeq E.out (Zia HS4.out true) (HB4.out.trans (ZU HS4.out (Zd9 _ R 2 _)))
   ·have E:Hid (rdA (f+1) (92::C.drop (k+1)) X=some (C.drop (k+1+1),X++[ZmO (esC d)])):=J (by have h9:=HE2.out;rw[he,HR3.out]at h9;exact h9);obtain⟨x,hx⟩:=ZX (esC d);rw[hx]at CE hn9 E;have hn10:¬x<0:=(by omega);clear HE2 he hx;go_wp2_with fail
    refine Zc (CE.out _) ?_;obtain⟨W5,hW5⟩:=ZX (w3.alloc (.cells #[I 0,.bool false,.slice none 0 0,I 0,I 0,I 0,I 0] 204));rw[hW5]at HS4 HB4 ⊢;clear hW5;go_wp2_with fail
    refine ZM (Zsk false [(x,x)] #[I x,I x] 1 rfl rfl (by omega) hX HS4.out) ?_;rintro w6 ⟨h6,hb6⟩;have HQ:Hid (RaS B R C w (rdA (f+1) (92::C.drop (k+1)) X) (.returned (I (X.length:Int))) w6):=J (ZcK E.out h6 (HB4.out.trans hb6));clear h6 hb6;go_wp2;go_ret;exact HQ.out
theorem Zs6(n:Nat)(hC:∀m,m<n->ChS m)(B R:Nat)(C:List Int)(k:Nat)(X:List Nd)(w:World)(f:Nat)(hlt:k<C.length)(hn:C.length-k<=n)(hg:4*(C.length-k)+1<=f+1)(hX:X.length<=120)(h:SD (λj=>B<=j) B R w C k false X)(c:Int)(hr:C.drop k=c::C.drop (k+1))(e1:¬c=40)(e2:¬c=91)(e3:¬c=46)(e4:¬c=92):
  Calls prog 255 #[.pointer (some ⟨R,0,none⟩)] w (RaS B R C w (rdA (f+1) (c::C.drop (k+1)) X)):=by
 have H0:=J h;have hB:=ZcI h;have hC4:=h.1.2.2;obtain⟨b,off,tc,ad,cp,c0,c1,c2,c3,f1,f2,ck,-⟩:=Zbj h hr;have hch:=Zbl (ZkO h c (by rw[<-List.take_append_drop k C,hr];simp));have hd:decide ((k:Int)>=(C.length:Int))=false:=Zg (by omega);have hi0:(0:Int)<=(k:Int):=by omega
 have hi1:(k:Int)<(C.length:Int):=by omega
 have hi2:¬(C.length:Int)<=(k:Int):=by omega
 have hw:IntKind.i64.wrap ((k:Int)+1)=(k:Int)+1:=by rw[ZY];omega
 clear h hr;have b1:(c==40)=false:=by simp[e1]
 have b2:(c==91)=false:=by simp[e2]
 have b3:(c==46)=false:=by simp[e3]
 have b4:(c==92)=false:=by simp[e4]
 have HE:Hid (rdA (f+1) (c::C.drop (k+1)) X=if isS sgO c=true then none else some (C.drop (k+1),X++[ZmO c])):=J (by rw[rdA,Za e1,Za e2,Za e3,Za e4]);have HS:=J (λW=>Zvn c W);obtain⟨q,hq⟩:=ZX (isS sgO c);rw[hq]at HS HE;clear hq e1 e2 e3 e4;go_enter func255,ntmps255
 go_wp2;go_quiet (fail)
 revert nq;intro n1
 have H1:=J (Zg3 (Zbu H0.out n1) hlt);have HB1:Hid (Below B w ((w.drewN n1).setCell ⟨R,1,none⟩ (I ((k:Int)+1)))):=J (ZU H0.out (ZaS (Zar w _) (Zd9 _ R 1 _)));go_wp2_with fail
 obtain⟨W,hW⟩:=ZX ((w.drewN n1).setCell ⟨R,1,none⟩ (I ((k:Int)+1)));rw[hW]at H1 HB1 ⊢;clear hW c0 c1 c2 c3 f1 f2 ck hd hi0 hi1 hi2 hw H0;refine Zc (HS.out _) ?_;cases q
 ·have E:Hid (rdA (f+1) (c::C.drop (k+1)) X=some (C.drop (k+1),X++[ZmO c])):=J (by rw[HE.out];rfl);clear HE;go_wp2_with fail
  refine ZM (Zsk false [(c,c)] #[I c,I c] 1 rfl rfl (by omega) hX H1.out) ?_;rintro w6 ⟨h6,hb6⟩;have HQ:Hid (RaS B R C w (rdA (f+1) (c::C.drop (k+1)) X) (.returned (I (X.length:Int))) w6):=J (ZcK E.out h6 (HB1.out.trans hb6));clear h6 hb6;go_wp2;go_ret;exact HQ.out
 ·have E:Hid (rdA (f+1) (c::C.drop (k+1)) X=none):=J (by rw[HE.out];rfl);obtain⟨_,_,_,_,⟨-,-,d2,-⟩,ff,-⟩:=Zal H1.out;have ff2:=ff 2;clear HE ff;go_wp2;go_ret;exact Zeq E.out (Zia H1.out true) (HB1.out.trans (ZU H1.out (Zd9 _ R 2 _)))
theorem ZoU(n:Nat)(hC:∀m,m<n->ChS m):AtS n:=by
 intro B R C k X w g hlt hn hg hX h;obtain⟨f,rfl⟩:∃f,g=f+1:=⟨g-1,by omega⟩;have hr:C.drop k=C[k]::C.drop (k+1):=List.drop_eq_getElem_cons hlt;rw[hr];by_cases e1:C[k]=40
 ·exact ZuQ n hC B R C k X w f hlt hn hg hX h _ hr e1
 by_cases e2:C[k]=91
 ·exact ZtR n hC B R C k X w f hlt hn hg hX h _ hr e1 e2
 by_cases e3:C[k]=46
 ·exact Zu6 n hC B R C k X w f hlt hn hg hX h _ hr e1 e2 e3
 by_cases e4:C[k]=92
 ·exact Zt3 n hC B R C k X w f hlt hn hg hX h _ hr e1 e2 e3 e4
 ·exact Zs6 n hC B R C k X w f hlt hn hg hX h _ hr e1 e2 e3 e4
structure CS (B R N M:Nat) (w:World) (C:List Int) (k:Nat) (bd:Bool) (X:List Nd) (a mn mx:Int):Prop where
 rd:SD (λj=>B<=j/\j<M) B R w C k bd X
 nd:CkN w N a mn mx
 hN:M<=N
 hB:B<=M
section
variable {B R N M:Nat} {w w':World} {C:List Int} {k k':Nat} {bd bd':Bool} {X:List Nd} {a mn mx:Int}
theorem ZvY(h:CkN w N a mn mx){S:Nat->Prop}(hr:SD S B R w C k bd X):N≠R:=by
 rintro rfl;obtain⟨_,_,_,_,_,hx,_⟩:=hr;unfold SX at hx;rw[h]at hx;simp only[ZDJ,Obj.cells.injEq]at hx;exact absurd hx.2.1 (by decide)
theorem ZgM(h:CS B R N M w C k bd X a mn mx)(q:Kp (λj=>j=R) w w')(hr:SD (λj=>B<=j/\j<M) B R w' C k' bd' X):CS B R N M w' C k' bd' X a mn mx:=
 ⟨hr,(q.block N (Zrr h.nd) (ZvY h.nd h.rd)).trans h.nd,h.hN,h.hB⟩
theorem ZoK(h:CS B R N M w C k bd X a mn mx)(q:ZL w w'):CS B R N M w' C k bd X a mn mx:=⟨Zg9 h.rd q,(q.block N (Zrr h.nd)).trans h.nd,h.hN,h.hB⟩
theorem Zwm(h:CS B R N M w C k bd X a mn mx)(b:Bool):CS B R N M (w.setCell ⟨R,2,none⟩ (.bool b)) C k b X a mn mx/\Below B w (w.setCell ⟨R,2,none⟩ (.bool b)):=⟨ZgM h (Zd9 _ R 2 _) (Zia h.rd b),ZU h.rd (Zd9 _ R 2 _)⟩
theorem Zvk(h:CS B R N M w C k bd X a mn mx)(i:Nat)(v:Value){mn' mx':Int}(hn:CkN (w.setCell ⟨N,i,none⟩ v) N a mn' mx'):CS B R N M (w.setCell ⟨N,i,none⟩ v) C k bd X a mn' mx'/\Below B w (w.setCell ⟨N,i,none⟩ v):=by
 have ks:Kp (λj=>j=N) w (w.setCell ⟨N,i,none⟩ v):=Zex (S:=λj=>j=N) _ _ _ rfl;have h1:=h.hN;have h2:=h.hB;have h3:=Zrr h.nd;exact⟨⟨Zxh h.rd ks (λj hj=>by have hj':j=N:=hj;omega) (λe=>ZvY h.nd h.rd e.symm) h.hB,hn,h.hN,h.hB⟩,ZaB ks (by omega) (λj hj=>by have hj':j=N:=hj;omega)⟩
theorem Zxi(h:CS B R N M w C k bd X a mn mx)(y:Int):CS B R N M (w.setCell ⟨N,5,none⟩ (I y)) C k bd X a y mx/\Below B w (w.setCell ⟨N,5,none⟩ (I y)):=Zvk h 5 _ (ZEk w N 5 _ _ _ h.nd)
theorem Zpg(h:CS B R N M w C k bd X a mn mx)(y:Int):CS B R N M (w.setCell ⟨N,6,none⟩ (I y)) C k bd X a mn y/\Below B w (w.setCell ⟨N,6,none⟩ (I y)):=Zvk h 6 _ (ZEk w N 6 _ _ _ h.nd)
theorem ZiN(h:CS B R N M w C k false X a mn mx)(hX:X.length<=120):Calls prog 181 #[.pointer (some ⟨R,0,none⟩),.agg #[I 5,.bool false,.slice none 0 0,I a,I 0,I mn,I mx]] w λe w'=>e=.returned (I (X.length:Int))/\SD (λj=>B<=j) B R w' C k (decide (120<X.length+1)) (X++[cnN a mn mx])/\Below B w w':=
 ZrH B R C k X (cnN a mn mx) none 0 w hX (by simp[cnN]) h.rd (λj hj=>hj.1) (ZEo _ _ _ _) (λk hk=>by cases hk)
theorem ZyH(a mn mx:Int)(w:World):Calls prog 182 #[.agg #[I 5,.bool false,.slice none 0 0,I a,I 0,I mn,I mx]] w λe w'=>e=.returned (.bool (ZxY (cnN a mn mx)))/\ZL w w':=
 Zec 5 false none 0 0 a 0 mn mx (λi=>(([]:List (Int×Int))[i]?.getD (0,0)).1) (λi=>(([]:List (Int×Int))[i]?.getD (0,0)).2) w (Zx _) (λh0=>absurd h0 (Nat.lt_irrefl 0))
end
end
end Go.Proofs.YtcdnilpdohknfaaGreatDoor
