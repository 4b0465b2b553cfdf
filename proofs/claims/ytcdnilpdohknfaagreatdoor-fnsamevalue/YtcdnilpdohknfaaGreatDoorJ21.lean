import Derived.Test.YtcdnilpdohknfaaGreatDoorJ19
import Derived.Test.YtcdnilpdohknfaaGreatDoorJ18
set_option linter.unusedVariables false
set_option linter.unusedSimpArgs false
set_option maxRecDepth 100000
set_option maxHeartbeats 16000000
namespace Go.Proofs.YtcdnilpdohknfaaGreatDoor
open Tryz
section
open Go.RowKit Go.Joins
theorem Zl4{B R:Nat}{w:World}{v0 v2 v3:Value}{M:List Sp}(h:MA B w R v0 v2 v3 M):MA B w.drew R v0 v2 v3 M:=h
theorem ZfG{w:World}{G:Nat}{kd:Int}{nt:Bool}{a:Option Addr}{n c:Nat}{A B mn mx:Int}(h:BXm w G kd nt a n c A B mn mx):w.cell? ⟨G,3,none⟩=some (I A)/\w.cell? ⟨G,4,none⟩=some (I B):=by
 obtain⟨a0,a1,a2,a3,a4,a5,a6⟩:=Zav (Zfk h);exact⟨a3,a4⟩
theorem Zxl(X:Rx)(len:Nat)(hX:X.len=len)(hlen:len<=120)(b off cap B n:Nat)(hn:n<len)(R:Nat)(v2 v3:Value)(M:List Sp)(next:Nat)(w:World)(hr:Zch w b off X B)(hb:b<B)(h:MA B w R (.slice (some ⟨b,off,none⟩) len cap) v2 v3 M)(h0:M≠[])(hx:next<M.length)(hz:M.length+tsX X n<=300000)(hk:X.K n=1):
  Calls prog 190 #[.pointer (some ⟨R,0,none⟩),I n,I next] w (EnA X B R (.slice (some ⟨b,off,none⟩) len cap) v2 v3 M n next w):=by
 have HR:=J hr;have hB:=(Zey h).1;have hRw:=(Zey h).2;have hXn:n<X.len:=by rw[hX];exact hn
 obtain⟨ad,cp,hc,hrg⟩:=hr n hXn;obtain⟨c0,c1,c2,c3,c4,c5,c6⟩:=hc;have hi:(n:Int)<(len:Int):=by omega
 have hi0:(0:Int)<=(n:Int):=by omega
 have HBA:=λo=>J (ZdI (R:=R) hB o)
 have HMA:=λo=>J (Zg4 h ((Ze w.heap.size w).alloc (Zb _) o))
 have HBX:=λkd A' B' mn mx=>J (Zfs w kd (X.NT n) ad (X.NR n) cp A' B' mn mx)
 have hne:w.heap.size≠R:=by omega
 have HGE:=J hne;obtain⟨sa,sc,d0,d1,d2,d3,-⟩:=ZfZ h;have HN:=J h0;have HX:=J hx;rw[hk]at c0;have HT:=J (λc=>ZnB (c:=c) hk);clear hr h h0 hrg hX hXn hx hk;go_enter func190,ntmps190
 go_wp2;go_ret;exact⟨next,M,rfl,Zbw (ZjJ HX.out) (λc i j=>by rw[HT.out c]),by omega,(HMA _).out,(HBA _).out⟩
theorem ZyT(X:Rx)(len:Nat)(hX:X.len=len)(hlen:len<=120)(b off cap B n:Nat)(hn:n<len)(R:Nat)(v2 v3:Value)(M:List Sp)(next:Nat)(w:World)(hr:Zch w b off X B)(hb:b<B)(h:MA B w R (.slice (some ⟨b,off,none⟩) len cap) v2 v3 M)(h0:M≠[])(hx:next<M.length)(hz:M.length+tsX X n<=300000)(hk:X.K n=2):
  Calls prog 190 #[.pointer (some ⟨R,0,none⟩),I n,I next] w (EnA X B R (.slice (some ⟨b,off,none⟩) len cap) v2 v3 M n next w):=by
 have HR:=J hr;have hB:=(Zey h).1;have hRw:=(Zey h).2;have hXn:n<X.len:=by rw[hX];exact hn
 obtain⟨ad,cp,hc,hrg⟩:=hr n hXn;obtain⟨c0,c1,c2,c3,c4,c5,c6⟩:=hc;have hi:(n:Int)<(len:Int):=by omega
 have hi0:(0:Int)<=(n:Int):=by omega
 have HBA:=λo=>J (ZdI (R:=R) hB o)
 have HMA:=λo=>J (Zg4 h ((Ze w.heap.size w).alloc (Zb _) o))
 have HBX:=λkd A' B' mn mx=>J (Zfs w kd (X.NT n) ad (X.NR n) cp A' B' mn mx)
 have hne:w.heap.size≠R:=by omega
 have HGE:=J hne;obtain⟨sa,sc,d0,d1,d2,d3,-⟩:=ZfZ h;have HN:=J h0;have HX:=J hx;rw[hk]at c0;have HT:=J (λc=>Zoq (c:=c) hk);have HCL:Hid (n<X.len/\X.K n=2):=J ⟨hXn,hk⟩;have HS:=J (Zoh hk);have CA:=J (λW hW=>Zsa B R (.slice (some ⟨b,off,none⟩) len cap) v2 v3 M ⟨false,n,next,0⟩ M.length W rfl (by omega) hW);clear hr h h0 hrg hX hXn hx hk;go_enter func190,ntmps190
 go_wp2_with (go_at_call 225;refine ZM (CA.out _ (HMA _).out) ?_;rintro w2 ⟨h2,hb2⟩;have H2:=J h2;have HB2:=J (Zbe (HBA _).out hb2);clear h2 hb2)
 go_ret;exact⟨M.length,_,rfl,Zbw (ZqH HN.out HCL.out) (λc i j=>by rw[HT.out c]),by rw[HS.out];simp,H2.out,HB2.out⟩
theorem ZCc(X:Rx)(len:Nat)(hX:X.len=len)(hlen:len<=120)(b off cap B n:Nat)(hn:n<len)(R:Nat)(v2 v3:Value)(M:List Sp)(next:Nat)(w:World)(hr:Zch w b off X B)(hb:b<B)(h:MA B w R (.slice (some ⟨b,off,none⟩) len cap) v2 v3 M)(h0:M≠[])(hx:next<M.length)(hz:M.length+tsX X n<=300000)(i j:Nat)(hk:X.K n=3)(hA:X.A n=(i:Int))(hBn:X.B n=(j:Int))(hai:i<n)(hbj:j<n)(CA0:EnC X len b off cap B i)(CB0:EnC X len b off cap B j):
  Calls prog 190 #[.pointer (some ⟨R,0,none⟩),I n,I next] w (EnA X B R (.slice (some ⟨b,off,none⟩) len cap) v2 v3 M n next w):=by
 have HR:=J hr;have hB:=(Zey h).1;have hRw:=(Zey h).2;have hXn:n<X.len:=by rw[hX];exact hn
 obtain⟨ad,cp,hc,hrg⟩:=hr n hXn;obtain⟨c0,c1,c2,c3,c4,c5,c6⟩:=hc;have hi:(n:Int)<(len:Int):=by omega
 have hi0:(0:Int)<=(n:Int):=by omega
 have HBA:=λo=>J (ZdI (R:=R) hB o)
 have HMA:=λo=>J (Zg4 h ((Ze w.heap.size w).alloc (Zb _) o))
 have HBX:=λkd A' B' mn mx=>J (Zfs w kd (X.NT n) ad (X.NR n) cp A' B' mn mx)
 have hne:w.heap.size≠R:=by omega
 have HGE:=J hne;obtain⟨sa,sc,d0,d1,d2,d3,-⟩:=ZfZ h;have HN:=J h0;have HX:=J hx;rw[hk]at c0;rw[hA]at c3;rw[hBn]at c4;have HT:=J (λc=>Zv2 (c:=c) hk hA hBn hai hbj);have HS:=J (ZvB hk hA hBn hai hbj);rw[HS.out]at hz;have CA:=J (λ(W:World) (hW:Bf B R w W) M' nx (hM:MA B W R (.slice (some ⟨b,off,none⟩) len cap) v2 v3 M') hne hlt hsz=>CA0 R v2 v3 M' nx W (ZaN HR.out hb hW.1) hb hM hne hlt hsz);have CB:=J (λ(W:World) (hW:Bf B R w W) M' nx (hM:MA B W R (.slice (some ⟨b,off,none⟩) len cap) v2 v3 M') hne hlt hsz=>CB0 R v2 v3 M' nx W (ZaN HR.out hb hW.1) hb hM hne hlt hsz);clear hr h h0 hrg hX hXn hx hk CA0 CB0 hA hBn;have HD:=λo=>J (ZmG (HBA o).out)
 have HMD:=λo=>J (Zl4 (HMA o).out)
 have HX0:=J (ZfG ((HBX 3 i j (X.MN n) (X.MX n)).out));go_enter func190,ntmps190
 go_wp2_with fail
 go_region_held3 (λw'=>w'.cell? ⟨w.heap.size,3,none⟩=some (I (i:Int))/\w'.cell? ⟨w.heap.size,4,none⟩=some (I (j:Int))) (first|assumption|exact HX4.out|exact HX5.out|exact HX6.out|exact HX0.out) (first|(go_at_call_of 190 (j:Int);refine(CB.out _ (HD _).out M next (HMD _).out HN.out HX.out (by omega)).mono ?_;rintro e w4 ⟨p4,M4,rfl,he4,hl4,hm4,hb4⟩;have HE4:=J he4;have HL4:=J hl4;have HM4:=J hm4;have HB4:=J (Zbe (HD _).out hb4);have HY4:=J (ZdN hb4 (HBX 3 i j (X.MN n) (X.MX n)).out HGE.out);have HX4:=J (ZfG HY4.out);have hq4:=Zdz he4;have hne4:=J (ZlM (Nat.lt_of_le_of_lt (Zx _) hq4.2));clear he4 hm4 hb4)|(go_at_call_of 190 (i:Int);refine(CA.out _ HB4.out M4 p4 HM4.out hne4.out hq4.2 (by omega)).mono ?_;rintro e w5 ⟨p5,M5,rfl,he5,hl5,hm5,hb5⟩;have HE5:=J he5;have HL5:=J hl5;have HM5:=J hm5;have HB5:=J (Zbe HB4.out hb5);have HY5:=J (ZdN hb5 HY4.out HGE.out);have HX5:=J (ZfG HY5.out);have hq5:=Zdz he5;clear he5 hm5 hb5))
 all_goals
  go_wp2;go_ret;exact⟨p5,M5,rfl,Zbw (Zhn HE4.out HE5.out) (λc i j=>by rw[HT.out c]),by rw[HS.out];omega,HM5.out,HB5.out⟩
theorem ZC9(X:Rx)(len:Nat)(hX:X.len=len)(hlen:len<=120)(b off cap B n:Nat)(hn:n<len)(R:Nat)(v2 v3:Value)(M:List Sp)(next:Nat)(w:World)(hr:Zch w b off X B)(hb:b<B)(h:MA B w R (.slice (some ⟨b,off,none⟩) len cap) v2 v3 M)(h0:M≠[])(hx:next<M.length)(hz:M.length+tsX X n<=300000)(i j:Nat)(hk:X.K n=4)(hA:X.A n=(i:Int))(hBn:X.B n=(j:Int))(hai:i<n)(hbj:j<n)(CA0:EnC X len b off cap B i)(CB0:EnC X len b off cap B j):
  Calls prog 190 #[.pointer (some ⟨R,0,none⟩),I n,I next] w (EnA X B R (.slice (some ⟨b,off,none⟩) len cap) v2 v3 M n next w):=by
 have HR:=J hr;have hB:=(Zey h).1;have hRw:=(Zey h).2;have hXn:n<X.len:=by rw[hX];exact hn
 obtain⟨ad,cp,hc,hrg⟩:=hr n hXn;obtain⟨c0,c1,c2,c3,c4,c5,c6⟩:=hc;have hi:(n:Int)<(len:Int):=by omega
 have hi0:(0:Int)<=(n:Int):=by omega
 have HBA:=λo=>J (ZdI (R:=R) hB o)
 have HMA:=λo=>J (Zg4 h ((Ze w.heap.size w).alloc (Zb _) o))
 have HBX:=λkd A' B' mn mx=>J (Zfs w kd (X.NT n) ad (X.NR n) cp A' B' mn mx)
 have hne:w.heap.size≠R:=by omega
 have HGE:=J hne;obtain⟨sa,sc,d0,d1,d2,d3,-⟩:=ZfZ h;have HN:=J h0;have HX:=J hx;rw[hk]at c0;rw[hA]at c3;rw[hBn]at c4;have HT:=J (λc=>ZzG (c:=c) hk hA hBn hai hbj);have HS:=J (Zzg hk hA hBn hai hbj);rw[HS.out]at hz;have CA:=J (λ(W:World) (hW:Bf B R w W) M' nx (hM:MA B W R (.slice (some ⟨b,off,none⟩) len cap) v2 v3 M') hne hlt hsz=>CA0 R v2 v3 M' nx W (ZaN HR.out hb hW.1) hb hM hne hlt hsz);have CB:=J (λ(W:World) (hW:Bf B R w W) M' nx (hM:MA B W R (.slice (some ⟨b,off,none⟩) len cap) v2 v3 M') hne hlt hsz=>CB0 R v2 v3 M' nx W (ZaN HR.out hb hW.1) hb hM hne hlt hsz);clear hr h h0 hrg hX hXn hx hk CA0 CB0 hA hBn;have HD:=λo=>J (ZmG (HBA o).out)
 have HMD:=λo=>J (Zl4 (HMA o).out)
 have HX0:=J (ZfG ((HBX 4 i j (X.MN n) (X.MX n)).out));go_enter func190,ntmps190
 go_wp2_with fail
 go_region_held3 (λw'=>w'.cell? ⟨w.heap.size,3,none⟩=some (I (i:Int))/\w'.cell? ⟨w.heap.size,4,none⟩=some (I (j:Int))) (first|assumption|exact HX4.out|exact HX5.out|exact HX6.out|exact HX0.out) (first|(go_at_call_of 190 (i:Int);refine(CA.out _ (HD _).out M next (HMD _).out HN.out HX.out (by omega)).mono ?_;rintro e w4 ⟨p4,M4,rfl,he4,hl4,hm4,hb4⟩;have HE4:=J he4;have HL4:=J hl4;have HM4:=J hm4;have HB4:=J (Zbe (HD _).out hb4);have HY4:=J (ZdN hb4 (HBX 4 i j (X.MN n) (X.MX n)).out HGE.out);have HX4:=J (ZfG HY4.out);have hq4:=Zdz he4;have hne4:=J (ZlM (Nat.lt_of_le_of_lt (Zx _) hq4.2));clear he4 hm4 hb4)|(go_at_call_of 190 (j:Int);refine(CB.out _ HB4.out M4 next HM4.out hne4.out (ZDy HX.out hq4.1) (by omega)).mono ?_;rintro e w5 ⟨p5,M5,rfl,he5,hl5,hm5,hb5⟩;have HE5:=J he5;have HL5:=J hl5;have HM5:=J hm5;have HB5:=J (Zbe HB4.out hb5);have HY5:=J (ZdN hb5 HY4.out HGE.out);have HX5:=J (ZfG HY5.out);have hq5:=Zdz he5;clear he5 hm5 hb5)|(go_at_call 226;refine(ZnF B R (.slice (some ⟨b,off,none⟩) len cap) v2 v3 M5 p4 p5 M5.length w5 rfl (by omega) (by omega) hq5.2 HM5.out).mono ?_;rintro e w6 ⟨p6,M6,rfl,he6,hm6,hb6⟩;have HE6:=J he6;have HM6:=J hm6;have HB6:=J (Zbe HB5.out hb6);have HX6:=J (ZfG (ZdN hb6 HY5.out HGE.out));clear he6 hm6 hb6))
 all_goals
  go_wp2;go_ret;exact⟨p6,M6,rfl,Zbw (Zjb HN.out HE4.out HE5.out HE6.out) (λc i j=>by rw[HT.out c]),by rw[HS.out];have:=Zvz HE6.out;omega,HM6.out,HB6.out⟩
theorem ZBX(X:Rx)(len:Nat)(hX:X.len=len)(hlen:len<=120)(b off cap B n:Nat)(hn:n<len)(R:Nat)(v2 v3:Value)(M:List Sp)(next:Nat)(w:World)(hr:Zch w b off X B)(hb:b<B)(h:MA B w R (.slice (some ⟨b,off,none⟩) len cap) v2 v3 M)(h0:M≠[])(hx:next<M.length)(hz:M.length+tsX X n<=300000)(i f q:Nat)(mx:Int)(hk:X.K n=5)(hA:X.A n=(i:Int))(hai:i<n)(hMN:X.MN n=(q:Int))(hMX:X.MX n=mx)(hq20:q<=20)(hm20:mx<=20)(hmx:mx = -1\/(q:Int)<=mx)(hf:trX X i=some f)(CE:∀n f,n<=i->trX X n=some f->EnC X len b off cap B n):
  Calls prog 190 #[.pointer (some ⟨R,0,none⟩),I n,I next] w (EnA X B R (.slice (some ⟨b,off,none⟩) len cap) v2 v3 M n next w):=by
 have HR:=J hr;have hB:=(Zey h).1;have hRw:=(Zey h).2;have hXn:n<X.len:=by rw[hX];exact hn
 obtain⟨ad,cp,hc,hrg⟩:=hr n hXn;obtain⟨c0,c1,c2,c3,c4,c5,c6⟩:=hc;have hi:(n:Int)<(len:Int):=by omega
 have hi0:(0:Int)<=(n:Int):=by omega
 have HBA:=λo=>J (ZdI (R:=R) hB o)
 have HMA:=λo=>J (Zg4 h ((Ze w.heap.size w).alloc (Zb _) o))
 have HBX:=λkd A' B' mn mx=>J (Zfs w kd (X.NT n) ad (X.NR n) cp A' B' mn mx)
 have hne:w.heap.size≠R:=by omega
 have HGE:=J hne;obtain⟨sa,sc,d0,d1,d2,d3,-⟩:=ZfZ h;have HN:=J h0;have HX:=J hx;have CC:=J (λ(W:World) (hW:Bf B R w W) (hM:MA B W R (.slice (some ⟨b,off,none⟩) len cap) v2 v3 M)=>Zuv X len hX hlen b off cap B n i f q _ _ mx ad cp hn hk hA hai hMN hMX hq20 hm20 hmx rfl rfl hf CE R v2 v3 M M.length next W (ZaN HR.out hb hW.1) hb hM rfl HN.out HX.out hz);rw[hk]at c0;rw[hA]at c3;rw[hMN]at c5;rw[hMX]at c6;clear hr h h0 hrg hX hXn hx hk CE hA hMN hMX hf hmx;go_enter func190,ntmps190
 go_wp2_with (go_at_call 227;refine(CC.out _ (HBA _).out (HMA _).out).mono ?_;rintro e w2 ⟨p2,M2,rfl,he2,hl2,h2,hb2⟩;have H2:=J h2;have HE2:=J he2;have HL2:=J hl2;have HB2:=J (Zbe (HBA _).out hb2);clear h2 hb2 he2 hl2)
 go_ret;exact⟨p2,M2,rfl,HE2.out,HL2.out,H2.out,HB2.out⟩
theorem ZrC(X:Rx)(len:Nat)(hX:X.len=len)(hlen:len<=120)(hm:ZBT X len)(hcn:∀j,j<len->X.K j=5->X.MX j = -1\/X.MN j<=X.MX j)(b off cap B:Nat):∀(m n f:Nat),n<m->n<len->trX X n=some f->EnC X len b off cap B n
 |0,n,f,hmn,hn,htr=>by omega
 |m+1,n,f,hmn,hn,htr=>by
  have IH:=ZrC X len hX hlen hm hcn b off cap B m;intro R v2 v3 M next w hr hb h h0 hx hz
  obtain⟨h5,h2,hk⟩:=hm n hn;rcases hk with k1|k2|k3|k4|k5
  ·exact Zxl X len hX hlen b off cap B n hn R v2 v3 M next w hr hb h h0 hx hz k1
  ·exact ZyT X len hX hlen b off cap B n hn R v2 v3 M next w hr hb h h0 hx hz k2
  ·obtain⟨c,hA,hB,ha,hb9,h1,hc,t1,t2⟩:=Ze9 htr (.inl k3);exact ZCc X len hX hlen b off cap B n hn R v2 v3 M next w hr hb h h0 hx hz _ _ k3 hA hB ha hb9 (IH _ _ (by omega) (by omega) t2) (IH _ _ (by omega) (by omega) t1)
  ·obtain⟨c,hA,hB,ha,hb9,h1,hc,t1,t2⟩:=Ze9 htr (.inr k4);exact ZC9 X len hX hlen b off cap B n hn R v2 v3 M next w hr hb h h0 hx hz _ _ k4 hA hB ha hb9 (IH _ _ (by omega) (by omega) t2) (IH _ _ (by omega) (by omega) t1)
  ·obtain⟨hA,ha,t1⟩:=Zhe htr k5;have q5:=h5 k5;have e1:X.MN n=((X.MN n).toNat:Int):=by omega
   exact ZBX X len hX hlen b off cap B n hn R v2 v3 M next w hr hb h h0 hx hz _ f (X.MN n).toNat (X.MX n) k5 hA ha e1 rfl (by omega) q5.2.2.1 (by rw[<-e1];exact hcn n hn k5) t1 (λn' f' hn' ht'=>IH n' f' (by omega) (by omega) ht')
def ChC(n:Nat):Prop:=∀(B R:Nat) (u:List Int) (X:List Nd) (w:World) (g:Nat),u.length<=n->4*u.length+4<=g->X.length+2*u.length<=2000->RD (λj=>B<=j) B R w u X->Calls prog 221 #[.pointer (some ⟨R,0,none⟩)] w (RaI B R w (rdC g u X))
def RwC(n:Nat):Prop:=∀(B R:Nat) (u:List Int) (X:List Nd) (w:World) (g:Nat),u.length<=n->4*u.length+3<=g->X.length+2*u.length<=2000->RD (λj=>B<=j) B R w u X->Calls prog 257 #[.pointer (some ⟨R,0,none⟩)] w (RaI B R w (rdR g u X))
def PcC(n:Nat):Prop:=∀(B R:Nat) (u:List Int) (X:List Nd) (w:World) (g:Nat),u.length<=n->4*u.length+2<=g->X.length+2*u.length<=2000->RD (λj=>B<=j) B R w u X->Calls prog 285 #[.pointer (some ⟨R,0,none⟩)] w (RaI B R w (rdP g u X))
def AtC(n:Nat):Prop:=∀(B R:Nat) (u:List Int) (X:List Nd) (w:World) (g:Nat),u.length<=n->4*u.length+1<=g->X.length+2*u.length<=2000->RD (λj=>B<=j) B R w u X->Calls prog 295 #[.pointer (some ⟨R,0,none⟩)] w (RaI B R w (rdA g u X))
theorem Zdm{B R:Nat}{w:World}{o:Option (List Int×List Nd)}{u':List Int}{X':List Nd}{F:Nat}{args:Array Value}(ho:o=some (u',X'))(h:Calls prog F args w (RaI B R w o)):Calls prog F args w λe w'=>e=.returned (.tuple #[])/\RD (λj=>B<=j) B R w' u' X'/\Below B w w':=by
 rw[ho]at h;exact h
theorem Zdn{B R:Nat}{w:World}{o:Option (List Int×List Nd)}{F:Nat}{args:Array Value}(ho:o=none)(h:Calls prog F args w (RaI B R w o)):Calls prog F args w (ZlQ B w):=by
 rw[ho]at h;exact h
theorem Zgz{B R:Nat}{w w':World}{o:Option (List Int×List Nd)}{u':List Int}{X':List Nd}{e:Ending}(ho:o=some (u',X'))(he:e=.returned (.tuple #[]))(h:RD (λj=>B<=j) B R w' u' X')(hb:Below B w w'):RaI B R w o e w':=by
 rw[ho];exact⟨he,h,hb⟩
theorem Zha{B R:Nat}{w w':World}{o:Option (List Int×List Nd)}{e:Ending}(ho:o=none)(h:ZlQ B w e w'):RaI B R w o e w':=by
 rw[ho];exact h
theorem Zzr(n:Nat)(hC:∀m,m<n->ChC m)(hn:n<=400):AtC n:=by
 intro B R u X w g hu hg hX h;have H0:=J h;have hB:=Zg2 h;obtain⟨f,rfl⟩:∃f,g=f+1:=⟨g-1,by omega⟩;cases u with
 |nil=>
  have E:Hid (rdA (f+1) [] X=none):=J (by rw[rdA]);have HA:=J (ZjQ B R X w h);clear h;go_enter func295,ntmps295
  go_wp2_with fail
  refine HA.out.mono ?_;rintro e w2 ⟨⟨tv,v,rfl⟩,k2⟩;have K2:=J k2;clear k2;go_wp2;exact⟨rfl,Zha E.out ⟨⟨_,_,rfl⟩,K2.out⟩⟩
 |cons c r=>
  have hc:=ZwS h c (by simp);simp only[ZDB]at hu hg hX;have HA:=J (ZgN B R c r X w h);clear h;go_enter func295,ntmps295
  go_wp2_with fail
  refine ZM HA.out ?_;rintro w1 ⟨h1,k1⟩;have HB1:=J (ZcY H0.out k1);have hz1:B<=w1.heap.size:=Zg2 h1;clear k1 HA;by_cases e1:c=40
  ·have HE:Hid (rdA (f+1) (c::r) X=match rdC f r X with
   |none=>none
   |some (u1,X1)=>if u1.head?=some 41 then some (u1.tail,X1) else none):=J (by rw[rdA,Zd e1];rfl)
   have HC:=J (hC r.length (by omega) B R r X w1 f (Zb _) (by omega) (by omega) h1);subst e1;clear h1;rcases hr:rdC f r X with _|⟨u1,X1⟩
   ·have E:Hid (rdA (f+1) (40::r) X=none):=J (by rw[HE.out,hr]);have HN:=J (Zdn hr HC.out);clear HE HC hr;go_wp2_with fail
    refine HN.out.mono ?_;rintro e w2 ⟨⟨tv,v,rfl⟩,k2⟩;have K2:=J (ZeO HB1.out ⟨⟨tv,v,rfl⟩,k2⟩);clear k2;go_wp2;exact⟨rfl,Zha E.out K2.out⟩
   ·have HE2:Hid (rdA (f+1) (40::r) X=if u1.head?=some 41 then some (u1.tail,X1) else none):=J (by rw[HE.out,hr]);have HN:=J (Zdm hr HC.out);clear HE HC hr;go_wp2_with fail
    refine ZM HN.out ?_;rintro w2 ⟨h2,k2⟩;have HB2:=J (HB1.out.trans k2);have H2:=J h2;clear k2 HN;by_cases e2:u1.head?=some 41
    ·obtain⟨q,rfl⟩:∃q,u1=41::q:=⟨_,ZaH e2⟩;have E:Hid (rdA (f+1) (40::r) X=some (q,X1)):=J (by rw[HE2.out,Zd e2];rfl);have HM:=J (Zl8 B R 41 q X1 w2 h2);clear h2 HE2 e2;go_wp2_with fail
     refine ZM HM.out ?_;rintro w3 ⟨h3,k3⟩;have H3:=J h3;have HB3:=J (HB2.out.trans (ZcY H2.out k3));clear h3 k3 HM;go_wp2
     go_end0
     exact Zgz E.out rfl H3.out HB3.out
    ·have E:Hid (rdA (f+1) (40::r) X=none):=J (by rw[HE2.out,Za e2]);have HM:=J (Zmf B R 41 u1 X1 w2 h2 e2);clear h2 HE2 e2;go_wp2_with fail
     refine HM.out.mono ?_;rintro e w3 ⟨⟨tv,v,rfl⟩,k3⟩;have K3:=J (ZeO HB2.out ⟨⟨tv,v,rfl⟩,k3⟩);clear k3;go_wp2;exact⟨rfl,Zha E.out K3.out⟩
  ·have b1:(c==40)=false:=by simp[e1]
   by_cases e2:c=91
   ·have HE:Hid (rdA (f+1) (c::r) X=brP r X):=J (by rw[rdA,Za e1,Zd e2]);have HN:=J (ZpE B R r X w1 (by omega) (by omega) h1);subst e2;clear h1 e1 b1;rcases hr:brP r X with _|⟨u1,X1⟩
    ·have HN:=J (Zdn hr HN.out);have E:Hid (rdA (f+1) (91::r) X=none):=J (by rw[HE.out,hr]);clear hr HE;go_wp2_with fail
     refine HN.out.mono ?_;rintro e w2 ⟨⟨tv,v,rfl⟩,k2⟩;have K2:=J (ZeO HB1.out ⟨⟨tv,v,rfl⟩,k2⟩);clear k2;go_wp2;exact⟨rfl,Zha E.out K2.out⟩
    ·have HN:=J (Zdm hr HN.out);have E:Hid (rdA (f+1) (91::r) X=some (u1,X1)):=J (by rw[HE.out,hr]);clear hr HE;go_wp2_with fail
     refine ZM HN.out ?_;rintro w2 ⟨h2,k2⟩;have HB2:=J (HB1.out.trans k2);have H2:=J h2;clear k2 h2;go_wp2
     go_end0
     exact Zgz E.out rfl H2.out HB2.out
   ·have b2:(c==91)=false:=(by simp[e2]);by_cases e3:c=46
    ·have E:Hid (rdA (f+1) (c::r) X=some (r,X++[ZAr])):=J (by rw[rdA,Za e1,Za e2,Zd e3]);have HA:=J (Zmw B R r X ZAr (some ⟨w1.heap.size,0,none⟩) 2 (w1.alloc (.cells #[I 10,I 10,I 13,I 13] 238)) (by omega) (by decide) (ZgX (ZfU h1) ((Ze w1.heap.size w1).alloc (Zb _) _)) (λj hj=>hj.1) (Zh1 (L:=[(10,10),(13,13)]) (n:=2) rfl (by omega) rfl (Zz w1 _)) (λk hk=>by
      have h9:w1.heap.size=k:=(by simpa[Value.ownBlock] using hk);refine⟨by omega,λh10=>?_⟩;have:k<w1.heap.size:=h10.2;omega))
     have HB2:=J (HB1.out.trans (((Ze w1.heap.size w1).alloc (Zb _) (.cells #[I 10,I 10,I 13,I 13] 238)).mono hz1));subst e3;clear h1 e1 b1 e2 b2;go_wp2_with fail
     refine ZM HA.out ?_;rintro w2 ⟨h2,k2⟩;have H2:=J h2;have HB3:=J (HB2.out.trans k2);clear h2 k2;go_wp2
     go_end0
     exact Zgz E.out rfl H2.out HB3.out
    ·have b3:(c==46)=false:=(by simp[e3]);by_cases e4:c=92
     ·have HE:Hid (rdA (f+1) (c::r) X=bsP r X):=J (by rw[rdA,Za e1,Za e2,Za e3,Zd e4]);have HN:=J (Zx3 B R r X w1 (by omega) h1);subst e4;clear h1 e1 b1 e2 b2 e3 b3;rcases hr:bsP r X with _|⟨u1,X1⟩
      ·have HN:=J (Zdn hr HN.out);have E:Hid (rdA (f+1) (92::r) X=none):=J (by rw[HE.out,hr]);clear hr HE;go_wp2_with fail
       refine HN.out.mono ?_;rintro e w2 ⟨⟨tv,v,rfl⟩,k2⟩;have K2:=J (ZeO HB1.out ⟨⟨tv,v,rfl⟩,k2⟩);clear k2;go_wp2;exact⟨rfl,Zha E.out K2.out⟩
      ·have HN:=J (Zdm hr HN.out);have E:Hid (rdA (f+1) (92::r) X=some (u1,X1)):=J (by rw[HE.out,hr]);clear hr HE;go_wp2_with fail
       refine ZM HN.out ?_;rintro w2 ⟨h2,k2⟩;have HB2:=J (HB1.out.trans k2);have H2:=J h2;clear k2 h2;go_wp2
       go_end0
       exact Zgz E.out rfl H2.out HB2.out
     ·have b4:(c==92)=false:=(by simp[e4]);have HE:Hid (rdA (f+1) (c::r) X=if isS sgO c=true then none else some (r,X++[ZmO c])):=J (by rw[rdA,Za e1,Za e2,Za e3,Za e4]);have HS:=J (λW=>Zy0 c W hc);obtain⟨q,hq⟩:=ZX (isS sgO c);rw[hq]at HS HE;have H1:=J h1;clear hq hc e1 e2 e3 e4 h1;go_wp2_with fail
      refine ZM (HS.out _) ?_;rintro w2 hb2;have H2:=J (ZgX H1.out hb2);have HB2:=J (HB1.out.trans (hb2.mono hz1));have hz2:B<=w2.heap.size:=Zg2 H2.out;clear hb2;cases q
      ·have E:Hid (rdA (f+1) (c::r) X=some (r,X++[ZmO c])):=J (by rw[HE.out];rfl);go_wp2_with (go_at_call 222;refine Zc (Zfx _ _) ?_)
       refine(ZlL c _).mono ?_;rintro e w3 ⟨q,rfl,hq,hr3,hb3⟩;have HB3:=J (HB2.out.trans (hb3.mono hz2));have HA:=J (Zmw B R r X (ZmO c) (some ⟨q,0,none⟩) 1 w3 (by omega) (by simp[ZmO]) (ZgX (ZfU H2.out) hb3) (λj hj=>hj.1) hr3 (λk hk=>by
        have h9:q=k:=(by simpa[Value.ownBlock] using hk);refine⟨by omega,λh10=>?_⟩;have:k<w2.heap.size:=h10.2;omega))
       clear hr3 hb3;go_wp2_with fail
       refine ZM HA.out ?_;rintro w4 ⟨h4,k4⟩;have H4:=J h4;have HB4:=J (HB3.out.trans k4);clear h4 k4 HA;go_wp2
       go_end0
       exact Zgz E.out rfl H4.out HB4.out
      ·have E:Hid (rdA (f+1) (c::r) X=none):=J (by rw[HE.out];rfl);go_wp2_with fail
       refine(Zfu B _ _).mono ?_;rintro e w3 ⟨⟨tv,v,rfl⟩,k3⟩;have K3:=J (ZeO HB2.out ⟨⟨tv,v,rfl⟩,k3⟩);clear k3;go_wp2;exact⟨rfl,Zha E.out K3.out⟩
theorem ZmD{w:World}{G:Nat}{kd:Int}{nt:Bool}{a:Option Addr}{n c:Nat}{A B mn mx:Int}(h:BXm w G kd nt a n c A B mn mx):w.cell? ⟨G,3,none⟩=some (I A)/\w.cell? ⟨G,4,none⟩=some (I B):=by
 obtain⟨a0,a1,a2,a3,a4,a5,a6⟩:=Zav (Zfk h);exact⟨a3,a4⟩
theorem ZCw(X:Rx)(C:List Int)(len m:Nat)(hX:X.len=len)(hlen:len<=120)(hC:C.length=m)(hm:m<=300)(b off cap:Nat)(sa:Option Addr)(sc n:Nat)(hn:n<len)(f:List Bool)(fa:Option Addr)(fc:Nat)(w:World)(hb:b<w.heap.size)(hr:Zch w b off X w.heap.size)(hsr:ZcZ .i64 w sa C w.heap.size)(hf:f.length=m+1)(hfa:Zkt w fa f w.heap.size)(i j:Nat)(hk:X.K n=3)(hA:X.A n=(i:Int))(hBn:X.B n=(j:Int))(hai:i<n)(hbj:j<n)(CA0:StC X C len m b off cap sa sc i)(CB0:StC X C len m b off cap sa sc j):
  Calls prog 136 #[.slice (some ⟨b,off,none⟩) len cap,I n,.slice sa m sc,.slice fa ((m:Nat)+1) fc] w (StA m (tkX X (clX X C) n) f w):=by
 have HT:Hid (tkX X (clX X C) n=λa b=>∃k,tkX X (clX X C) i a k/\tkX X (clX X C) j k b):=J (Zv2 hk hA hBn hai hbj);obtain⟨i0,hi0,hz0,hz1,hz2⟩:=info_parts ZhL;have HR:=J hr;have HSR:=J hsr;have HF:=J hf;have HFA:=J hfa;have HCL:=J hC;obtain⟨ad,cp,hc,hrg⟩:=hr n (by rw[hX];exact hn);obtain⟨c0,c1,c2,c3,c4,c5,c6⟩:=hc;have HRg:=J hrg;have hin:(n:Int)<(len:Int):=by omega
 have hin0:(0:Int)<=(n:Int):=by omega
 rw[hk]at c0;rw[hA]at c3;rw[hBn]at c4;have CA:Hid (∀f fa fc (W:World),ZL w W->f.length=m+1->Zkt W fa f W.heap.size->Calls prog 136 #[.slice (some ⟨b,off,none⟩) len cap,I (i:Int),.slice sa m sc,.slice fa ((m:Nat)+1) fc] W (StA m (tkX X (clX X C) i) f W)):=J (λf fa fc W hW hf ha=>CA0 f fa fc W (ZDy hb hW.size) (ZcV (ZaN HR.out hb hW) hW.size) (Zft HSR.out hW) hf ha);have CB:Hid (∀f fa fc (W:World),ZL w W->f.length=m+1->Zkt W fa f W.heap.size->Calls prog 136 #[.slice (some ⟨b,off,none⟩) len cap,I (j:Int),.slice sa m sc,.slice fa ((m:Nat)+1) fc] W (StA m (tkX X (clX X C) j) f W)):=J (λf fa fc W hW hf ha=>CB0 f fa fc W (ZDy hb hW.size) (ZcV (ZaN HR.out hb hW) hW.size) (Zft HSR.out hW) hf ha);clear hr hsr hf hfa hC hrg hk hA hBn CA0 CB0;go_enter func136,ntmps136
 go_upto_region 13 with (first|(at_make;refine wpList_make_full _ rfl _ _ 158 rfl w.heap.size 4 i0 (.bool false) 1 underlying158 hi0 hz0 hz1 .i64 .i64 _ _ (m+1) rfl rfl (by go_num) (by go_num) (by rw[hz2];omega) (by unfold maxLen;omega) (Zb _) ?_;intro w1 hown hgrow;rw[ZgC]at hown;have HX1:Hid (BoX w.heap.size w1 w.heap.size (m+1) (m+1) (List.replicate (m+1) false)):=J ⟨by rw[List.length_replicate],hown⟩;have HB1:Hid (ZL w w1):=J ((Ze _ _).grown hgrow (Zb _) (λk h=>by cases h));clear hown hgrow;have c0:=(HB1.out.cell (p:=⟨b,off+n*7,none⟩) hb).trans c0;have c1:=(HB1.out.cell (p:=⟨b,off+n*7+1,none⟩) hb).trans c1;have c2:=(HB1.out.cell (p:=⟨b,off+n*7+2,none⟩) hb).trans c2;have c3:=(HB1.out.cell (p:=⟨b,off+n*7+3,none⟩) hb).trans c3;have c4:=(HB1.out.cell (p:=⟨b,off+n*7+4,none⟩) hb).trans c4;have c5:=(HB1.out.cell (p:=⟨b,off+n*7+5,none⟩) hb).trans c5;have c6:=(HB1.out.cell (p:=⟨b,off+n*7+6,none⟩) hb).trans c6;have hb1l:b<w1.heap.size:=ZDy hb HB1.out.size))
 obtain⟨wy,hwy⟩:=ZX (w1.alloc (.cells #[I 3,.bool (X.NT n),.slice ad (X.NR n) cp,I (i:Int),I (j:Int),I (X.MN n),I (X.MX n)] 204));have HX2:=J (Zih HX1.out (.cells #[I 3,.bool (X.NT n),.slice ad (X.NR n) cp,I (i:Int),I (j:Int),I (X.MN n),I (X.MX n)] 204));have HN2:=J (Zfs w1 3 (X.NT n) ad (X.NR n) cp (i:Int) (j:Int) (X.MN n) (X.MX n));have HB2:=J (HB1.out.alloc HB1.out.size (.cells #[I 3,.bool (X.NT n),.slice ad (X.NR n) cp,I (i:Int),I (j:Int),I (X.MN n),I (X.MX n)] 204));rw[hwy]at HX2 HN2 HB2 ⊢;obtain⟨NB,hNB⟩:=ZX w1.heap.size;have hNBg:w.heap.size<NB:=by rw[<-hNB];exact(Zbq HX1.out).2.1
 rw[hNB]at HN2 ⊢;clear hwy hNB c0 c1 c2 c3 c4 c5 c6 HX1 HB1 hb1l;have HD:Hid (ZL w wy.drew):=J (HB2.out.trans ⟨rfl,rfl,rfl,Zb _,λ_ _=>rfl⟩);have HS0:=J (ZmD HN2.out)
 go_region_held3 (λw'=>w'.cell? ⟨NB,3,none⟩=some (I (i:Int))/\w'.cell? ⟨NB,4,none⟩=some (I (j:Int))) (first|assumption|exact HS5.out|exact HS4.out|exact HS0.out) (first|(go_at_call_of 136 (i:Int);refine(CA.out f fa fc _ HD.out HF.out (Zp5 (Zpd HFA.out HD.out) HD.out.size)).mono ?_;rintro e w4 ⟨g4,c4,G4,rfl,hx4,hf4,hb4⟩;have HX4:=J hx4;have HF4:=J hf4;have HN4:=J (Zg5 (w:=wy.drew) HN2.out hb4);have HS4:=J (ZmD HN4.out);have HB4:=J (HD.out.trans (hb4.mono HD.out.size));clear hx4 hf4 hb4)|(go_at_call_of 136 (j:Int);refine(CB.out G4 _ c4 _ HB4.out HX4.out.1 (Zi0 HX4.out)).mono ?_;rintro e w5 ⟨g5,c5,G5,rfl,hx5,hf5,hb5⟩;have HX5:=J (ZdM hx5 HB4.out.size);have HF5:=J hf5;have HS5:=J (ZmD (Zg5 HN4.out hb5));have HB5:=J (HB4.out.trans (hb5.mono HB4.out.size));clear hx5 hf5 hb5))
 all_goals
  go_wp2;go_ret;refine⟨g5,c5,G5,rfl,HX5.out,?_,HB5.out⟩;rw[HT.out];exact Zhb (λa b h=>ZmS X (clX X C) (j+1) j a b (by omega) h) HF4.out HF5.out
theorem ZC1(X:Rx)(C:List Int)(len m:Nat)(hX:X.len=len)(hlen:len<=120)(hC:C.length=m)(hm:m<=300)(b off cap:Nat)(sa:Option Addr)(sc n:Nat)(hn:n<len)(f:List Bool)(fa:Option Addr)(fc:Nat)(w:World)(hb:b<w.heap.size)(hr:Zch w b off X w.heap.size)(hsr:ZcZ .i64 w sa C w.heap.size)(hf:f.length=m+1)(hfa:Zkt w fa f w.heap.size)(i j:Nat)(hk:X.K n=4)(hA:X.A n=(i:Int))(hBn:X.B n=(j:Int))(hai:i<n)(hbj:j<n)(CA0:StC X C len m b off cap sa sc i)(CB0:StC X C len m b off cap sa sc j):
  Calls prog 136 #[.slice (some ⟨b,off,none⟩) len cap,I n,.slice sa m sc,.slice fa ((m:Nat)+1) fc] w (StA m (tkX X (clX X C) n) f w):=by
 have HT:Hid (tkX X (clX X C) n=λa b=>tkX X (clX X C) i a b\/tkX X (clX X C) j a b):=J (ZzG hk hA hBn hai hbj);obtain⟨i0,hi0,hz0,hz1,hz2⟩:=info_parts ZhL;have HR:=J hr;have HSR:=J hsr;have HF:=J hf;have HFA:=J hfa;have HCL:=J hC;obtain⟨ad,cp,hc,hrg⟩:=hr n (by rw[hX];exact hn);obtain⟨c0,c1,c2,c3,c4,c5,c6⟩:=hc;have HRg:=J hrg;have hin:(n:Int)<(len:Int):=by omega
 have hin0:(0:Int)<=(n:Int):=by omega
 rw[hk]at c0;rw[hA]at c3;rw[hBn]at c4;have CA:Hid (∀f fa fc (W:World),ZL w W->f.length=m+1->Zkt W fa f W.heap.size->Calls prog 136 #[.slice (some ⟨b,off,none⟩) len cap,I (i:Int),.slice sa m sc,.slice fa ((m:Nat)+1) fc] W (StA m (tkX X (clX X C) i) f W)):=J (λf fa fc W hW hf ha=>CA0 f fa fc W (ZDy hb hW.size) (ZcV (ZaN HR.out hb hW) hW.size) (Zft HSR.out hW) hf ha);have CB:Hid (∀f fa fc (W:World),ZL w W->f.length=m+1->Zkt W fa f W.heap.size->Calls prog 136 #[.slice (some ⟨b,off,none⟩) len cap,I (j:Int),.slice sa m sc,.slice fa ((m:Nat)+1) fc] W (StA m (tkX X (clX X C) j) f W)):=J (λf fa fc W hW hf ha=>CB0 f fa fc W (ZDy hb hW.size) (ZcV (ZaN HR.out hb hW) hW.size) (Zft HSR.out hW) hf ha);clear hr hsr hf hfa hC hrg hk hA hBn CA0 CB0;go_enter func136,ntmps136
 go_upto_region 15 with (first|(at_make;refine wpList_make_full _ rfl _ _ 158 rfl w.heap.size 4 i0 (.bool false) 1 underlying158 hi0 hz0 hz1 .i64 .i64 _ _ (m+1) rfl rfl (by go_num) (by go_num) (by rw[hz2];omega) (by unfold maxLen;omega) (Zb _) ?_;intro w1 hown hgrow;rw[ZgC]at hown;have HX1:Hid (BoX w.heap.size w1 w.heap.size (m+1) (m+1) (List.replicate (m+1) false)):=J ⟨by rw[List.length_replicate],hown⟩;have HB1:Hid (ZL w w1):=J ((Ze _ _).grown hgrow (Zb _) (λk h=>by cases h));clear hown hgrow;have c0:=(HB1.out.cell (p:=⟨b,off+n*7,none⟩) hb).trans c0;have c1:=(HB1.out.cell (p:=⟨b,off+n*7+1,none⟩) hb).trans c1;have c2:=(HB1.out.cell (p:=⟨b,off+n*7+2,none⟩) hb).trans c2;have c3:=(HB1.out.cell (p:=⟨b,off+n*7+3,none⟩) hb).trans c3;have c4:=(HB1.out.cell (p:=⟨b,off+n*7+4,none⟩) hb).trans c4;have c5:=(HB1.out.cell (p:=⟨b,off+n*7+5,none⟩) hb).trans c5;have c6:=(HB1.out.cell (p:=⟨b,off+n*7+6,none⟩) hb).trans c6;have hb1l:b<w1.heap.size:=ZDy hb HB1.out.size))
 obtain⟨wy,hwy⟩:=ZX (w1.alloc (.cells #[I 4,.bool (X.NT n),.slice ad (X.NR n) cp,I (i:Int),I (j:Int),I (X.MN n),I (X.MX n)] 204));have HX2:=J (Zih HX1.out (.cells #[I 4,.bool (X.NT n),.slice ad (X.NR n) cp,I (i:Int),I (j:Int),I (X.MN n),I (X.MX n)] 204));have HN2:=J (Zfs w1 4 (X.NT n) ad (X.NR n) cp (i:Int) (j:Int) (X.MN n) (X.MX n));have HB2:=J (HB1.out.alloc HB1.out.size (.cells #[I 4,.bool (X.NT n),.slice ad (X.NR n) cp,I (i:Int),I (j:Int),I (X.MN n),I (X.MX n)] 204));rw[hwy]at HX2 HN2 HB2 ⊢;obtain⟨NB,hNB⟩:=ZX w1.heap.size;have hNBg:w.heap.size<NB:=by rw[<-hNB];exact(Zbq HX1.out).2.1
 rw[hNB]at HN2 ⊢;clear hwy hNB c0 c1 c2 c3 c4 c5 c6 HX1 HB1 hb1l;obtain⟨a0,a1,a2,a3,a4,a5,a6⟩:=Zav (Zfk HN2.out);go_wp2_with fail
 refine(CA.out f fa fc _ HB2.out HF.out (Zp5 (Zpd HFA.out HB2.out) HB2.out.size)).mono ?_;rintro e w4 ⟨g4,c4,G4,rfl,hx4,hf4,hb4⟩;have hg4:=(Zbq hx4).1;have hg4b:=(Zbq hx4).2.1;have HX4:=J (ZdM hx4 HB2.out.size);have HF4:=J hf4;have HN4:=J (Zg5 HN2.out hb4);have HO4:=J (Zf5 HX2.out hb4);have HB4:=J (HB2.out.trans (hb4.mono HB2.out.size));have hyw:=(Zbq HX2.out).2.1;clear hx4 hf4 hb4 a0 a1 a2 a3 a4 a5 a6;obtain⟨a0,a1,a2,a3,a4,a5,a6⟩:=Zav (Zfk HN4.out);go_wp2_with fail
 refine(CB.out f fa fc _ HB4.out HF.out (Zp5 (Zpd HFA.out HB4.out) HB4.out.size)).mono ?_;rintro e w5 ⟨g5,c5,G5,rfl,hx5,hf5,hb5⟩;have hg5:=(Zbq hx5).1;have HX5:=J (ZdM hx5 HB4.out.size);have HF5:=J hf5;have HO5:=J (Zf5 HO4.out hb5);have HX4b:=J (Zf5 HX4.out hb5);have HB5:=J (HB4.out.trans (hb5.mono HB4.out.size));have hsz4:=HB4.out.size;have hyw4:=(Zbq HO4.out).2.1;clear hx5 hf5 hb5 a0 a1 a2 a3 a4 a5 a6;go_wp2
 go_loopw [14] (λmv wr=>∃(q:Nat) (G:List Bool),q<=m+1/\mv=I q/\Hid (BoX w.heap.size wr w.heap.size (m+1) (m+1) G)/\Hid (BoX w.heap.size wr g4 c4 (m+1) G4)/\Hid (BoX w.heap.size wr g5 c5 (m+1) G5)/\Hid (ZL w wr)/\Hid (∀b,b<q->(G[b]?.getD false=true↔G4[b]?.getD false=true\/G5[b]?.getD false=true))) (λmv _=>m+1-(Zi mv).toNat)
 case atStart=>exact⟨0,List.replicate (m+1) false,Zx _,rfl,HO5,HX4b,HX5,HB5,J (λb hb=>absurd hb (Nat.not_lt_zero _))⟩
 case round=>
  clear HO5 HX4b HX5 HB5;obtain⟨q,G,hq,rfl,HX,HY,HZ,HB,HA⟩:=hrel;by_cases hlt:q<m+1
  ·have u0:=(Zbq HX.out).2.2 q hlt;have uz:=Zd7 HX.out q;have y0:=(Zbq HY.out).2.2 q hlt;have z0:=(Zbq HZ.out).2.2 q hlt;have hqi:(q:Int)<((m:Nat)+1:Int):=by omega
   have hq0:(0:Int)<=(q:Int):=by omega
   obtain⟨x,hx⟩:=ZX (G4[q]?.getD false);obtain⟨y,hy⟩:=ZX (G5[q]?.getD false);rw[hx]at y0;rw[hy]at z0;have HXY:=J hx;have HYY:=J hy;have HXS:=J (ZfA HX.out q (x||y));have HYS:=J (Zki HY.out (p:=⟨w.heap.size,q,none⟩) (by show w.heap.size≠g4;omega) (.bool (x||y)));have HZS:=J (Zki HZ.out (p:=⟨w.heap.size,q,none⟩) (by show w.heap.size≠g5;omega) (.bool (x||y)));have HBS:=J (HB.out.setCell (p:=⟨w.heap.size,q,none⟩) (Zb _) (.bool (x||y)));have HAS:Hid (∀b,b<q+1->((G.set q (x||y))[b]?.getD false=true↔G4[b]?.getD false=true\/G5[b]?.getD false=true)):=J (λb hb=>by
    rw[ZnR _ _ _ (by rw[HX.out.1];exact hlt)];by_cases e:b=q
    ·subst e;rw[Zd rfl,hx,hy];cases x<;>cases y<;>simp
    ·rw[Za e];exact HA.out b (by omega))
   clear hx hy;cases x
   ·rw[Bool.false_or]at HXS HYS HZS HBS HAS;go_wp2
    go_roundw
    case rel=>exact⟨q+1,_,by omega,by go_num,HXS,HYS,HZS,HBS,HAS⟩
    case measure=>simp[Zi];omega
   ·rw[Bool.true_or]at HXS HYS HZS HBS HAS;go_wp2
    go_roundw
    case rel=>exact⟨q+1,_,by omega,by go_num,HXS,HYS,HZS,HBS,HAS⟩
    case measure=>simp[Zi];omega
  ·have hqm:q=m+1:=by omega
   subst hqm;go_wp2;go_ret;refine⟨w.heap.size,m+1,G,rfl,HX.out,λb hb=>?_,HB.out⟩;rw[HA.out b (by omega),HF4.out b hb,HF5.out b hb,HT.out];constructor
   ·rintro (⟨a,h1,h2,h3⟩|⟨a,h1,h2,h3⟩)
    ·exact⟨a,h1,h2,.inl h3⟩
    ·exact⟨a,h1,h2,.inr h3⟩
   ·rintro ⟨a,h1,h2,h3|h3⟩
    ·exact .inl ⟨a,h1,h2,h3⟩
    ·exact .inr ⟨a,h1,h2,h3⟩
theorem ZCa(X:Rx)(C:List Int)(len m:Nat)(hX:X.len=len)(hlen:len<=120)(hC:C.length=m)(hm:m<=300)(b off cap:Nat)(sa:Option Addr)(sc n:Nat)(hn:n<len)(f:List Bool)(fa:Option Addr)(fc:Nat)(w:World)(hb:b<w.heap.size)(hr:Zch w b off X w.heap.size)(hsr:ZcZ .i64 w sa C w.heap.size)(hf:f.length=m+1)(hfa:Zkt w fa f w.heap.size)(i q:Nat)(mx:Int)(hk:X.K n=5)(hA:X.A n=(i:Int))(hai:i<n)(hMN:X.MN n=(q:Int))(hMX:X.MX n=mx)(hq20:q<=20)(hm20:mx<=20)(hmx:mx = -1\/(q:Int)<=mx)(CA0:StC X C len m b off cap sa sc i):
  Calls prog 136 #[.slice (some ⟨b,off,none⟩) len cap,I n,.slice sa m sc,.slice fa ((m:Nat)+1) fc] w (StA m (tkX X (clX X C) n) f w):=by
 have HT:Hid (tkX X (clX X C) n=ctR q mx (tkX X (clX X C) i)):=J (by rw[<-hMN,<-hMX];exact Zsb hk hA hai);have HLE:Hid (∀a b,tkX X (clX X C) i a b->a<=b):=J (λa b h=>ZmS X (clX X C) (i+1) i a b (by omega) h);obtain⟨i0,hi0,hz0,hz1,hz2⟩:=info_parts ZhL;have HR:=J hr;have HSR:=J hsr;have HF:=J hf;have HFA:=J hfa;have HCL:=J hC;obtain⟨ad,cp,hc,hrg⟩:=hr n (by rw[hX];exact hn);obtain⟨c0,c1,c2,c3,c4,c5,c6⟩:=hc;have HRg:=J hrg;have hin:(n:Int)<(len:Int):=by omega
 have hin0:(0:Int)<=(n:Int):=by omega
 rw[hk]at c0;rw[hA]at c3;rw[hMN]at c5;rw[hMX]at c6;have CA:Hid (∀f fa fc (W:World),ZL w W->f.length=m+1->Zkt W fa f W.heap.size->Calls prog 136 #[.slice (some ⟨b,off,none⟩) len cap,I (i:Int),.slice sa m sc,.slice fa ((m:Nat)+1) fc] W (StA m (tkX X (clX X C) i) f W)):=J (λf fa fc W hW hf ha=>CA0 f fa fc W (ZDy hb hW.size) (ZcV (ZaN HR.out hb hW) hW.size) (Zft HSR.out hW) hf ha);obtain⟨R,hR⟩:=ZX (tkX X (clX X C) i);rw[hR]at HT HLE CA;clear hr hsr hf hfa hC hrg hk hA hMN hMX CA0 hR;go_enter func136,ntmps136
 go_upto_region 22 with (first|(at_make;refine wpList_make_full _ rfl _ _ 158 rfl w.heap.size 4 i0 (.bool false) 1 underlying158 hi0 hz0 hz1 .i64 .i64 _ _ (m+1) rfl rfl (by go_num) (by go_num) (by rw[hz2];omega) (by unfold maxLen;omega) (Zb _) ?_;intro w1 hown hgrow;rw[ZgC]at hown;have HX1:Hid (BoX w.heap.size w1 w.heap.size (m+1) (m+1) (List.replicate (m+1) false)):=J ⟨by rw[List.length_replicate],hown⟩;have HB1:Hid (ZL w w1):=J ((Ze _ _).grown hgrow (Zb _) (λk h=>by cases h));clear hown hgrow;have c0:=(HB1.out.cell (p:=⟨b,off+n*7,none⟩) hb).trans c0;have c1:=(HB1.out.cell (p:=⟨b,off+n*7+1,none⟩) hb).trans c1;have c2:=(HB1.out.cell (p:=⟨b,off+n*7+2,none⟩) hb).trans c2;have c3:=(HB1.out.cell (p:=⟨b,off+n*7+3,none⟩) hb).trans c3;have c4:=(HB1.out.cell (p:=⟨b,off+n*7+4,none⟩) hb).trans c4;have c5:=(HB1.out.cell (p:=⟨b,off+n*7+5,none⟩) hb).trans c5;have c6:=(HB1.out.cell (p:=⟨b,off+n*7+6,none⟩) hb).trans c6;have hb1l:b<w1.heap.size:=ZDy hb HB1.out.size))
 obtain⟨wy,hwy⟩:=ZX (w1.alloc (.cells #[I 5,.bool (X.NT n),.slice ad (X.NR n) cp,I (i:Int),I (X.B n),I (q:Int),I mx] 204));have HN2:=J (Zfs w1 5 (X.NT n) ad (X.NR n) cp (i:Int) (X.B n) (q:Int) mx);have HB2:=J (HB1.out.alloc HB1.out.size (.cells #[I 5,.bool (X.NT n),.slice ad (X.NR n) cp,I (i:Int),I (X.B n),I (q:Int),I mx] 204));rw[hwy]at HN2 HB2 ⊢;obtain⟨NB,hNB⟩:=ZX w1.heap.size;have hNBg:w.heap.size<NB:=by rw[<-hNB];exact(Zbq HX1.out).2.1
 rw[hNB]at HN2 ⊢;clear hwy hNB c0 c1 c2 c3 c4 c5 c6 HX1 HB1 hb1l;go_wp2_with (at_builtin;refine Zjj _ (by rfl) _ _ (by rfl) m hm wy rfl (by rfl) f HF.out fa fc (by rfl) (Zp5 (Zpd HFA.out HB2.out) HB2.out.size) ?_;intro g9 c9 w9 hx9 hb9;have HX9:=J (ZdM hx9 HB2.out.size);have HN9:=J (Zg5 HN2.out hb9);have HB9:=J (HB2.out.trans (hb9.mono HB2.out.size));clear hx9 hb9)
 go_loopw [15,16] (λnv kv wr=>∃(k g c:Nat) (G:List Bool),k<=q/\kv=I k/\nv=.slice (some ⟨g,0,none⟩) ((m:Nat)+1) c/\Hid (BoX w.heap.size wr g c (m+1) G)/\Hid (BXm wr NB 5 (X.NT n) ad (X.NR n) cp (i:Int) (X.B n) (q:Int) mx)/\Hid (ZL w wr)/\Hid (Fwd f G m (cnR R k))) (λ_ kv _=>q-(Zi kv).toNat)
 case atStart=>exact⟨0,g9,c9,f,Zx _,rfl,rfl,HX9,HN9,HB9,J (Zv4 f m)⟩
 case round=>
  clear HX9 HN9 HB9;obtain⟨k,g,c,G,hk,rfl,rfl,HX,HN,HB,HA⟩:=hrel;obtain⟨a0,a1,a2,a3,a4,a5,a6⟩:=Zav (Zfk HN.out);by_cases hlt:k<q
  ·have CC:=J (CA.out G _ c wr HB.out HX.out.1 (Zi0 HX.out));go_wp2_with (go_at_call 136;refine CC.out.mono ?_;rintro e w4 ⟨g4,c4,G4,rfl,hx4,hf4,hb4⟩;have HX4:=J (ZdM hx4 HB.out.size);have HF4:=J hf4;have HN4:=J (Zg5 HN.out hb4);have HB4:=J (HB.out.trans (hb4.mono HB.out.size));clear hx4 hf4 hb4)
   go_roundw
   case rel=>exact⟨k+1,g4,c4,G4,by omega,by go_num,rfl,HX4,HN4,HB4,J (ZeL (Zhb HLE.out HA.out HF4.out) (λa b=>(Zes k a b).symm))⟩
   case measure=>simp[Zi];omega
  ·have hkq:k=q:=by omega
   subst hkq;have hNw:=ZAq HN.out;have hgl:g<wr.heap.size:=(Zbq HX.out).2.1;go_wp2_with (at_builtin;refine Zjj _ (by rfl) _ _ (by rfl) m hm wr rfl (by rfl) G HX.out.1 (some ⟨g,0,none⟩) c (by rfl) (Zi0 HX.out) ?_;intro go co w9 hx9 hb9;have hg9:=(Zbq hx9).1;have HX9:=J (ZdM hx9 HB.out.size);have HY9:=J (Zf5 HX.out hb9);have HN9:=J (Zg5 HN.out hb9);obtain⟨d0,d1,d2,d3,d4,d5,d6⟩:=Zav (Zfk HN9.out);have HB9:=J (HB.out.trans (hb9.mono HB.out.size));clear hx9 hb9)
   have hgo:NB<go:=by omega
   clear d0 d1 d2 d3 d4 d5 d6 a0 a1 a2 a3 a4 a5 a6
   go_loopw [15,17] (λnv kv wr=>∃(t gn cn:Nat) (O N:List Bool),kv=I ((k:Int)+t)/\nv=.slice (some ⟨gn,0,none⟩) ((m:Nat)+1) cn/\Hid (BoX w.heap.size wr go co (m+1) O)/\Hid (BoX w.heap.size wr gn cn (m+1) N)/\Hid (BXm wr NB 5 (X.NT n) ad (X.NR n) cp (i:Int) (X.B n) (k:Int) mx)/\Hid (ZL w wr)/\Hid (CtS mx k R f O N m t)/\(mx≠-1->(k:Int)+t<=mx)/\(mx = -1->t+lkR O m<=m+1)) (λ_ kv _=>(k+m+30)-(Zi kv).toNat)
   case atStart=>exact⟨0,g,c,G,G,by simp,rfl,HX9,HY9,HN9,HB9,J (Zr6 HA.out),λe=>by omega,λe=>by have:=Zze (λj=>G[j]?.getD false) (m+1);show 0+nf _ _<=_;omega⟩
   case round=>
    clear HX9 HY9 HN9 HB9 HX HN HB HA hg9 hgl hNw;obtain⟨t,gn,cn,O,N,rfl,rfl,HX,HY,HN,HB,HS,ht1,ht2⟩:=hrel;obtain⟨a0,a1,a2,a3,a4,a5,a6⟩:=Zav (Zfk HN.out);have hgol:=(Zbq HX.out).2.1;have hgow:=(Zbq HX.out).1;by_cases hgo1:mx = -1\/(k:Int)+t<mx
    ·have CC:=J (CA.out N _ cn wr HB.out HY.out.1 (Zi0 HY.out));have hwrp:IntKind.i64.wrap ((k:Int)+t+1)=(k:Int)+t+1:=by
      rw[ZY];rcases hgo1 with e|e
      ·have:=ht2 e;omega
      ·omega
     by_cases hmx1:mx = -1
     ·subst hmx1;have hcmp:¬((k:Int)+t < -1):=(by omega);have ht3:=ht2 rfl;go_wp2_with (go_at_call 136;refine CC.out.mono ?_;rintro e w4 ⟨g4,c4,G4,rfl,hx4,hf4,hb4⟩;have hg4:=(Zbq hx4).1;have HX4:=J (ZdM hx4 HB.out.size);have HF4:=J hf4;have HN4:=J (Zg5 HN.out hb4);have HO4:=J (Zf5 HX.out hb4);have HB4:=J (HB.out.trans (hb4.mono HB.out.size));clear hx4 hf4 hb4)
      clear a0 a1 a2 a3 a4 a5 a6
      go_loopw [18,19] (λmv jv wr=>∃(j:Nat) (O':List Bool),j<=m+1/\jv=I j/\mv=.bool (moB G4 O j)/\Hid (BoX w.heap.size wr go co (m+1) O')/\Hid (BoX w.heap.size wr g4 c4 (m+1) G4)/\Hid (BXm wr NB 5 (X.NT n) ad (X.NR n) cp (i:Int) (X.B n) (k:Int) (-1))/\Hid (ZL w wr)/\Hid (Zzb O G4 O' m j)) (λ_ jv _=>m+1-(Zi jv).toNat)
      case atStart=>exact⟨0,O,Zx _,rfl,rfl,HO4,HX4,HN4,HB4,J (ZkA O G4 m)⟩
      case round=>
       clear HO4 HX4 HN4 HB4;obtain⟨j,O',hj,rfl,rfl,HXr,HYr,HNr,HBr,HMr⟩:=hrel;by_cases hlj:j<m+1
       ·have u0:=(Zbq HXr.out).2.2 j hlj;have uz:=Zd7 HXr.out j;have y0:=(Zbq HYr.out).2.2 j hlj;have hji:(j:Int)<((m:Nat)+1:Int):=(by omega);have hj0:(0:Int)<=(j:Int):=(by omega);have HMN:=J (ZkH HMr.out HXr.out.1 (by omega));have hOj:O'[j]?.getD false=O[j]?.getD false:=(by have:=HMr.out j (by omega);rw[Za (by omega)]at this;exact this);have HMO:=J (Znu G4 O j);obtain⟨x,hx⟩:=ZX (O[j]?.getD false);obtain⟨y,hy⟩:=ZX (G4[j]?.getD false);obtain⟨mv,hmv⟩:=ZX (moB G4 O j);rw[hOj,hx,hy]at HMN;rw[hx,hy,hmv]at HMO;rw[hOj,hx]at u0;rw[hy]at y0;rw[hmv];have HXS:=J (ZfA HXr.out j (x||y));have HYS:=J (Zki HYr.out (p:=⟨go,j,none⟩) (by show go≠g4;omega) (.bool (x||y)));have HNS:=J (Zgr HNr.out (p:=⟨go,j,none⟩) (by show go≠NB;omega) (.bool (x||y)));have HBS:=J (HBr.out.setCell (p:=⟨go,j,none⟩) hgow (.bool (x||y)));clear hx hy hmv hOj;cases mv<;>cases x<;>cases y
        all_goals
         simp only[Bool.false_or,Bool.true_or,Bool.or_false,Bool.or_true,Bool.not_false,Bool.not_true,Bool.and_true,Bool.and_false,Bool.true_and,Bool.false_and]at HMN HXS HYS HNS HBS HMO;go_wp2
         go_roundw
         case rel=>exact⟨j+1,_,by omega,by go_num,by rw[HMO.out],HXS,HYS,HNS,HBS,HMN⟩
         case measure=>simp[Zi];omega
       ·have hjm:j=m+1:=(by omega);subst hjm;have HD:=J (Zlz HMr.out);obtain⟨a0,a1,a2,a3,a4,a5,a6⟩:=Zav (Zfk HNr.out);have hwl:=(Zbq HXr.out).2.1;cases hmv:moB G4 O (m+1)
        ·have HST:Hid (∀b,b<=m->G4[b]?.getD false=true->O[b]?.getD false=true):=J (λb hb h=>by
          cases e:O[b]?.getD false
          ·have:=ZmN.2 ⟨b,(by omega:b<m+1),h,e⟩;rw[hmv]at this;cases this
          ·rfl)
         clear hmv;go_wp2;go_ret;exact⟨go,co,O',rfl,HXr.out,by rw[HT.out];exact ZnL HLE.out HS.out HF4.out HST.out HD.out (.inl rfl),HBr.out⟩
        ·have HLK:=J (ZrB HD.out HX.out.1 HXr.out.1 hmv);have HNX:=J (Zno HLE.out HS.out HF4.out HD.out);clear hmv;go_wp2_with (at_builtin;refine Zjj _ (by rfl) _ _ (by rfl) m hm wr rfl (by rfl) O' HXr.out.1 (some ⟨go,0,none⟩) co (by rfl) (Zi0 HXr.out) ?_;intro g9 c9 w9 hx9 hb9;have hg9:=(Zbq hx9).1;have HX9:=J (ZdM hx9 HBr.out.size);have HY9:=J (Zf5 HXr.out hb9);have HN9:=J (Zg5 HNr.out hb9);have HB9:=J (HBr.out.trans (hb9.mono HBr.out.size));clear hx9 hb9)
         go_roundw
         case rel=>exact⟨t+1,g9,c9,O',O',by go_num,rfl,HY9,HX9,HN9,HB9,J (HNX.out.1 rfl),λe=>absurd rfl e,λe=>by have h1:=HLK.out;have h2:=ht3;omega⟩
         case measure=>simp[Zi];have:=ht3;omega
     ·have hcmp:(k:Int)+t<mx:=(by omega);have hmxb:(mx == -1)=false:=(by rw[ZDU];exact hmx1);go_wp2_with (go_at_call 136;refine CC.out.mono ?_;rintro e w4 ⟨g4,c4,G4,rfl,hx4,hf4,hb4⟩;have hg4:=(Zbq hx4).1;have HX4:=J (ZdM hx4 HB.out.size);have HF4:=J hf4;have HN4:=J (Zg5 HN.out hb4);have HO4:=J (Zf5 HX.out hb4);have HB4:=J (HB.out.trans (hb4.mono HB.out.size));clear hx4 hf4 hb4)
      clear a0 a1 a2 a3 a4 a5 a6
      go_loopw [18,19] (λmv jv wr=>∃(j:Nat) (O':List Bool),j<=m+1/\jv=I j/\mv=.bool (moB G4 O j)/\Hid (BoX w.heap.size wr go co (m+1) O')/\Hid (BoX w.heap.size wr g4 c4 (m+1) G4)/\Hid (BXm wr NB 5 (X.NT n) ad (X.NR n) cp (i:Int) (X.B n) (k:Int) mx)/\Hid (ZL w wr)/\Hid (Zzb O G4 O' m j)) (λ_ jv _=>m+1-(Zi jv).toNat)
      case atStart=>exact⟨0,O,Zx _,rfl,rfl,HO4,HX4,HN4,HB4,J (ZkA O G4 m)⟩
      case round=>
       clear HO4 HX4 HN4 HB4;obtain⟨j,O',hj,rfl,rfl,HXr,HYr,HNr,HBr,HMr⟩:=hrel;by_cases hlj:j<m+1
       ·have u0:=(Zbq HXr.out).2.2 j hlj;have uz:=Zd7 HXr.out j;have y0:=(Zbq HYr.out).2.2 j hlj;have hji:(j:Int)<((m:Nat)+1:Int):=(by omega);have hj0:(0:Int)<=(j:Int):=(by omega);have HMN:=J (ZkH HMr.out HXr.out.1 (by omega));have hOj:O'[j]?.getD false=O[j]?.getD false:=(by have:=HMr.out j (by omega);rw[Za (by omega)]at this;exact this);have HMO:=J (Znu G4 O j);obtain⟨x,hx⟩:=ZX (O[j]?.getD false);obtain⟨y,hy⟩:=ZX (G4[j]?.getD false);obtain⟨mv,hmv⟩:=ZX (moB G4 O j);rw[hOj,hx,hy]at HMN;rw[hx,hy,hmv]at HMO;rw[hOj,hx]at u0;rw[hy]at y0;rw[hmv];have HXS:=J (ZfA HXr.out j (x||y));have HYS:=J (Zki HYr.out (p:=⟨go,j,none⟩) (by show go≠g4;omega) (.bool (x||y)));have HNS:=J (Zgr HNr.out (p:=⟨go,j,none⟩) (by show go≠NB;omega) (.bool (x||y)));have HBS:=J (HBr.out.setCell (p:=⟨go,j,none⟩) hgow (.bool (x||y)));clear hx hy hmv hOj;cases mv<;>cases x<;>cases y
        all_goals
         simp only[Bool.false_or,Bool.true_or,Bool.or_false,Bool.or_true,Bool.not_false,Bool.not_true,Bool.and_true,Bool.and_false,Bool.true_and,Bool.false_and]at HMN HXS HYS HNS HBS HMO;go_wp2
         go_roundw
         case rel=>exact⟨j+1,_,by omega,by go_num,by rw[HMO.out],HXS,HYS,HNS,HBS,HMN⟩
         case measure=>simp[Zi];omega
       ·have hjm:j=m+1:=(by omega);subst hjm;have HD:=J (Zlz HMr.out);obtain⟨a0,a1,a2,a3,a4,a5,a6⟩:=Zav (Zfk HNr.out);have hwl:=(Zbq HXr.out).2.1;cases hmv:moB G4 O (m+1)
        ·have HST:Hid (∀b,b<=m->G4[b]?.getD false=true->O[b]?.getD false=true):=J (λb hb h=>by
          cases e:O[b]?.getD false
          ·have:=ZmN.2 ⟨b,(by omega:b<m+1),h,e⟩;rw[hmv]at this;cases this
          ·rfl)
         clear hmv;go_wp2;go_ret;exact⟨go,co,O',rfl,HXr.out,by rw[HT.out];exact ZnL HLE.out HS.out HF4.out HST.out HD.out (.inr (by omega)),HBr.out⟩
        ·have HLK:=J (ZrB HD.out HX.out.1 HXr.out.1 hmv);have HNX:=J (Zno HLE.out HS.out HF4.out HD.out);clear hmv;go_wp2
         go_roundw
         case rel=>exact⟨t+1,g4,c4,O',G4,by go_num,rfl,HXr,HYr,HNr,HBr,J (HNX.out.2 hmx1),λe=>by omega,λe=>absurd e hmx1⟩
         case measure=>simp[Zi];omega
    ·have hcmp:¬((k:Int)+t<mx):=(by omega);have hmx1:mx≠-1:=(by omega);have hmxb:(mx == -1)=false:=(by rw[ZDU];exact hmx1);have hfull:(k:Int)+t=mx:=(by have:=ht1 hmx1;omega);have HFU:=J hfull;clear hfull;go_wp2;go_ret;exact⟨go,co,O,rfl,HX.out,by rw[HT.out];exact Zt4 HS.out HFU.out,HB.out⟩
theorem Zvr(X:Rx)(C:List Int)(len m:Nat)(hX:X.len=len)(hlen:len<=120)(hC:C.length=m)(hm:m<=300)(hnd:ZBT X len)(hno:∀j,j<len->ZdO X j=true)(hcn:∀j,j<len->X.K j=5->X.MX j = -1\/X.MN j<=X.MX j)(b off cap:Nat)(sa:Option Addr)(sc:Nat):∀(d n r:Nat),n<d->n<len->trX X n=some r->StC X C len m b off cap sa sc n
 |0,n,r,hmn,hn,htr=>by omega
 |d+1,n,r,hmn,hn,htr=>by
  have IH:=Zvr X C len m hX hlen hC hm hnd hno hcn b off cap sa sc d;intro f fa fc w hb hr hsr hf hfa;obtain⟨h5,h2,hk⟩:=hnd n hn;rcases hk with k1|k2|k3|k4|k5
  ·exact Zw8 X C len m hX hlen hC hm b off cap sa sc n hn f fa fc w hb hr hsr hf hfa k1
  ·exact ZyV X C len m hX hlen hC hm b off cap sa sc n hn f fa fc w hb hr hsr hf hfa k2 (hno n hn) (by have:=(h2 k2).2.1;unfold maxLen;omega)
  ·obtain⟨c,hA,hB,ha,hb9,h1,hc,t1,t2⟩:=Ze9 htr (.inl k3);exact ZCw X C len m hX hlen hC hm b off cap sa sc n hn f fa fc w hb hr hsr hf hfa _ _ k3 hA hB ha hb9 (IH _ _ (by omega) (by omega) t2) (IH _ _ (by omega) (by omega) t1)
  ·obtain⟨c,hA,hB,ha,hb9,h1,hc,t1,t2⟩:=Ze9 htr (.inr k4);exact ZC1 X C len m hX hlen hC hm b off cap sa sc n hn f fa fc w hb hr hsr hf hfa _ _ k4 hA hB ha hb9 (IH _ _ (by omega) (by omega) t2) (IH _ _ (by omega) (by omega) t1)
  ·obtain⟨hA,ha,t1⟩:=Zhe htr k5;have q5:=h5 k5;have e1:X.MN n=((X.MN n).toNat:Int):=by omega
   exact ZCa X C len m hX hlen hC hm b off cap sa sc n hn f fa fc w hb hr hsr hf hfa _ (X.MN n).toNat (X.MX n) k5 hA ha e1 rfl (by omega) q5.2.2.1 (by rw[<-e1];exact hcn n hn k5) (IH _ _ (by omega) (by omega) t1)
end
end Go.Proofs.YtcdnilpdohknfaaGreatDoor
