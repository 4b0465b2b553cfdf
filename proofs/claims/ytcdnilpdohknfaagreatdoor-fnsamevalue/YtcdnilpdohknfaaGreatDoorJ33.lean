import Derived.Test.YtcdnilpdohknfaaGreatDoorJ32
set_option linter.unusedVariables false
set_option linter.unusedSimpArgs false
set_option maxRecDepth 100000
set_option maxHeartbeats 16000000
namespace Go.Proofs.YtcdnilpdohknfaaGreatDoor
open Tryz
section
open Go.RowKit Go.Joins
theorem Zv5{L:List Ty}{n:Nat}{r:Ru}{s:ZB}(h:Zea L n)(h1:r.x=tyA L n)(h2:r.cs=prP L n):thO (kvP L n s) r.x r.cs s=Zq L n s:=by
 rw[ZAA h,h1,h2];generalize kvP L n s=o;cases o<;>rfl
def RuC(rs:List Ru):Prop:=∀(j:Nat) (r:Ru),rs[j]?=some r->(ruV r).toArray.all (·.oneCell')=true
theorem ZBW(L:List Ty)(rs:List Ru)(a:Option Addr)(m c n:Nat)(s:ZB)(w:World)(hR:RuW w a L rs)(hC:RuC rs)(hl:rs.length=m)(hm:m<=20000)(hn:n<m)(hok:∀j,j<=n->Zea L j)(hs:s.size<=4000)(hpl:ZD s=true)(hk:(tyA L n).kd<=7):
  Calls prog 28 #[.slice a m c,I n,.string s] w (ZT (Zq L n s) w):=by
 have hnl:n<rs.length:=by omega
 have hne:rs≠[]:=λe=>by rw[e]at hnl;simp at hnl
 have hr:=Zv hnl;obtain⟨r,hr2⟩:=ZX (rs[n]);rw[hr2]at hr;obtain⟨q1,q2,-⟩:=hR.2.2 n r hr;have h0:=hok n (Zb _);have hk1:=h0.2.2.1;have hT:=J (ZAh hR hr hok hs hpl);rw[<-Zv5 h0 q1 q2];obtain⟨b,off,e,hb,hc⟩:=hR.1 hne;subst e;have hkx:r.x.kd=(tyA L n).kd:=by rw[q1]
 rcases Zjd hk1.1 hk with e|e|e|e|e|e|e
 ·refine Zmv 81 r m n b off c s w (kvP L n s) hn hm (hC n r hr) (hc n r hr) (λG w9=>by rw[hkx,e];exact Zvx G w9) (enters_of func81 (by kernel_rfl) rfl) (J (λw1 h1=>?_)) hT;rw[Zmz hk,e];exact ZCW s w1 hpl
 ·refine Zmv 82 r m n b off c s w (kvP L n s) hn hm (hC n r hr) (hc n r hr) (λG w9=>by rw[hkx,e];exact ZvD G w9) (enters_of func82 (by kernel_rfl) rfl) (J (λw1 h1=>?_)) hT;rw[Zmz hk,e];exact ZCR s w1 hpl
 ·refine Zmv 83 r m n b off c s w (kvP L n s) hn hm (hC n r hr) (hc n r hr) (λG w9=>by rw[hkx,e];exact ZvS G w9) (enters_of func83 (by kernel_rfl) rfl) (J (λw1 h1=>?_)) hT;rw[Zmz hk,e];exact ZCP s w1 (by omega)
 ·refine Zmv 84 r m n b off c s w (kvP L n s) hn hm (hC n r hr) (hc n r hr) (λG w9=>by rw[hkx,e];exact Zww G w9) (enters_of func84 (by kernel_rfl) rfl) (J (λw1 h1=>?_)) hT;rw[Zmz hk,e];exact ZCS s w1 (by omega)
 ·refine Zmv 85 r m n b off c s w (kvP L n s) hn hm (hC n r hr) (hc n r hr) (λG w9=>by rw[hkx,e];exact Zwl G w9) (enters_of func85 (by kernel_rfl) rfl) (J (λw1 h1=>?_)) hT;rw[Zmz hk,e];exact ZCl s w1 (by omega) (ZbB hR.2.1 h1)
 ·refine Zmv 86 r m n b off c s w (kvP L n s) hn hm (hC n r hr) (hc n r hr) (λG w9=>by rw[hkx,e];exact ZvP G w9) (enters_of func86 (by kernel_rfl) rfl) (J (λw1 h1=>?_)) hT;rw[Zmz hk,e];exact ZCV s w1 (by omega) (ZbB hR.2.1 h1)
 ·refine Zmv 87 r m n b off c s w (kvP L n s) hn hm (hC n r hr) (hc n r hr) (λG w9=>by rw[hkx,e];exact ZvE G w9) (enters_of func87 (by kernel_rfl) rfl) (J (λw1 h1=>?_)) hT;rw[Zmz hk,e];exact ZCM s w1 (by omega) (ZbB hR.2.1 h1)
theorem ZCy(L:List Ty)(rs:List Ru)(a:Option Addr)(m c n:Nat)(s:ZB)(w:World)(hR:RuW w a L rs)(hC:RuC rs)(hl:rs.length=m)(hm:m<=20000)(hn:n<m)(hok:∀j,j<=n->Zea L j)(hs:s.size<=4000)(hpl:ZD s=true)(IH:IVH L rs m a c n)(hk:8<=(tyA L n).kd):
  Calls prog 28 #[.slice a m c,I n,.string s] w (ZT (Zq L n s) w):=by
 have hnl:n<rs.length:=by omega
 have hne:rs≠[]:=λe=>by rw[e]at hnl;simp at hnl
 have hr:=Zv hnl;obtain⟨r,hr2⟩:=ZX (rs[n]);rw[hr2]at hr;obtain⟨q1,q2,-⟩:=hR.2.2 n r hr;have h0:=hok n (Zb _);have hk1:=h0.2.2.1;have hT:=J (ZAh hR hr hok hs hpl);rw[<-Zv5 h0 q1 q2];obtain⟨b,off,e,hb,hc⟩:=hR.1 hne;subst e;have hkx:r.x.kd=(tyA L n).kd:=by rw[q1]
 have h3:(tyA L n).kd=8\/(tyA L n).kd=9\/(tyA L n).kd=10:=by omega
 rcases h3 with e|e|e
 ·refine ZxV 88 r m n b off c s w (kvP L n s) hn hm (hC n r hr) (hc n r hr) (λG w9=>by rw[hkx,e];exact ZzH G w9) (enters_of func88 (by kernel_rfl) rfl) (J (λw1 G h1 hG hH=>?_)) hT;have hbs:=h0.2.2.2.1 (.inl e);have hp7:=h0.2.2.2.2.2.1 e;obtain⟨p,hp⟩:∃p:Nat,(tyA L n).bs=p:=⟨(tyA L n).bs.toNat,by omega⟩;rw[ZCG e,hp,ZDK];rw[hp,ZDK]at hp7;unfold ZCF at hH;rw[show r.x.bs=(p:Int) by rw[q1,hp]]at hH;exact ZDl L rs m n p _ c G s w1 _ _ _ _ _ _ _ _ _ hG hH hs hpl (ZgV hR h1) IH (by omega) (λj hj=>hok j (by omega)) hp7
 ·refine ZxV 90 r m n b off c s w (kvP L n s) hn hm (hC n r hr) (hc n r hr) (λG w9=>by rw[hkx,e];exact ZBG G w9) (enters_of func90 (by kernel_rfl) rfl) (J (λw1 G h1 hG hH=>?_)) hT;obtain⟨hz,hmm⟩:=h0.2.2.2.2.2.2.1 e;have hR1:=ZgV hR h1;have hma:=(hR1.2.2 n r hr).2.2.2.2.2.2.2.2.1;rw[Zqo e,<-q1];rw[<-q1]at hz hmm;exact ZDn L rs m n _ c G r.x.ms r.am r.cm s w1 _ _ _ _ _ _ _ _ _ hG hH hs hpl hR1 IH (λy hy=>(hmm y hy).1) (by omega) hma (by omega)
 ·refine ZxV 91 r m n b off c s w (kvP L n s) hn hm (hC n r hr) (hc n r hr) (λG w9=>by rw[hkx,e];exact ZyP G w9) (enters_of func91 (by kernel_rfl) rfl) (J (λw1 G h1 hG hH=>?_)) hT;have hbs:=h0.2.2.2.1 (.inr e);obtain⟨p,hp⟩:∃p:Nat,(tyA L n).bs=p:=⟨(tyA L n).bs.toNat,by omega⟩;rw[ZsV e,hp,ZDK];unfold ZCF at hH;rw[show r.x.bs=(p:Int) by rw[q1,hp]]at hH;exact ZCo L rs m n p _ c G s w1 _ _ _ _ _ _ _ _ _ hG hH hs hpl (ZgV hR h1) IH (by omega)
theorem ZtV(L:List Ty)(rs:List Ru)(a:Option Addr)(m c:Nat)(hC:RuC rs)(hl:rs.length=m)(hm:m<=20000):∀(n:Nat),n<m->(∀j,j<=n->Zea L j)->∀(s:ZB) (w:World),s.size<=4000->ZD s=true->RuW w a L rs->
  Calls prog 28 #[.slice a m c,I n,.string s] w (ZT (Zq L n s) w):=by
 intro n;induction n using Nat.strongRecOn with
 |_ n ih=>
  intro hn hok s w hs hpl hR;have IH:IVH L rs m a c n:=λn' hn' s' w' h1 h2 h3=>ih n' hn' (by omega) (λj hj=>hok j (by omega)) s' w' h1 h2 h3
  by_cases hk:(tyA L n).kd<=7
  ·exact ZBW L rs a m c n s w hR hC hl hm hn hok hs hpl hk
  ·exact ZCy L rs a m c n s w hR hC hl hm hn hok hs hpl IH (by omega)
end
end Go.Proofs.YtcdnilpdohknfaaGreatDoor
