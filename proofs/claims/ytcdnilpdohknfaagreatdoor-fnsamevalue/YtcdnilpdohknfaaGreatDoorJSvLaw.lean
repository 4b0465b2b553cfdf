/-
  FnSameValue: whatever the code is, two drawn texts are the same value of a drawn kind exactly where the specification says so. The tables of the row are listed as the row lists them, and tied.
-/
import Derived.Test.YtcdnilpdohknfaaGreatDoorCards
import Derived.Test.YtcdnilpdohknfaaGreatDoorTie
import Derived.Test.YtcdnilpdohknfaaGreatDoorJ41
import Derived.Test.YtcdnilpdohknfaaGreatDoorJ42
import Derived.Test.YtcdnilpdohknfaaGreatDoorJDSv
import Derived.WalkKit
import Derived.ProofKit
import Derived.OpenShut
import Derived.OpenVars
import Derived.ChangeVars
import Derived.ShutString
import Derived.Below
import Derived.ChangeOld
import Derived.Lib.SmallJoins
import Derived.Lib.LaidIn
import Derived.Lib.LaidU8T
import Derived.Deep.DeepHandedRow
import Derived.Deep.DeepWitnessRowRef
namespace Go.Proofs.YtcdnilpdohknfaaGreatDoor.fnSameValue
open Go.ChangeShapes Go.WideShapes Go.ChangeAt Go.RowKit Go.Joins
open Go.ChangeMaps (open_string shut_string)
set_option linter.unusedVariables false
set_option linter.unusedSimpArgs false
theorem laidOut:laidOutB Tryz.prog=true:=by kernel_rfl
def IsRow(k:IntKind)(w:World)(a:Option Addr)(len cap:Nat)(zs:List Int):Prop:=
  (a=none∧len=0∧cap=0∧zs=[])∨
  ∃x,a=some x∧len≤cap∧cap≤maxLen∧zs.length=cap∧(∀i,i<zs.length→w.cell? (x.add i)=some (.int k (zs.getD i 0)))∧∀n∈zs,(Lit.int k n).wf=true
theorem own:ownKnob Tryz.prog.godebug=none:=by kernel_rfl
set_option maxHeartbeats 2000000 in
theorem walk(a0:Option Addr)(len0 cap0:Nat)(z0:List Int)(w:World)(w0:IsRow .u8 w a0 len0 cap0 z0)(hsh:w.ShapedOpen Tryz.prog)(hT:Zjk 3 w)(hTb:Ztz w)(htab:Lib.TabIs Tryz.prog w "internal/strconv.uint64pow10" .u64 Lib.pow10Tab):
    Calls Tryz.prog 6 #[.slice a0 len0 cap0] w fun e w'=>e = .returned (.bool true)∧Below w.heap.size w w':=by
  by_cases hbig:1048576<len0
  · have hb':(1048576:Int)<(len0:Int):=by omega
    go_enter Tryz.func6,Tryz.ntmps6
    go_wp2
    go_ret
    exact⟨rfl,Below.refl _ _⟩
  · have hn:len0≤1048576:=by omega
    have hn':¬(1048576:Int)<(len0:Int):=by omega
    obtain⟨zs,hl,hz,hs⟩:∃zs:List Int,zs.length=len0∧(∀x∈zs,0≤x∧x≤255)∧Zpw w a0 zs w.heap.size:=by
      rcases w0 with ⟨rfl,rfl,rfl,rfl⟩ | ⟨x,rfl,hl,hm,hz,hcell,hwz⟩
      · exact⟨[],rfl,fun x hx=>(by cases hx),fun h=>absurd rfl h⟩
      · refine⟨z0.take len0,by rw[List.length_take];omega,fun y hy=>?_,fun hne=>?_⟩
        · have:=hwz y (List.mem_of_mem_take hy)
          simp[Lit.wf]at this
          exact this
        · have hpos:0<len0:=by
            rcases Nat.eq_zero_or_pos len0 with h | h
            · subst h;simp at hne
            · exact h
          obtain⟨b,off,spot⟩:=x
          have hc0:=hcell 0 (by omega)
          have hspot:spot=none:=by simpa[Addr.add] using World.cell?_spot hc0
          subst hspot
          have hadd:∀i,(⟨b,off,none⟩:Addr).add i=⟨b,off+i,none⟩:=fun i=>by unfold Addr.add;split <;> simp_all
          refine⟨b,off,rfl,?_,fun j hj=>?_⟩
          · have:=World.block_lt_of_cell? w _ hc0
            rw[hadd]at this
            exact this
          · rw[List.length_take]at hj
            rw[←hadd,hcell j (by omega),List.getElem?_take,if_pos (by omega)]
            simp[List.getD]
    clear w0
    exact Zab Zad a0 len0 cap0 zs w hl hz hn hs ⟨Zae.s1_3 w hsh,hT,htab,hTb⟩
noncomputable def laidWorld (os:Os):World:=
  let w0:=World.holding Tryz.prog os ⟨#[],#[],[]⟩
  let put (h:Array Obj) (g:Nat) (cs:Array Value):Array Obj:=h.modify g fun
    | .cells _ t frozen => .cells cs t frozen
    | o=>o
  let h1:=put w0.heap 5 #[.int .u8 0,.int .u8 1,.int .u8 28,.int .u8 2,.int .u8 29,.int .u8 14,.int .u8 24,.int .u8 3,.int .u8 30,.int .u8 22,.int .u8 20,.int .u8 15,.int .u8 25,.int .u8 17,.int .u8 4,.int .u8 8,.int .u8 31,.int .u8 27,.int .u8 13,.int .u8 23,.int .u8 21,.int .u8 19,.int .u8 16,.int .u8 7,.int .u8 26,.int .u8 12,.int .u8 18,.int .u8 6,.int .u8 11,.int .u8 5,.int .u8 10,.int .u8 9]
  let h2:=put h1 6 #[.int .u8 0,.int .u8 1,.int .u8 56,.int .u8 2,.int .u8 57,.int .u8 49,.int .u8 28,.int .u8 3,.int .u8 61,.int .u8 58,.int .u8 42,.int .u8 50,.int .u8 38,.int .u8 29,.int .u8 17,.int .u8 4,.int .u8 62,.int .u8 47,.int .u8 59,.int .u8 36,.int .u8 45,.int .u8 43,.int .u8 51,.int .u8 22,.int .u8 53,.int .u8 39,.int .u8 33,.int .u8 30,.int .u8 24,.int .u8 18,.int .u8 12,.int .u8 5,.int .u8 63,.int .u8 55,.int .u8 48,.int .u8 27,.int .u8 60,.int .u8 41,.int .u8 37,.int .u8 16,.int .u8 46,.int .u8 35,.int .u8 44,.int .u8 21,.int .u8 52,.int .u8 32,.int .u8 23,.int .u8 11,.int .u8 54,.int .u8 26,.int .u8 40,.int .u8 15,.int .u8 34,.int .u8 20,.int .u8 31,.int .u8 10,.int .u8 25,.int .u8 14,.int .u8 19,.int .u8 9,.int .u8 13,.int .u8 8,.int .u8 7,.int .u8 6]
  let h3:=put h2 4 #[.int .u64 1,.int .u64 10,.int .u64 100,.int .u64 1000,.int .u64 10000,.int .u64 100000,.int .u64 1000000,.int .u64 10000000,.int .u64 100000000,.int .u64 1000000000,.int .u64 10000000000,.int .u64 100000000000,.int .u64 1000000000000,.int .u64 10000000000000,.int .u64 100000000000000,.int .u64 1000000000000000,.int .u64 10000000000000000,.int .u64 100000000000000000,.int .u64 1000000000000000000,.int .u64 10000000000000000000]
  let h4:=put h3 1 ((List.range 16).flatMap fun i=>[Value.int .u8 (Lib.accLo i),Value.int .u8 (Lib.accHi i)]).toArray
  let h5:=put h4 3 (ZCe.map fun z=>Value.int .i64 z).toArray
  let h6:=put h5 0 (Lib.firstTab.map fun z=>Value.int .u8 z).toArray
  { w0 with heap:=h6 }
theorem laid_met(os:Os)(args:Array Value):laidMet Tryz.prog Rows.fnSameValueRow.laid ((laidWorld os).forCall (fun _ _=>0) ⟨#[],args,[]⟩).memory:=
  (LaidIn.of_run (l:=Rows.fnSameValueRow.laid) [5,6,4,1,3,0] 8 (by kernel_rfl) (by kernel_rfl) (by kernel_rfl) (by kernel_rfl)).met
theorem witness_row(os:Os){H:Type}(enc:TypeId×Value→H):
    (OpenSpec.ofChange Rows.fnSameValueSpec).preRow enc Tryz.prog Tryz.f6 Rows.fnSameValueRow.domain false Rows.fnSameValueRow.laid ((laidWorld os).forCall (fun _ _=>0) ⟨#[],#[.slice none 0 0],[]⟩).memory #[.slice none 0 0]:=by
  have hw:(DataW.whole enc Tryz.prog ((laidWorld os).forCall (fun _ _=>0) ⟨#[],#[.slice none 0 0],[]⟩).memory Tryz.f6.params.toList Rows.fnSameValueSpec.vars false (#[.slice none 0 0]:Array Value).toList 8).map (fun x=>(x.1,x.2.1)) =
      some ([.nil],[.agg (ZCe.map fun z => .lit (.int .i64 z))]):=by kernel_rfl
  obtain⟨⟨x1,x2,x3⟩,hx,hx1⟩:=Option.map_eq_some_iff.1 hw
  simp only[Prod.mk.injEq]at hx1
  obtain⟨rfl,rfl⟩:=hx1
  exact OpenSpec.preRow_of_cond 8 hx (by kernel_rfl) (fun k hk=>by cases hk) (by kernel_rfl) (laid_met os _)
set_option maxRecDepth 100000 in
set_option maxHeartbeats 2000000 in
theorem lifted(os:Os)(started:os.Started)(H:Type)(enc:TypeId×Value→H)(F:Stop.Interp):
    ReturnsInHanded {} Tryz.checked os 6 .any ((OpenSpec.ofChange Rows.fnSameValueSpec).preRow enc Tryz.prog Tryz.f6 Rows.fnSameValueRow.domain false Rows.fnSameValueRow.laid) (((OpenSpec.ofChange Rows.fnSameValueSpec).at F).post enc Tryz.prog Tryz.f6 false true false false):=by
  refine returnsInHanded_of_row (C:=Tryz.checked) (s:=OpenSpec.ofChange Rows.fnSameValueSpec) own started (by kernel_rfl) Tryz.func6
    (witness_row_atRef (enc:=enc) (C:=Tryz.checked) false (laidWorld os) #[.slice none 0 0] rfl (by kernel_rfl) (by kernel_rfl) (by kernel_rfl) (witness_row os enc)) ?_
  intro W base args ds gs before hval0 hW _ _ _ hL hsh _
  have hval:∀(j:Nat) t v,Tryz.f6.params[j]?=some t→args[j]?=some v→Value.okWide Tryz.prog W .any base t v:=hval0
  have hW':=hW
  obtain⟨p,q,hA0,hV0,rfl,_,_⟩:=hW
  have hA:DataW.TrodAll enc Tryz.prog W 0 (fun _=>true) true Tryz.f6.params.toList args.toList ds p:=hA0
  rw[Tryz.params6]at hA hval
  obtain⟨v0,vs0,d0,ds0,p0,q0,hargs,rfl,rfl,h0,r0⟩:=trodAll_cons hA
  obtain⟨rfl,rfl,rfl⟩:=trodAll_nil r0
  obtain rfl:args=#[v0]:=by cases args;simp_all
  have k0:=h0
  have lt0:∀x∈p0,x.block<W.heap.size:=by obtain⟨mm,hmm⟩:=k0;exact DataW.trod_lt mm _ _ _ hmm
  have hV:DataW.TrodVars enc Tryz.prog W (fun _=>true) ["loop.example/g00262/impl.monthDays"] gs q:=hV0
  have hVk:=hV
  obtain⟨gg,gt,gcs,gfuel,gd,gp,rfl,hgg,hgt,hgvar,hgd,rfl⟩:=trodVars_one hV
  obtain⟨a0,len0,cap0,rfl⟩:=okWide_slice Tryz.underlying22 (hval 0 22 v0 rfl rfl)
  obtain⟨z0,w0⟩:∃zs,IsRow .u8 W a0 len0 cap0 zs:=by
    obtain⟨fuel,hf⟩:=h0
    rcases open_ints Tryz.underlying22 Tryz.underlying5 (by kernel_rfl) hf with ⟨hcs,_⟩ | ⟨x,l,c,zs,hcs,_,hl,hm,hz,_,hcell,hwz⟩
    · simp[Value.cells]at hcs
      obtain⟨rfl,rfl,rfl⟩:=hcs
      exact⟨[],.inl ⟨rfl,rfl,rfl,rfl⟩⟩
    · simp[Value.cells]at hcs
      obtain⟨rfl,rfl,rfl⟩:=hcs
      exact⟨zs,.inr ⟨_,rfl,hl,hm,by simpa using hz,hcell,hwz⟩⟩
  clear hA0 hV0 hval0
  have hmt:Zjk 3 W:=Zac (by kernel_rfl) (by kernel_rfl) Tryz.underlying269 Tryz.underlying2 (by kernel_rfl) (by kernel_rfl) (Lib.laidMet.reads hL (.tail _ (.tail _ (.tail _ (.tail _ (.head _))))))
  have htab:=Go.Proofs.utf8Tabs_of_readsT (Go.Proofs.U8Types.of196 ZEW) ⟨by kernel_rfl,by kernel_rfl,by kernel_rfl,by kernel_rfl,by kernel_rfl,by kernel_rfl,by kernel_rfl⟩ (Lib.laidMet.reads hL (.tail _ (.tail _ (.tail _ (.tail _ (.tail _ (.head _))))))) (Lib.laidMet.reads hL (.tail _ (.tail _ (.tail _ (.head _)))))
  have hpw:Lib.TabIs Tryz.prog W "internal/strconv.uint64pow10" .u64 Lib.pow10Tab:=Zaa (g:=4) (by kernel_rfl) (by kernel_rfl) Tryz.underlying287 Tryz.underlying123 (by kernel_rfl) (by kernel_rfl) (Lib.laidMet.reads hL (.tail _ (.tail _ (.head _))))
  refine(walk a0 len0 cap0 z0 W w0 hsh hmt htab hpw).mono ?_
  rintro e W' ⟨rfl,bel⟩
  exact⟨_,rfl,_,_,_,[],_,_,hW',trodAll_mk1 (shut_bool Tryz.underlying4 _),(trodAll_cons_mk (Below.trod laidOut (by kernel_rfl) (of_decide_eq_true (by kernel_rfl)) k0 bel lt0) trodAll_mk0),bel.trodVars laidOut (by kernel_rfl) hVk,bel.frame _,fun h=>by cases h⟩
theorem jI:(Rows.fnSameValueRow.inPlace==Program.inPlace Tryz.pinned.checked.prog 6)=true:=by kernel_rfl
theorem jU:(Rows.fnSameValueRow.unfollowed==Program.unfollowed Tryz.pinned.checked.prog 6)=true:=by kernel_rfl
theorem jR:(Rows.fnSameValueRow.recurses==Program.recurses Tryz.pinned.checked.prog 6)=true:=by kernel_rfl
theorem jN:(Rows.fnSameValueRow.named==Program.varsNamed Tryz.pinned.checked.prog 6)=true:=by kernel_rfl
theorem jL:laidOutB Tryz.pinned.checked.prog=true:=laidOut
theorem jM:mapsRowed Tryz.pinned.checked.prog=true:=by kernel_rfl
theorem jF:joinedFacts Tryz.pinned.checked.prog 6 Tryz.f6 (OpenSpec.ofChange Rows.fnSameValueSpec).bare Rows.fnSameValueRow=true:=by
  unfold joinedFacts
  rw[←eq_of_beq jI,←eq_of_beq jU,←eq_of_beq jR,←eq_of_beq jN,jL,jM]
  kernel_rfl
theorem said:Rows.FnSameValueSaid:=
  OpenClaim.holds_of_cond 6 Tryz.f6 rfl rfl rfl rfl rfl rfl rfl ⟨rfl,rfl,rfl,rfl,rfl⟩ rfl rfl rfl rfl rfl (by kernel_rfl) Tryz.func6 jF
    (of_decide_eq_true (by kernel_rfl)) (by unfold Func.isWrapper;first | (rw[if_pos (by decide +kernel)];kernel_rfl) | (rw[if_neg (by decide +kernel)];exact⟨rfl,rfl⟩))
    (fun os started H enc _ F=>by rw[OpenClaim.pre_eq_preRow];exact lifted os started H enc F)
theorem plain(f:FuncId)(fn:Func)(hf:Tryz.pinned.checked.prog.funcNamed "loop.example/g00262/laws.FnSameValue" = some f)(hfn:Tryz.pinned.checked.prog.funcs[f]?=some fn):
    true=Tryz.pinned.checked.prog.looks []∧∀(j:Nat) t,fn.params[j]?=some t→Tryz.pinned.checked.prog.wantsStandIn t=false:=by
  obtain rfl:f=6:=Option.some.inj ((show Tryz.prog.funcNamed "loop.example/g00262/laws.FnSameValue" = some 6 by kernel_rfl).symm.trans hf) |>.symm
  obtain rfl:fn=Tryz.f6:=(Option.some.inj (Tryz.func6.symm.trans hfn)).symm
  refine⟨by kernel_rfl,fun j t ht=>?_⟩
  rw[Tryz.params6]at ht
  have ht':t=22:=by simpa using Array.mem_of_getElem? ht
  rcases ht' with rfl
  · exact(show Tryz.prog.wantsStandIn 22=false by kernel_rfl)
end Go.Proofs.YtcdnilpdohknfaaGreatDoor.fnSameValue
namespace Go.Proofs.YtcdnilpdohknfaaGreatDoor
theorem fnsamevalue_p:Rows.FnSameValueCardSaid:=
  Claim7.holds_tied_plain_at .later [] _ _ _ _ fnSameValue.said (fun _ h=>by cases h) (by kernel_rfl) (fun _ h=>by cases h) fnSameValue_row_tie rfl ⟨rfl,rfl⟩ (by kernel_rfl) rfl fnSameValue.plain (by kernel_rfl)
end Go.Proofs.YtcdnilpdohknfaaGreatDoor
