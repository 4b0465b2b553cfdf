/-
  Texts put together: ItEq, PdW, PaM.
-/
import Derived.Test.YthcggdjkfebemaaGreatDoorB2
import Derived.Test.YthcggdjkfebemaaGreatDoorB18
import Derived.Test.YthcggdjkfebemaaGreatDoorB19
/-
  Contracts: two rows of items that are alike are told so.
-/
namespace Go.Proofs.YthcggdjkfebemaaGreatDoor
open Go.RowKit Go.Joins
set_option linter.unusedVariables false
set_option linter.unusedSimpArgs false
theorem two_items {w w2 : World} {up : Int} {nm tx : ByteArray} {a a' : Option Addr} {n c c' : Nat} {T U : TypeId}
    (k : Below ((w.alloc (.cells #[.int .i64 up, .string nm, .string tx, .slice a n c] T)).alloc (.cells #[.int .i64 up, .string nm, .string tx, .slice a' n c'] U)).heap.size ((w.alloc (.cells #[.int .i64 up, .string nm, .string tx, .slice a n c] T)).alloc (.cells #[.int .i64 up, .string nm, .string tx, .slice a' n c'] U)) w2) :
    ItAt w2 w.heap.size up nm tx a n c ∧ ItAt w2 (w.heap.size + 1) up nm tx a' n c' ∧ Below w.heap.size w w2 := by
  have h1 := itAt_new w up nm tx a n c T
  have h2 := itAt_new (w.alloc (.cells #[.int .i64 up, .string nm, .string tx, .slice a n c] T)) up nm tx a' n c' U
  have st : ∀ (x : World) (o : Obj), Below x.heap.size x (x.alloc o) := fun x o => (Below.refl _ _).alloc (Nat.le_refl _) _
  refine ⟨itAt_go (itAt_go h1 (st _ _)) k, ?_, ?_⟩
  · have := itAt_go h2 k
    simpa using this
  · exact (((Below.refl w.heap.size w).alloc (Nat.le_refl _) _).alloc (by simp) _).trans (k.mono (by simp; omega))
def EQI (w w' : World) (b o b' o' : Nat) (D : Dc) (k : Nat) (ad : Option Addr) (cp : Nat) (ad' : Option Addr) (cp' : Nat) : Prop := Below w.heap.size w w' ∧ (b < w.heap.size ∧ b' < w.heap.size) ∧
  DcCells w' b o D k ad cp ∧ DcCells w' b' o' D k ad' cp' ∧ AtAt w' ad (D.AC k) (D.AN k) (D.AV k) w.heap.size ∧ AtAt w' ad' (D.AC k) (D.AN k) (D.AV k) w.heap.size
section
variable {w w1 w2 : World} {b o b' o' : Nat} {D : Dc} {k : Nat} {ad : Option Addr} {cp : Nat} {ad' : Option Addr} {cp' : Nat}
theorem eqi_go (x : EQI w w1 b o b' o' D k ad cp ad' cp') (h : Below w1.heap.size w1 w2) : EQI w w2 b o b' o' D k ad cp ad' cp' := by
  obtain ⟨hb, ⟨h1, h2⟩, c1, c2, r1, r2⟩ := x
  have hh := h.mono hb.size
  exact ⟨hb.trans hh, ⟨h1, h2⟩, dcCells_go c1 h1 hh, dcCells_go c2 h2 hh, atAt_go r1 hh, atAt_go r2 hh⟩
theorem eqi_drew (x : EQI w w1 b o b' o' D k ad cp ad' cp') : EQI w w1.drew b o b' o' D k ad cp ad' cp' := eqi_go x ⟨rfl, rfl, rfl, Nat.le_refl _, fun _ _ => rfl⟩
theorem eqi_all (x : EQI w w1 b o b' o' D k ad cp ad' cp') : EQI w w1 b o b' o' D k ad cp ad' cp' ∧ (w1.cell? ⟨b, o, none⟩ = some (.int .i64 (D.U k)) ∧ w1.cell? ⟨b, o + 1, none⟩ = some (.string (D.NM k)) ∧ w1.cell? ⟨b, o + 2, none⟩ = some (.string (D.TX k)) ∧ w1.cell? ⟨b, o + 3, none⟩ = some (.slice ad (D.AC k) cp)) ∧ w1.cell? ⟨b', o', none⟩ = some (.int .i64 (D.U k)) ∧ w1.cell? ⟨b', o' + 1, none⟩ = some (.string (D.NM k)) ∧ w1.cell? ⟨b', o' + 2, none⟩ = some (.string (D.TX k)) ∧ w1.cell? ⟨b', o' + 3, none⟩ = some (.slice ad' (D.AC k) cp') := ⟨x, x.2.2.1, x.2.2.2.1⟩
theorem eqi_r1 (x : EQI w w1 b o b' o' D k ad cp ad' cp') : AtAt w1 ad (D.AC k) (D.AN k) (D.AV k) w1.heap.size := atAt_up x.2.2.2.2.1 x.1.size
theorem eqi_r2 (x : EQI w w1 b o b' o' D k ad cp ad' cp') : AtAt w1 ad' (D.AC k) (D.AN k) (D.AV k) w1.heap.size := atAt_up x.2.2.2.2.2 x.1.size
end
end Go.Proofs.YthcggdjkfebemaaGreatDoor

/-
  Contracts: a document's text, by the program and by the specification; the walk of FnExactPrintDoc.
-/
namespace Go.Proofs.YthcggdjkfebemaaGreatDoor
open Go.RowKit Go.Joins
set_option linter.unusedVariables false
set_option linter.unusedSimpArgs false
/-- The text of a document, in one go. -/
def docP (D : Dc) : List UInt8 := outP D D.n ++ tg D (opE D D.n) (-1)
def docV (D : Dc) : ByteArray := if docokB D = true then ⟨(docP D).toArray⟩ else ⟨#[]⟩
theorem docV_no {D : Dc} (h : docokB D = false) : docV D = ⟨#[]⟩ := by unfold docV; rw [h]; rfl
theorem docV_yes {D : Dc} (h : docokB D = true) : docV D = ⟨(docP D).toArray⟩ := by unfold docV; rw [h]; rfl
theorem doc_good9 {D : Dc} (h : docokB D = true) : Good D D.n := itB_good (docok_facts h).2.1
theorem kl_of_doc {D : Dc} (h : docokB D = true) : ∃ b, Kl D 0 1 b D.n ∧ isE (D.NM 0) = false ∧ docP D = itP D 0 b D.n ∧ On D (opE D D.n) (-1) ∧ (docP D).length ≤ 40000 := by
  have hg := doc_good9 h
  obtain ⟨⟨h1, h2⟩, -, hs⟩ := docok_facts h
  obtain ⟨b, e, hk⟩ := kl_some (D := D) D.n 0 1 (by omega)
  obtain ⟨rfl, h3, h4⟩ := kl_doc rfl h1 hg hk
  have h5 := kl_len (fun j hj => doc_ac h hj) hk
  have h6 := it_len (b := b) (e := D.n) (doc_ac h (show 0 < D.n by omega))
  have h7 := wg_sum D D.n
  have h8 : sumN (wgP D) 1 = 0 + wgP D 0 := rfl
  refine ⟨b, hk, (place_zero (hg 0 (by omega))).2, h3.symm, h4, ?_⟩
  unfold docP
  rw [← h3]
  omega
theorem out_mono (D : Dc) : ∀ (k m : Nat), (outP D m).length ≤ (outP D (m + k)).length
  | 0, m => Nat.le_refl _
  | k + 1, m => by
    refine Nat.le_trans (out_mono D k m) ?_
    show _ ≤ (outP D (m + k) ++ tg D (opE D (m + k)) (D.U (m + k)) ++ pcP D (m + k)).length
    simp only [List.length_append]
    omega
theorem bc_len (l : List UInt8) : (Lib.byteCells l).length = l.length := by simp [Lib.byteCells]
theorem bc_str (l : List UInt8) : Lib.strCells (⟨l.toArray⟩ : ByteArray) = Lib.byteCells l := rfl
theorem keepT_it {w w' : World} {G : Nat} {up : Int} {nm tx : ByteArray} {a : Option Addr} {n c : Nat} (h : w.heap[G]? = some (.cells #[.int .i64 up, .string nm, .string tx, .slice a n c] 41 (0, 0))) (k : KeepT w w') : w'.heap[G]? = some (.cells #[.int .i64 up, .string nm, .string tx, .slice a n c] 41 (0, 0)) := k G _ _ (by decide) (by decide) h
theorem it_cells {w : World} {G : Nat} {up : Int} {nm tx : ByteArray} {a : Option Addr} {n c : Nat} (h : w.heap[G]? = some (.cells #[.int .i64 up, .string nm, .string tx, .slice a n c] 41 (0, 0))) : w.cell? ⟨G, 0, none⟩ = some (.int .i64 up) ∧ w.cell? ⟨G, 1, none⟩ = some (.string nm) ∧ w.cell? ⟨G, 2, none⟩ = some (.string tx) ∧ w.cell? ⟨G, 3, none⟩ = some (.slice a n c) := itAt_cells ⟨_, h⟩
theorem bd_go {T e : TypeId} {B b : Nat} {bs : List Value} {w w' : World} (h : Lib.IsBuilder T e B b bs w) (hb : Below w.heap.size w w') : Lib.IsBuilder T e B b bs w' := by
  rcases h with ⟨hB, v, hbk, hown, hne⟩ | ⟨hB, v, hbk, hown, hne⟩
  · exact .inl ⟨hB, v, (hb.block b (Array.getElem?_eq_some_iff.1 hbk).1).trans hbk, gOwn_after hown hb, hne⟩
  · exact .inr ⟨hB, v, (hb.block b (Array.getElem?_eq_some_iff.1 hbk).1).trans hbk, gOwn_after hown hb, hne⟩
theorem box_kept {w w' : World} {G : Nat} {o : Obj} (h : w.heap[G]? = some o) (hb : Below w.heap.size w w') : w'.heap[G]? = some o := (hb.block G (Array.getElem?_eq_some_iff.1 h).1).trans h
set_option maxRecDepth 100000 in
set_option maxHeartbeats 8000000 in
theorem i_printdoc (D : Dc) (n : Nat) (a : Option Addr) (cap : Nat) (w : World) (hD : D.n = n) (hz : dcTot D ≤ 1048576) (hr : DcAt w a D w.heap.size) (hT : Tabs w) :
    Calls Tryz.prog 8 #[.slice a n cap] w fun e w' => e = .returned (.tuple #[.string (docV D), .bool (docokB D)]) ∧ Below w.heap.size w w' := by
  have HD := hide hD
  have HR := hide hr
  have HTT := hide hT
  have CD := hide (i_docok D n a cap w hD hz hr hT)
  clear hr hD hz hT
  cases hd : docokB D
  · have HV := hide (docV_no hd)
    rw [hd] at CD
    go_enter Tryz.func8, Tryz.ntmps8
    go_wp2_with (first | (go_at_call 10; refine CD.out.mono ?_; rintro e w1 ⟨rfl, hb1⟩; have HB := hide hb1; clear hb1))
    go_ret2
    exact ⟨escW_ret HV.out.symm rfl, HB.out⟩
  · have HV := hide (docV_yes hd)
    rw [hd] at CD
    obtain ⟨⟨g1, g2⟩, -, -⟩ := docok_facts hd
    have HG := hide (doc_good9 hd)
    obtain ⟨bx, -, -, -, hon9, hlen9⟩ := kl_of_doc hd
    have HON := hide hon9
    have HAC := hide (fun j (hj : j < D.n) => doc_ac hd hj)
    have HSZ := hide (fun j (hj : j < D.n) => doc_sz hd hj)
    have HET := hide (fun j (hj : j < D.n) => doc_escT hd hj)
    have HEA := hide (fun j (hj : j < D.n) hE k (hk : k < D.AC j) => doc_escA hd hj hE hk)
    have HLN : Hid (∀ k, k ≤ n → (outP D k).length ≤ 40000) := hide (fun k hk => by
      have h1 := out_mono D (D.n - k) k
      rw [show k + (D.n - k) = D.n by rw [HD.out]; omega] at h1
      unfold docP at hlen9
      rw [List.length_append] at hlen9
      omega)
    have hdl := hlen9
    unfold docP at hdl
    rw [List.length_append] at hdl
    rw [HD.out] at g1 g2 HG HAC HSZ HET HEA HON hdl
    have HDL := hide hdl
    have HNM : Hid (∀ j, j < n → (D.NM j).size ≤ 2500) := hide (fun j hj => by have := HSZ.out j hj; omega)
    have HDEC := hide (good_dec n HG.out)
    have HDP : Hid (docP D = outP D n ++ tg D (opE D n) (-1)) := hide (by unfold docP; rw [HD.out])
    obtain ⟨b, off, rfl, hbs, hrow⟩ := HR.out (by rw [HD.out]; omega)
    have HRW := hide hrow
    clear hrow hon9 hlen9 hdl
    go_enter Tryz.func8, Tryz.ntmps8
    go_wp2_with fail
    refine CD.out.mono ?_
    rintro e w1 ⟨rfl, hb1⟩
    have HB := hide hb1
    have hs1 := hb1.size
    clear hb1
    go_wp2
    go_loopw [5, 13] (fun ov iv wr => ∃ k : Nat, k ≤ n ∧ iv = .int .i64 k ∧ ov = .int .i64 (opE D k) ∧ Lib.IsBuilder 38 5 w1.heap.size w1.heap.size (Lib.byteCells (outP D k)) wr ∧ Below w.heap.size w wr) (fun _ iv _ => n - (intOf iv).toNat)
    case atStart => exact ⟨0, Nat.zero_le _, rfl, rfl, Lib.fresh_isBuilder _ _ w1, HB.out.alloc HB.out.size _⟩
    case round =>
      obtain ⟨k, hk, rfl, rfl, hI, hb⟩ := hrel
      have hol := HLN.out k hk
      have hbl := bd_lt hI
      have hop := opE_lt HG.out k hk
      have HI := hide hI
      have HB2 := hide hb
      by_cases hlt : k < n
      · obtain ⟨ad, cp, hc, hat, hcp⟩ := HRW.out k (by rw [HD.out]; omega)
        obtain ⟨c0, c1, c2, c3⟩ := dcCells_go hc hbs hb
        have HAT := hide hat
        have hin : (k : Int) < (n : Int) := by omega
        have hsz := HSZ.out k hlt
        have hac := HAC.out k hlt
        have hut := HDEC.out k hlt
        have HON2 := hide (on_open HD.out HG.out k hlt)
        have htl := tg_len g2 HNM.out HDEC.out HON2.out (by omega)
        have CT := hide (fun (W : World) (hW : Below w.heap.size w W) => i_endTags D n b off cap (opE D k) (D.U k) W HD.out g2 HNM.out HDEC.out (dcRow_up (dcRow_go HRW.out hbs hW) hW.size) (by omega) HON2.out)
        have HO1 : Hid (outP D (k + 1) = outP D k ++ tg D (opE D k) (D.U k) ++ pcP D k) := hide rfl
        have hol2 := HLN.out (k + 1) (by omega)
        have HX1 : Hid (∀ cs T, (wr.alloc (.cells cs T)).heap[wr.heap.size]? = some (.cells cs T (0, 0))) := hide (fun cs T => heap_alloc_new wr _)
        have HST := hide (fun (o : Obj) => ((Below.refl wr.heap.size wr).alloc (Nat.le_refl _) o))
        obtain ⟨TG, hTG⟩ : ∃ TG : ByteArray, (⟨(tg D (opE D k) (D.U k)).toArray⟩ : ByteArray) = TG := ⟨_, rfl⟩
        rw [hTG] at CT
        have HTG : Hid (TG.data.toList = tg D (opE D k) (D.U k)) := hide (by rw [← hTG])
        have HTC : Hid (Lib.strCells TG = Lib.byteCells (tg D (opE D k) (D.U k))) := hide (by rw [← hTG]; rfl)
        have hpl : (outP D k).length + TG.size + (pcP D k).length ≤ 40000 := by
          have h1 := congrArg List.length HO1.out
          have h2 : TG.size = (tg D (opE D k) (D.U k)).length := by rw [← bl, HTG.out]
          simp only [List.length_append] at h1
          omega
        have hbc := bc_len (outP D k)
        have hww := hb.size
        clear hc hat hI hb hTG
        go_wp2_with fail
        refine (CT.out _ (HB2.out.alloc HB2.out.size _)).mono ?_
        rintro e w2 ⟨rfl, rfl⟩
        go_wp2_with fail
        refine (bd_strF w1.heap.size w1.heap.size _ TG _ (bd_go HI.out (HST.out _)) (by omega) (by simp; omega)).mono ?_
        rintro e w3 ⟨rfl, hI3, hb3, hk3⟩
        have HX3 := hide (keepT_it (HX1.out _ _) hk3)
        have HI3 := hide hI3
        have HB3 := hide ((HB2.out.alloc HB2.out.size _).trans (hb3.mono hs1))
        have hbl3 := bd_lt hI3
        clear hk3 hI3 hb3
        obtain ⟨x0, x1, x2, x3⟩ := it_cells HX3.out
        cases hE : (D.NM k).toList.isEmpty
        · have HPC : Hid (pcP D k = if k + 1 < D.n ∧ D.U (k + 1) = k then hdP D k ++ [62] else hdP D k ++ [47, 62]) := hide (by unfold pcP; rw [if_neg (by unfold isE; rw [hE]; decide)])
          have CB := hide (i_beginTag (D.U k) (D.NM k) (D.TX k) ad (D.AC k) cp (D.AN k) (D.AV k) w3 hac (by omega) (HEA.out k hlt hE) (atAt_up (atAt_go HAT.out HB3.out) HB3.out.size) (tabs_below HTT.out HB3.out))
          rw [show [60] ++ (D.NM k).data.toList ++ atsP (D.AN k) (D.AV k) (D.AC k) = hdP D k from rfl] at CB
          obtain ⟨HH, hHH⟩ : ∃ HH : ByteArray, (⟨(hdP D k).toArray⟩ : ByteArray) = HH := ⟨_, rfl⟩
          rw [hHH] at CB
          have HHC : Hid (Lib.strCells HH = Lib.byteCells (hdP D k)) := hide (by rw [← hHH]; rfl)
          have hhl : HH.size = (hdP D k).length := by rw [← hHH]; simp [ByteArray.size]
          have hpl2 : (hdP D k).length + 2 ≤ (pcP D k).length + 1 := by
            rw [HPC.out]
            split <;> simp only [List.length_append, List.length_cons, List.length_nil] <;> omega
          clear hHH
          go_wp2_with fail
          refine CB.out.mono ?_
          rintro e w4 ⟨rfl, hb4⟩
          have HI4 := hide (bd_go HI3.out hb4)
          have HB4 := hide (HB3.out.trans (hb4.mono HB3.out.size))
          have hs4 := hb4.size
          clear hb4 x0 x1 x2 x3
          have hl4 : (Lib.byteCells (outP D k) ++ Lib.strCells TG).length = (outP D k).length + TG.size := by rw [List.length_append, bc_len, HTC.out, bc_len, ← HTG.out, bl]
          go_wp2_with fail
          refine (bd_strF w1.heap.size w1.heap.size _ HH _ HI4.out (by rw [hl4]; omega) (by omega)).mono ?_
          rintro e w5 ⟨rfl, hI5, hb5, -⟩
          have HI5 := hide hI5
          have HB5 := hide (HB4.out.trans (hb5.mono hs1))
          have hbl5 := bd_lt hI5
          have hl5 : (Lib.byteCells (outP D k) ++ Lib.strCells TG ++ Lib.strCells HH).length = (outP D k).length + TG.size + HH.size := by rw [List.length_append, hl4, HHC.out, bc_len, hhl]
          have HL5 := hide hl5
          clear hI5 hb5 hl4 hl5
          by_cases hk1 : k + 1 < n
          · obtain ⟨adm, cpm, hcm, -⟩ := HRW.out (k + 1) (by rw [HD.out]; omega)
            obtain ⟨m0, m1, m2, m3⟩ := dcCells_go hcm hbs HB5.out
            have hki : (k : Int) + 1 < (n : Int) := by omega
            have hkt : ((k : Int) + 1).toNat = k + 1 := by omega
            clear hcm m1 m2 m3
            by_cases hu : D.U (k + 1) = (k : Int)
            · have hub : (D.U (k + 1) == (k : Int)) = true := by simpa using hu
              have HPC2 : Hid (pcP D k = hdP D k ++ [62]) := hide (by rw [HPC.out, if_pos ⟨by rw [HD.out]; exact hk1, hu⟩])
              have HOP : Hid (opE D (k + 1) = (k : Int)) := hide (by rw [opE_succ, if_pos ⟨by unfold isE; exact hE, by rw [HD.out]; exact hk1, hu⟩])
              clear hu
              go_wp2_with fail
              refine (bd_strF w1.heap.size w1.heap.size _ ⟨#[62]⟩ _ HI5.out (by rw [HL5.out]; show _ + 1 ≤ 1048576; omega) (by omega)).mono ?_
              rintro e w6 ⟨rfl, hI6, hb6, -⟩
              have HI6 := hide hI6
              have HB6 := hide (HB5.out.trans (hb6.mono hs1))
              clear hI6 hb6
              go_wp2
              go_roundw
              case rel =>
                refine ⟨k + 1, by omega, by go_num, by rw [HOP.out], ?_, HB6.out⟩
                rw [HO1.out, HPC2.out, bc_app, bc_app, bc_app, ← HTC.out, ← HHC.out, ← List.append_assoc]
                exact HI6.out
              case measure => simp [intOf]; omega
            · have hub : (D.U (k + 1) == (k : Int)) = false := by simpa using hu
              have HPC2 : Hid (pcP D k = hdP D k ++ [47, 62]) := hide (by rw [HPC.out, if_neg (fun h => hu h.2)])
              have HOP : Hid (opE D (k + 1) = D.U k) := hide (by rw [opE_succ, if_neg (fun h => hu h.2.2)])
              clear hu
              go_wp2_with fail
              refine (bd_strF w1.heap.size w1.heap.size _ ⟨#[47, 62]⟩ _ HI5.out (by rw [HL5.out]; show _ + 2 ≤ 1048576; omega) (by omega)).mono ?_
              rintro e w6 ⟨rfl, hI6, hb6, -⟩
              have HI6 := hide hI6
              have HB6 := hide (HB5.out.trans (hb6.mono hs1))
              clear hI6 hb6
              go_wp2
              go_roundw
              case rel =>
                refine ⟨k + 1, by omega, by go_num, by rw [HOP.out], ?_, HB6.out⟩
                rw [HO1.out, HPC2.out, bc_app, bc_app, bc_app, ← HTC.out, ← HHC.out, ← List.append_assoc]
                exact HI6.out
              case measure => simp [intOf]; omega
          · have hki : ¬ (k : Int) + 1 < (n : Int) := by omega
            have HPC2 : Hid (pcP D k = hdP D k ++ [47, 62]) := hide (by rw [HPC.out, if_neg (fun h => by have := h.1; rw [HD.out] at this; exact hk1 this)])
            have HOP : Hid (opE D (k + 1) = D.U k) := hide (by rw [opE_succ, if_neg (fun h => by have := h.2.1; rw [HD.out] at this; exact hk1 this)])
            go_wp2_with fail
            refine (bd_strF w1.heap.size w1.heap.size _ ⟨#[47, 62]⟩ _ HI5.out (by rw [HL5.out]; show _ + 2 ≤ 1048576; omega) (by omega)).mono ?_
            rintro e w6 ⟨rfl, hI6, hb6, -⟩
            have HI6 := hide hI6
            have HB6 := hide (HB5.out.trans (hb6.mono hs1))
            clear hI6 hb6
            go_wp2
            go_roundw
            case rel =>
              refine ⟨k + 1, by omega, by go_num, by rw [HOP.out], ?_, HB6.out⟩
              rw [HO1.out, HPC2.out, bc_app, bc_app, bc_app, ← HTC.out, ← HHC.out, ← List.append_assoc]
              exact HI6.out
            case measure => simp [intOf]; omega
        · have HPC : Hid (pcP D k = txP D k) := hide (by unfold pcP; rw [if_pos (by unfold isE; exact hE)])
          have HOP : Hid (opE D (k + 1) = D.U k) := hide (by rw [opE_succ, if_neg (fun h => by have := h.1; unfold isE at this; rw [hE] at this; cases this)])
          have CB := hide (i_escaped false (D.TX k) w3 (HET.out k hlt hE) (tabs_below HTT.out HB3.out))
          rw [show escL false (D.TX k).data.toList = txP D k from rfl] at CB
          obtain ⟨HH, hHH⟩ : ∃ HH : ByteArray, (⟨(txP D k).toArray⟩ : ByteArray) = HH := ⟨_, rfl⟩
          rw [hHH] at CB
          have HHC : Hid (Lib.strCells HH = Lib.byteCells (txP D k)) := hide (by rw [← hHH]; rfl)
          have hhl : HH.size = (pcP D k).length := by rw [← hHH, HPC.out]; simp [ByteArray.size]
          clear hHH
          go_wp2_with fail
          refine CB.out.mono ?_
          rintro e w4 ⟨rfl, hb4⟩
          have HI4 := hide (bd_go HI3.out hb4)
          have HB4 := hide (HB3.out.trans (hb4.mono HB3.out.size))
          have hs4 := hb4.size
          clear hb4 x0 x1 x2 x3
          have hl4 : (Lib.byteCells (outP D k) ++ Lib.strCells TG).length = (outP D k).length + TG.size := by rw [List.length_append, bc_len, HTC.out, bc_len, ← HTG.out, bl]
          go_wp2_with fail
          refine (bd_strF w1.heap.size w1.heap.size _ HH _ HI4.out (by rw [hl4]; omega) (by omega)).mono ?_
          rintro e w5 ⟨rfl, hI5, hb5, -⟩
          have HI5 := hide hI5
          have HB5 := hide (HB4.out.trans (hb5.mono hs1))
          clear hI5 hb5 hl4
          go_wp2
          go_roundw
          case rel =>
            refine ⟨k + 1, by omega, by go_num, by rw [HOP.out], ?_, HB5.out⟩
            rw [HO1.out, HPC.out, bc_app, bc_app, ← HTC.out, ← HHC.out]
            exact HI5.out
          case measure => simp [intOf]; omega
      · have hkn : k = n := by omega
        subst hkn
        have CT := hide (i_endTags D k b off cap (opE D k) (-1) wr HD.out g2 HNM.out HDEC.out (dcRow_up (dcRow_go HRW.out hbs hb) hb.size) (by omega) HON.out)
        obtain ⟨TG, hTG⟩ : ∃ TG : ByteArray, (⟨(tg D (opE D k) (-1)).toArray⟩ : ByteArray) = TG := ⟨_, rfl⟩
        rw [hTG] at CT
        have HTC : Hid (Lib.strCells TG = Lib.byteCells (tg D (opE D k) (-1))) := hide (by rw [← hTG]; rfl)
        have hts : TG.size = (tg D (opE D k) (-1)).length := by rw [← hTG]; simp [ByteArray.size]
        have hdl := HDL.out
        have hbc := bc_len (outP D k)
        have hww := hb.size
        clear hI hb hTG
        go_wp2_with fail
        refine CT.out.mono ?_
        rintro e w2 ⟨rfl, rfl⟩
        go_wp2_with fail
        refine (bd_strF w1.heap.size w1.heap.size _ TG _ HI.out (by omega) (by omega)).mono ?_
        rintro e w3 ⟨rfl, hI3, hb3, -⟩
        have hI4 : Lib.IsBuilder 38 5 w1.heap.size w1.heap.size (Lib.byteCells (docP D)) w3 := by
          rw [HDP.out, bc_app, ← HTC.out]
          exact hI3
        have hdl9 : (docP D).length ≤ 40000 := by rw [HDP.out, List.length_append]; exact hdl
        have HI4 := hide hI4
        have hbl3 := bd_lt hI4
        have HB3 := hide (HB2.out.trans (hb3.mono hs1))
        clear hI3 hI4 hb3
        go_wp2_with (first | (go_at_call 21; refine (Tryz.Builder_String_any w1.heap.size w1.heap.size (docP D) _ HI4.out (by omega)).mono ?_; rintro e w4 ⟨rfl, hb4⟩; have HB4 := hide (HB3.out.trans (hb4.mono hs1)); clear hb4))
        go_ret2
        exact ⟨escW_ret HV.out.symm rfl, HB4.out⟩
set_option maxHeartbeats 4000000 in
theorem s_printdoc (D : Dc) (n : Nat) (a : Option Addr) (cap : Nat) (w : World) (hD : D.n = n) (hz : dcTot D ≤ 1048576) (hr : DcAt w a D w.heap.size) :
    Calls Tryz.prog 9 #[.slice a n cap] w fun e w' => e = .returned (.tuple #[.string (docV D), .bool (docokB D)]) ∧ Below w.heap.size w w' := by
  have HD := hide hD
  have HR := hide hr
  have CD := hide (s_docok D n a cap w hD hz hr)
  clear hr hD hz
  cases hd : docokB D
  · have HV := hide (docV_no hd)
    rw [hd] at CD
    go_enter Tryz.func9, Tryz.ntmps9
    go_wp2_with (first | (go_at_call 22; refine CD.out.mono ?_; rintro e w1 ⟨rfl, hb1⟩; have HB := hide hb1; clear hb1))
    go_ret2
    exact ⟨escW_ret HV.out.symm rfl, HB.out⟩
  · have HV := hide (docV_yes hd)
    rw [hd] at CD
    obtain ⟨⟨g1, g2⟩, -, hsum⟩ := docok_facts hd
    obtain ⟨bx, hk, hE, hp, -, -⟩ := kl_of_doc hd
    rw [HD.out] at g1 g2 hsum hk hp
    obtain ⟨b, off, rfl, hbs, hrow⟩ := HR.out (by rw [HD.out]; omega)
    have CP := hide (fun (w1 : World) (h1 : b < w1.heap.size) (h2 : DcRow w1 b off D w1.heap.size) => s_print D n b off cap HD.out g2 (fun j hj => doc_ac hd (by rw [HD.out]; exact hj)) hsum (n + 1) 0 (by omega) (by omega) bx n (fun h => by rw [hE] at h; cases h) (fun _ => hk) w1 h1 h2)
    rw [prP_e hE, ← hp, ← HV.out] at CP
    have HRW := hide hrow
    clear hrow hk hp hsum hE
    obtain ⟨V, hV⟩ : ∃ V, docV D = V := ⟨_, rfl⟩
    rw [hV] at CP ⊢
    clear hV HV
    go_enter Tryz.func9, Tryz.ntmps9
    go_wp2_with fail
    refine CD.out.mono ?_
    rintro e w1 ⟨rfl, hb1⟩
    have CP1 := hide (CP.out w1 (Nat.lt_of_lt_of_le hbs hb1.size) (dcRow_up (dcRow_go HRW.out hbs hb1) hb1.size))
    have HB := hide hb1
    clear hb1
    go_wp2_with (first | (go_at_call 23; refine CP1.out.mono ?_; rintro e w2 ⟨rfl, hb2⟩; have HB2 := hide (HB.out.trans (hb2.mono HB.out.size)); clear hb2))
    go_ret2
    exact ⟨escW_ret rfl rfl, HB2.out⟩
end Go.Proofs.YthcggdjkfebemaaGreatDoor

/-
  Plain facts on printed documents, as a reader meets them from the beginning on. No step of the program in this text.
-/
namespace Go.Proofs.YthcggdjkfebemaaGreatDoor
open Go.RowKit
set_option linter.unusedVariables false
set_option linter.unusedSimpArgs false
/-- Down to which element what is open must be closed ahead of item i. -/
def tgt (D : Dc) (i : Nat) : Int := if i < D.n then D.U i else -1
theorem tgt_in {D : Dc} {i : Nat} (h : i < D.n) : tgt D i = D.U i := by unfold tgt; rw [if_pos h]
theorem tgt_end {D : Dc} : tgt D D.n = -1 := by unfold tgt; rw [if_neg (Nat.lt_irrefl _)]
def rmF (D : Dc) : Nat → Nat → List UInt8
  | 0, _ => []
  | f + 1, i => pcP D i ++ (tg D (opE D (i + 1)) (tgt D (i + 1)) ++ rmF D f (i + 1))
/-- What is still to be read, with i items read and o open. -/
def Rm (D : Dc) (i : Nat) (o : Int) : List UInt8 := tg D o (tgt D i) ++ rmF D (D.n - i) i
theorem out_rm {D : Dc} : ∀ (f i : Nat), f = D.n - i → i ≤ D.n → outP D D.n ++ tg D (opE D D.n) (-1) = outP D i ++ (tg D (opE D i) (tgt D i) ++ rmF D f i)
  | 0, i, hf, hi => by
    have e : i = D.n := by omega
    rw [e, tgt_end, rmF, List.append_nil]
  | f + 1, i, hf, hi => by
    rw [out_rm f (i + 1) (by omega) (by omega)]
    have e : outP D (i + 1) = outP D i ++ tg D (opE D i) (D.U i) ++ pcP D i := rfl
    rw [e, tgt_in (show i < D.n by omega), rmF]
    simp only [List.append_assoc]
/-- Where the reader may be. -/
def RPos (D : Dc) (i : Nat) (o : Int) : Prop := 1 ≤ i ∧ i ≤ D.n ∧ -1 ≤ o ∧ o < i ∧ On D o (tgt D i)
theorem on_neg {D : Dc} {a x : Int} (h : On D a x) (ha : a < 0) : x = a := by
  cases h with
  | here => rfl
  | up h0 _ => omega
theorem rm_open {D : Dc} {i : Nat} (hi : i < D.n) : Rm D i (D.U i) = pcP D i ++ Rm D (i + 1) (opE D (i + 1)) := by
  unfold Rm
  rw [tgt_in hi, tg_hit, List.nil_append, show D.n - i = (D.n - (i + 1)) + 1 by omega, rmF]
theorem rm_end {D : Dc} : Rm D D.n (-1) = [] := by
  unfold Rm
  rw [tgt_end, tg_hit, Nat.sub_self]
  rfl
theorem po_tgt {D : Dc} {i : Nat} {o : Int} (hp : RPos D i o) (h0 : 0 ≤ o) (he : o = tgt D i) : i < D.n ∧ o = D.U i := by
  rcases Nat.lt_or_ge i D.n with hi | hi
  · exact ⟨hi, by rw [he, tgt_in hi]⟩
  · exfalso
    have e : i = D.n := by have := hp.2.1; omega
    rw [e, tgt_end] at he
    omega
theorem op_text {D : Dc} {i : Nat} (ht : isE (D.NM i) = true) : opE D (i + 1) = D.U i := by rw [opE_succ, if_neg (by rw [ht]; rintro ⟨h, _⟩; cases h)]
section
variable {D : Dc} (h : docokB D = true)
include h
theorem doc_up : ∀ j, j < D.n → -1 ≤ D.U j ∧ D.U j < j := good_dec D.n (doc_good9 h)
theorem doc_rm : docP D = pcP D 0 ++ Rm D 1 (opE D 1) := by
  have hn := (docok_facts h).1.1
  have h1 := out_rm (D := D) D.n 0 rfl (Nat.zero_le _)
  unfold docP
  rw [h1]
  have e : D.n = (D.n - 1) + 1 := by omega
  have hz := (place_zero (doc_good9 h 0 (by omega))).1
  rw [tgt_in (show 0 < D.n by omega), hz, opE_zero, tg_hit]
  show [] ++ ([] ++ rmF D D.n 0) = _
  rw [List.nil_append, List.nil_append]
  unfold Rm
  rw [show rmF D D.n 0 = rmF D ((D.n - 1) + 1) 0 by rw [← e], rmF]
theorem po_next {i : Nat} (hi : i < D.n) : RPos D (i + 1) (opE D (i + 1)) := by
  have hl := opE_lt (doc_good9 h) (i + 1) (by omega)
  refine ⟨by omega, by omega, hl.1, by omega, ?_⟩
  by_cases hn : i + 1 < D.n
  · rw [tgt_in hn]
    exact on_open rfl (doc_good9 h) (i + 1) hn
  · have e : i + 1 = D.n := by omega
    rw [e, tgt_end]
    obtain ⟨b, -, -, -, h4, -⟩ := kl_of_doc h
    exact h4
theorem po_close {i : Nat} {o : Int} (hp : RPos D i o) (hne : o ≠ tgt D i) : 0 ≤ o ∧ o.toNat < i ∧ Rm D i o = clP D o.toNat ++ Rm D i (D.U o.toNat) ∧ RPos D i (D.U o.toNat) := by
  obtain ⟨h1, h2, h3, h4, h5⟩ := hp
  cases h5 with
  | here => exact absurd rfl hne
  | up h0 h6 =>
    have hd := doc_up h o.toNat (by omega)
    refine ⟨h0, by omega, ?_, h1, h2, hd.1, by omega, h6⟩
    unfold Rm
    rw [tg_up (doc_up h) h0 (by omega) hne h6, List.append_assoc]
theorem up_pos {i : Nat} (h0 : 0 < i) (hi : i < D.n) : 0 ≤ D.U i := by
  have hr := place_rc (by omega) (doc_good9 h i hi)
  have : ∀ (f : Nat) (a t : Int), rcF D.U t f a = true → 0 ≤ t := by
    intro f
    induction f with
    | zero => intro a t h; cases h
    | succ f ih =>
      intro a t h
      rw [rcF] at h
      split at h
      · cases h
      · split at h
        · rename_i h1 h2; subst h2; omega
        · exact ih _ _ h
  unfold rc at hr
  exact this _ _ _ hr
theorem po_done {i : Nat} (hp : RPos D i (-1)) : i = D.n := by
  obtain ⟨h1, h2, h3, h4, h5⟩ := hp
  rcases Nat.lt_or_ge i D.n with hi | hi
  · exfalso
    rw [tgt_in hi] at h5
    have hu := up_pos h (by omega) hi
    have := on_neg h5 (by omega)
    omega
  · omega
theorem text_part {i : Nat} (hi : i < D.n) (ht : isE (D.NM i) = true) : D.TX i ≠ ⟨#[]⟩ ∧ D.AC i = 0 ∧ plainB (D.TX i) = true := by
  have hp := doc_part h hi
  unfold partB at hp
  unfold isE at ht
  rw [if_pos ht] at hp
  simp only [Bool.and_eq_true, Bool.not_eq_true', beq_iff_eq] at hp
  refine ⟨fun e => ?_, by omega, hp.2.2⟩
  rw [e] at hp
  exact absurd hp.1 (by simp [ByteArray.toList_eq])
theorem elem_part {i : Nat} (hi : i < D.n) (ht : isE (D.NM i) = false) : D.TX i = ⟨#[]⟩ ∧ qualB (D.NM i) = true ∧ attrsB (D.AC i) (D.AN i) (D.AV i) = true := by
  have hp := doc_part h hi
  unfold partB at hp
  unfold isE at ht
  rw [if_neg (by rw [ht]; decide)] at hp
  simp only [Bool.and_eq_true] at hp
  refine ⟨?_, hp.2.1, hp.2.2⟩
  have h1 := hp.1
  rw [ByteArray.toList_eq] at h1
  simp at h1
  exact ByteArray.ext h1
theorem no_dup {i : Nat} (h0 : 0 < i) (hi : i < D.n) (h1 : isE (D.NM (i - 1)) = true) (h2 : D.U (i - 1) = D.U i) : isE (D.NM i) = false := by
  have hg := doc_good9 h i hi
  unfold placeB at hg
  rw [if_neg (by omega)] at hg
  unfold dupB at hg
  rw [h1, h2] at hg
  simp at hg
  exact hg.1
theorem rm_lt {i : Nat} {o : Int} (hp : RPos D i o) (h0 : 0 ≤ o) (hE : i < D.n → o = D.U i → isE (D.NM i) = false) : ∃ l, Rm D i o = 60 :: l := by
  by_cases he : o = tgt D i
  · obtain ⟨hi, hu⟩ := po_tgt hp h0 he
    rw [hu, rm_open hi]
    unfold pcP
    rw [if_neg (by rw [hE hi hu]; decide)]
    unfold hdP
    split
    · exact ⟨_, rfl⟩
    · exact ⟨_, rfl⟩
  · obtain ⟨h1, h2, h3, h4⟩ := po_close h hp he
    rw [h3]
    unfold clP
    exact ⟨_, rfl⟩
end
end Go.Proofs.YthcggdjkfebemaaGreatDoor
