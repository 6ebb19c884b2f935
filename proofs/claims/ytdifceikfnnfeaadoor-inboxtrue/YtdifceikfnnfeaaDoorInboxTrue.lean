/-
  The law InboxTrue: the document's set of a report's blocks has the cumulative number and the numbers above it that the box has. Conditions: none but what the card ties.
-/
import Derived.Test.YtdifceikfnnfeaaDoorCards
import Derived.Test.YtdifceikfnnfeaaDoorTie
import Derived.WalkKit
import Derived.ProofKit
import Derived.OpenShut
import Derived.ShutString
import Derived.ChangeOld
import Derived.Below
import Derived.SizedLaws
import Derived.Deep.DeepHandedRow
import Derived.Lib.LaidTab
import Derived.Test.YtdifceikfnnfeaaDoorInV
import Derived.Test.YtdifceikfnnfeaaDoorInArgs
namespace Go.Proofs.YtdifceikfnnfeaaDoor.inboxTrue
open Go.ChangeShapes Go.WideShapes Go.ChangeAt Go.RowKit
set_option linter.unusedVariables false

theorem own : ownKnob Tryd.prog.godebug = none := by kernel_rfl
theorem laidOut : laidOutB Tryd.prog = true := by kernel_rfl
theorem gTab : Tryd.prog.globalNamed "math/bits.deBruijn64tab" = some 0 := by kernel_rfl
theorem gTabType : (Tryd.prog.globals[0]?).map (·.type) = some 120 := by kernel_rfl
theorem table {W : World} (h : laidMetH Tryd.prog Rows.inboxTrueRow.laid W) : Sp.Tab W := fun i hi =>
  (show Lib.TabIs Tryd.prog W "math/bits.deBruijn64tab" .u8 Sp.tab64 from
    Lib.tabIs_of_head (rest := []) gTab gTabType Tryd.underlying120 Tryd.underlying5 (by kernel_rfl) (by kernel_rfl) h).cell gTab i hi

open Ba (hidden Has cell_lt heap_lt)

set_option maxRecDepth 20000 in
set_option maxHeartbeats 1000000 in
theorem walk (a0 : Int) (a1 : Int) (a2 : Bool) (a3 : Option Addr) (len3 cap3 : Nat) (z3 : List Sp.Inb.OA) (w : World) (w0 : (Lit.int .u32 a0).wf = true) (w1 : (Lit.int .i64 a1).wf = true)  (w3 : Sp.Inb.Ops w a3 len3 z3) (ht : Sp.Tab w) :
    Calls Tryd.prog 4 #[.int .u32 a0, .int .i64 a1, .bool a2, .slice a3 len3 cap3] w fun e w' => e = .returned (.bool true) ∧ Below w.heap.size w w' := by
  have AL := hidden (fun (X : World) (hX : Below w.heap.size w X) => Sp.Inb.alive X (ht.below hX (by have := cell_lt (ht 0 (by decide)); exact this)))
  have hb0 := Ser.b32 w0
  obtain ⟨f0, rfl⟩ := Int.eq_ofNat_of_zero_le hb0.1
  have hf0 : f0 < 4294967296 := by omega
  have MD := hidden (Sp.Inb.made_ (first := f0) hf0 a1 a2 w ht cap3 w3)
  have EF : Hid (∀ (args : Array Value) (w : World), (callFunc 15 args).run Tryd.prog w = .ok (.enter 15 args) w) := enters_of Tryd.func15 (by kernel_rfl) rfl
  clear ht hb0
  generalize hfI : ((f0 : Nat) : Int) = fI at *
  go_enter Tryd.func4, Tryd.ntmps4
  go_wp2_with fail
  refine Calls.mono MD.out ?_
  rintro e w1 (⟨rfl, hB⟩ | ⟨hd, b, bc, bf, r, bs, rfl, v, fx, dp, P, hX, hB⟩)
  · have HA := hidden (AL.out w1 hB)
    have HB := hidden hB
    clear hB
    go_wp2_with fail
    refine Calls.mono HA.out ?_
    rintro e X ⟨rfl, hX⟩
    have FN := hidden (HB.out.trans (hX.mono HB.out.size))
    clear hX
    go_wp2
    go_ret
    exact ⟨rfl, FN.out⟩
  · have hK1 : min len3 200 ≤ 1000 := by omega
    have hok := hX.ok
    generalize Sp.Inb.runS (z3.take (min len3 200)) (Sp.Inb.newS fI a1 a2) = s at *
    generalize min len3 200 = K1 at *
    have RP := hidden (Sp.Inb.Report_ok hX.cd hok 1 4096 (by decide))
    have BL := hidden (fun (x : World) (h : Sp.Inb.Mod (Sp.Inb.FC b bc bf v) w1 x) => (hB.trans (h.below hX.cd.hn hX.cd.fc_ge) : Below w.heap.size w x))
    have HOK := hidden hok
    clear hX hB hok MD
    go_wp2_with fail
    refine Calls.mono RP.out ?_
    rintro e x6 ⟨V, rfl, hV, hC6, hM6⟩
    have hV : Sp.Inb.Rg_ w1.heap.size x6 _ _ _ _ _ _ V := hV
    obtain ⟨Y, cs, u1, u2, rfl, st, hBY, hlY, k2, k10, k11, hu1, hu2⟩ := hV.rows
    have STO := hidden st
    have HBY := hidden ((BL.out _ hM6).trans (hBY.mono (BL.out _ hM6).size))
    have HCY := hidden (hC6.later hBY)
    obtain ⟨v2, W2, v3, W3, a2_, a3_, l1_, l2_, l3_, o3_⟩ := Sp.Inb.two_rows hu1 hu2 (Sp.Inb.repG_facts HOK.out hK1).2.2.2.1
    have HA2 := hidden a2_
    have HA3 := hidden a3_
    have HL1 := hidden l1_
    have HL2 := hidden l2_
    have HL3 := hidden l3_
    obtain ⟨cb_, hcb⟩ : ∃ c, x6.heap.size = c := ⟨_, rfl⟩
    rw [hcb] at k2 k10 k11 hlY
    have FR0 := (Sp.Inb.from_rep HOK.out hK1 o3_)
    have FR0 := FR0.mono (R' := fun e w' => ∃ q : Nat, e = .returned (.tuple #[.pointer (some ⟨q, 0, none⟩), .int .i64 0]) ∧ (Sp.IsRef w' q s.c s.L ∧ Below Y.heap.size Y w')) (by
      rintro e w' ⟨q, rfl, h1, h2⟩
      exact ⟨q, rfl, h1, l3_.trans (h2.mono l3_.size)⟩)
    obtain ⟨RR, hRR⟩ : ∃ RR : Nat → World → Prop, RR = fun q w' => Sp.IsRef w' q s.c s.L ∧ Below Y.heap.size Y w' := ⟨_, rfl⟩
    have FR : Hid (Calls Tryd.prog 15 #[.int .u32 (s.c : Int), v3] W3 fun e w' => ∃ q : Nat, e = .returned (.tuple #[.pointer (some ⟨q, 0, none⟩), .int .i64 0]) ∧ RR q w') := by
      rw [hRR]; exact FR0
    have HRR : Hid (∀ q w', RR q w' → Sp.IsRef w' q s.c s.L ∧ Below Y.heap.size Y w') := fun q w' h => by rw [hRR] at h; exact h
    have LD2 : Hid (∀ X, Below Y.heap.size Y X → (Instr.loadAt 22 (.pointer (some ⟨cb_, 2, none⟩))).run Tryd.prog X = .ok (.int .u32 (s.c : Int)) X) := fun X hX => by
      have e := (hX.cell (p := ⟨cb_, 2, none⟩) hlY).trans k2
      simp [go_sem, e]
    obtain ⟨a1_, n1_, hu1e⟩ := Ba.own_len hu1
    obtain ⟨a2__, n2_, hu2e⟩ := Ba.own_len hu2
    have LD10 : Hid (∀ X, Below Y.heap.size Y X → (Instr.loadAt 42 (.pointer (some ⟨cb_, 10, none⟩))).run Tryd.prog X = .ok u1 X) := fun X hX => by
      have e := (hX.cell (p := ⟨cb_, 10, none⟩) hlY).trans k10
      rw [hu1e] at e ⊢
      simp [go_sem, e]
    have LD11 : Hid (∀ X, Below Y.heap.size Y X → (Instr.loadAt 42 (.pointer (some ⟨cb_, 11, none⟩))).run Tryd.prog X = .ok u2 X) := fun X hX => by
      have e := (hX.cell (p := ⟨cb_, 11, none⟩) hlY).trans k11
      rw [hu2e] at e ⊢
      simp [go_sem, e]
    clear hV hC6 hM6 st hBY hu1 hu2 hu1e hu2e a2_ a3_ l1_ l2_ l3_ o3_ FR0 hRR RP BL
    generalize hcI : (s.c : Int) = cI at *
    go_wp2_with (first | (refine Sp.Inb.wpList_alA rfl 46 rfl (Sp.Inb.alloc_ch _) ?_) | (refine Sp.Inb.wpList_stA rfl 46 _ _ rfl rfl rfl rfl STO.out ?_) | fail)
    try rw [hcb]
    refine Ord.wp_region_ex0 (X := Nat) (by kernel_rfl) 71 (fun x => [(some 36, .pointer (some ⟨cb_, 2, none⟩)), (some 37, .int .u32 cI), (some 38, .slice (some ⟨Y.heap.size, 0, none⟩) 0 0), (some 39, .pointer (some ⟨cb_, 10, none⟩)), (some 40, u1), (some 41, v2), (some 42, .pointer (some ⟨cb_, 11, none⟩)), (some 43, u2), (some 44, v3), (some 45, .tuple #[.pointer (some ⟨x, 0, none⟩), .int .i64 0]), (some 35, .tuple #[.pointer (some ⟨x, 0, none⟩), .int .i64 0]), (some 46, .pointer (some ⟨x, 0, none⟩)), (some 47, .int .i64 0), (some 14, .pointer (some ⟨x, 0, none⟩)), (some 15, .int .i64 0)]) [some 36, some 37, some 38, some 39, some 40, some 41, some 42, some 43, some 44, some 45, some 35, some 46, some 47, some 14, some 15] rfl (fun listed hsz hr => Ord.all_listedC (rank := [0, 1, 2, 3, 4, 5, 6, 7, 8, 9, 10, 11, 12, 13, 14]) (by kernel_rfl) hsz hr) (by rfl) (fun _ => rfl) (by kernel_rfl) (Rg.StM [2, 5, 8, 9] (fun sk sx w' => Sp.Inb.ApB Y W2 W3 RR sk sx w')) (fun _ _ _ _ hL h => h.ext (n := 15) (by decide) hL) ?_ ?_ 0 ?_
    case refine_1 =>
      intro x Lq iq oq ac w' ho hi hcl hdep hF hW
      have f1 : ac.tmps.size = 71 := hF.1
      match iq, ho, hi, hdep with
      | 0, ho, hi, hdep =>
        cases ho
        have da0 : ac.eval (.tmp 12) = .pointer (some ⟨cb_, 0, none⟩) := hF.old 12 rfl
        exact Ord.ex_value x rfl rfl (Rg.fa da0 rfl (by simp [go_sem])) rfl (hW.keep (by decide))
      | 1, ho, hi, hdep =>
        cases ho
        have da0 : ac.eval (.tmp 36) = .pointer (some ⟨cb_, 2, none⟩) := hF.2.2.2 0 36 _ rfl (hdep ⟨0, .data⟩ (by simp) rfl)
        obtain ⟨kq, hlo, hhi, hA⟩ := hW.range 0 3 (.inl rfl) (.inr ⟨9, rfl, (Rg.no_of (fun h => hcl 9 _ rfl (h) ⟨1, .data⟩ (by simp) rfl) hi)⟩)
        exact Ord.ex_value x rfl rfl (Rg.load da0 rfl (LD2.out _ (hA.bel (by omega)))) rfl (hW.keep (by decide))
      | 2, ho, hi, hdep =>
        cases ho
        have hA := hW.at (k := 0) rfl hi (.inl rfl)
        have hw := hA.h0 rfl
        subst hw
        exact Ord.ex_value x rfl rfl (Rg.bsl (xs := #[]) rfl (by simp) (Sp.Inb.bsG _)) rfl (hW.next (k := 0) rfl (by decide) hi (.inl rfl) (Sp.Inb.ApB.s1 HL1.out))
      | 3, ho, hi, hdep =>
        cases ho
        have da0 : ac.eval (.tmp 12) = .pointer (some ⟨cb_, 0, none⟩) := hF.old 12 rfl
        exact Ord.ex_value x rfl rfl (Rg.fa da0 rfl (by simp [go_sem])) rfl (hW.keep (by decide))
      | 4, ho, hi, hdep =>
        cases ho
        have da0 : ac.eval (.tmp 39) = .pointer (some ⟨cb_, 10, none⟩) := hF.2.2.2 3 39 _ rfl (hdep ⟨3, .data⟩ (by simp) rfl)
        obtain ⟨kq, hlo, hhi, hA⟩ := hW.range 0 1 (.inl rfl) (.inr ⟨5, rfl, (Rg.no_of (fun h => hcl 5 _ rfl (h) ⟨4, .data⟩ (by simp) rfl) hi)⟩)
        exact Ord.ex_value x rfl rfl (Rg.load da0 rfl (LD10.out _ (hA.bel (by omega)))) rfl (hW.keep (by decide))
      | 5, ho, hi, hdep =>
        cases ho
        have da0 : ac.eval (.tmp 38) = .slice (some ⟨Y.heap.size, 0, none⟩) 0 0 := hF.2.2.2 2 38 _ rfl (hdep ⟨2, .data⟩ (by simp) rfl)
        have da1 : ac.eval (.tmp 40) = u1 := hF.2.2.2 4 40 _ rfl (hdep ⟨4, .data⟩ (by simp) rfl)
        have hA := hW.at (k := 1) rfl hi (.inr ⟨2, rfl, (hdep ⟨2, .data⟩ (by simp) rfl)⟩)
        have hw := hA.h1 rfl
        subst hw
        exact Ord.ex_value x rfl rfl (Rg.app da0 da1 rfl HA2.out) rfl (hW.next (k := 1) rfl (by decide) hi (.inr ⟨2, rfl, (hdep ⟨2, .data⟩ (by simp) rfl)⟩) (Sp.Inb.ApB.s2 HL2.out))
      | 6, ho, hi, hdep =>
        cases ho
        have da0 : ac.eval (.tmp 12) = .pointer (some ⟨cb_, 0, none⟩) := hF.old 12 rfl
        exact Ord.ex_value x rfl rfl (Rg.fa da0 rfl (by simp [go_sem])) rfl (hW.keep (by decide))
      | 7, ho, hi, hdep =>
        cases ho
        have da0 : ac.eval (.tmp 42) = .pointer (some ⟨cb_, 11, none⟩) := hF.2.2.2 6 42 _ rfl (hdep ⟨6, .data⟩ (by simp) rfl)
        obtain ⟨kq, hlo, hhi, hA⟩ := hW.range 0 2 (.inl rfl) (.inr ⟨8, rfl, (Rg.no_of (fun h => hcl 8 _ rfl (h) ⟨7, .data⟩ (by simp) rfl) hi)⟩)
        exact Ord.ex_value x rfl rfl (Rg.load da0 rfl (LD11.out _ (hA.bel (by omega)))) rfl (hW.keep (by decide))
      | 8, ho, hi, hdep =>
        cases ho
        have da0 : ac.eval (.tmp 41) = v2 := hF.2.2.2 5 41 _ rfl (hdep ⟨5, .data⟩ (by simp) rfl)
        have da1 : ac.eval (.tmp 43) = u2 := hF.2.2.2 7 43 _ rfl (hdep ⟨7, .data⟩ (by simp) rfl)
        have hA := hW.at (k := 2) rfl hi (.inr ⟨5, rfl, (hdep ⟨5, .data⟩ (by simp) rfl)⟩)
        have hw := hA.h2 rfl
        subst hw
        exact Ord.ex_value x rfl rfl (Rg.app da0 da1 rfl HA3.out) rfl (hW.next (k := 2) rfl (by decide) hi (.inr ⟨5, rfl, (hdep ⟨5, .data⟩ (by simp) rfl)⟩) (Sp.Inb.ApB.s3 HL3.out))
      | 9, ho, hi, hdep =>
        cases ho
        have da0 : ac.eval (.tmp 37) = .int .u32 cI := hF.2.2.2 1 37 _ rfl (hdep ⟨1, .data⟩ (by simp) rfl)
        have da1 : ac.eval (.tmp 44) = v3 := hF.2.2.2 8 44 _ rfl (hdep ⟨8, .data⟩ (by simp) rfl)
        have hA := hW.at (k := 3) rfl hi (.inr ⟨8, rfl, (hdep ⟨8, .data⟩ (by simp) rfl)⟩)
        have hw := hA.h3 rfl
        subst hw
        refine Rg.ex_calll x rfl rfl (Rg.enter (args := #[.int .u32 cI, v3]) rfl rfl (by simp [da0, da1]) EF.out) (Calls.mono FR.out ?_)
        rintro e w2 ⟨q, rfl, hq⟩
        exact ⟨q, rfl, (fun j hj => match j, hj with | 0, _ => rfl | 1, _ => rfl | 2, _ => rfl | 3, _ => rfl | 4, _ => rfl | 5, _ => rfl | 6, _ => rfl | 7, _ => rfl | 8, _ => rfl | 9, hj => absurd hj (by rw [hi]; decide) | 10, hj => absurd hj (by rw [(Rg.no_of (fun h => hcl 10 _ rfl (h) ⟨9, .data⟩ (by simp) rfl) hi)]; decide) | 11, hj => absurd hj (by rw [(Rg.no_of (fun h => hcl 10 _ rfl (hcl 11 _ rfl (h) ⟨10, .data⟩ (by simp) rfl) ⟨9, .data⟩ (by simp) rfl) hi)]; decide) | 12, _ => rfl | 13, hj => absurd hj (by rw [(Rg.no_of (fun h => hcl 13 _ rfl (h) ⟨9, .chain⟩ (by simp) rfl) hi)]; decide) | 14, _ => rfl | _ + 15, _ => rfl), hW.next (k := 3) rfl (by decide) hi (.inr ⟨8, rfl, (hdep ⟨8, .data⟩ (by simp) rfl)⟩) (Sp.Inb.ApB.s4 hq)⟩
      | 10, ho, hi, hdep =>
        cases ho
        have da0 : ac.eval (.tmp 45) = .tuple #[.pointer (some ⟨x, 0, none⟩), .int .i64 0] := hF.2.2.2 9 45 _ rfl (hdep ⟨9, .data⟩ (by simp) rfl)
        exact Ord.ex_value x rfl rfl (Rg.mv da0 rfl) rfl (hW.keep (by decide))
      | 11, ho, hi, hdep =>
        cases ho
        have da0 : ac.eval (.tmp 35) = .tuple #[.pointer (some ⟨x, 0, none⟩), .int .i64 0] := hF.2.2.2 10 35 _ rfl (hdep ⟨10, .data⟩ (by simp) rfl)
        exact Ord.ex_value x rfl rfl (Rg.ext da0 rfl rfl) rfl (hW.keep (by decide))
      | 12, ho, hi, hdep =>
        cases ho
        have da0 : ac.eval (.tmp 35) = .tuple #[.pointer (some ⟨x, 0, none⟩), .int .i64 0] := hF.2.2.2 10 35 _ rfl (hdep ⟨10, .data⟩ (by simp) rfl)
        exact Ord.ex_value x rfl rfl (Rg.ext da0 rfl rfl) rfl (hW.keep (by decide))
      | 13, ho, hi, hdep =>
        cases ho
        have da0 : ac.eval (.tmp 46) = .pointer (some ⟨x, 0, none⟩) := hF.2.2.2 11 46 _ rfl (hdep ⟨11, .data⟩ (by simp) rfl)
        exact Ord.ex_value x rfl rfl (Rg.asg da0 rfl) rfl (hW.keep (by decide))
      | 14, ho, hi, hdep =>
        cases ho
        have da0 : ac.eval (.tmp 47) = .int .i64 0 := hF.2.2.2 12 47 _ rfl (hdep ⟨12, .data⟩ (by simp) rfl)
        exact Ord.ex_value x rfl rfl (Rg.asg da0 rfl) rfl (hW.keep (by decide))
    case refine_3 => exact Rg.StM.first (Sp.Inb.ApB.first _ _ _ _ _)
    case refine_2 =>
      intro q Z hW
      have hq := hW.last.h4 rfl
      clear hW
      simp only [Ord.puts, Ord.prs]
      go_simp
      obtain ⟨hR, hZ⟩ := HRR.out q Z hq
      have hWZ := HBY.out.trans (hZ.mono HBY.out.size)
      have HCC := hidden (fun (X : World) (hX : Below Z.heap.size Z X) => (⟨by have := (hR.below hX).read.1; rw [hcI] at this; exact this, hX⟩ : X.cell? ⟨q, 0, none⟩ = some (.int .u32 cI) ∧ Below Z.heap.size Z X))
      have CU : Hid (∀ X, Below Z.heap.size Z X → Calls Tryd.prog 16 #[.pointer (some ⟨b, 0, none⟩)] X fun e w' => e = .returned (.int .u32 cI) ∧ X = w') := fun X hX => by
        have := Sp.Inb.Cum_ (HCY.out.later (hZ.trans (hX.mono hZ.size)))
        rw [show (((Sp.Inb.repS s).c : Nat) : Int) = cI from hcI] at this
        exact this
      have CL : Hid (∀ X, Below Z.heap.size Z X → Calls Tryd.prog 18 #[.pointer (some ⟨q, 0, none⟩)] X fun e w' => ∃ u, e = .returned u ∧ Sp.Nums w' u (s.L.map (Sp.Inb.ts s.c)).length (Sp.Inb.nf (s.L.map (Sp.Inb.ts s.c))) ∧ Below Z.heap.size Z w') := fun X hX =>
        (Sp.rAll X (hR.below hX)).mono (by
          rintro e w' ⟨v, rfl, ho, hB⟩
          rw [Sp.Inb.us_ts] at ho
          refine ⟨v, rfl, Sp.Inb.nums_us (l := s.L.map (Sp.Inb.ts s.c)) (by rw [List.length_map]; exact ho), hX.trans (hB.mono hX.size)⟩)
      have CA : Hid (∀ (X : World) (u0 : Value), Sp.Nums X u0 (s.L.map (Sp.Inb.ts s.c)).length (Sp.Inb.nf (s.L.map (Sp.Inb.ts s.c))) → Below Z.heap.size Z X → Calls Tryd.prog 19 #[.pointer (some ⟨b, 0, none⟩)] X fun e w' => ∃ u, e = .returned u ∧ Sp.Nums w' u (s.L.map (Sp.Inb.ts s.c)).length (Sp.Inb.nf (s.L.map (Sp.Inb.ts s.c))) ∧ Sp.Nums w' u0 (s.L.map (Sp.Inb.ts s.c)).length (Sp.Inb.nf (s.L.map (Sp.Inb.ts s.c))) ∧ Below Z.heap.size Z w') := fun X u0 h0 hX =>
        (Sp.Inb.Above_ (HCY.out.later (hZ.trans (hX.mono hZ.size)))).mono (by
          rintro e w' ⟨u, rfl, ho, hB⟩
          exact ⟨u, rfl, Sp.Inb.nums_us ho, h0.later hB, hX.trans (hB.mono hX.size)⟩)
      have CN : Hid (∀ (X : World) (l : List Nat) (u0 u1 : Value), Sp.Nums X u0 l.length (Sp.Inb.nf l) → Sp.Nums X u1 l.length (Sp.Inb.nf l) → Below Z.heap.size Z X → Calls Tryd.prog 17 #[u0, u1] X fun e w' => e = .returned (.bool true) ∧ Below Z.heap.size Z w') := fun X l u0 u1 h0 h1 hX =>
        (Sp.numbers X u0 u1 _ _ h0 h1).mono fun e w' k => ⟨k.1, hX.trans (k.2.mono hX.size)⟩
      have AV : Hid (∀ X, Below Z.heap.size Z X → Calls Tryd.prog 10 #[] X fun e w' => e = .returned (.bool true) ∧ Below Z.heap.size Z w') := fun X hX =>
        (AL.out X (hWZ.trans (hX.mono hWZ.size))).mono fun e w' k => ⟨k.1, hX.trans (k.2.mono hX.size)⟩
      have HWZ := hidden hWZ
      clear hR hZ hWZ hq HRR FR HCY HBY LD2 LD10 LD11 k2 k10 k11 hlY STO EF HA2 HA3 HL1 HL2 HL3 HOK hd
      generalize s.L.map (Sp.Inb.ts s.c) = l1 at *
      obtain ⟨c0, -⟩ := HCC.out Z (Below.refl _ _)
      go_wp2_with fail
      go_region_held3 (fun X => X.cell? ⟨q, 0, none⟩ = some (.int .u32 cI) ∧ Below Z.heap.size Z X)
        (first | (exact HCC.out _ (Sp.Inb.below_drew (Below.refl _ _))) | (exact HCC.out _ (by assumption)))
        (first
          | (go_at_call 16; refine Calls.mono (CU.out _ ?_) ?_; (first | assumption | exact Sp.Inb.below_drew (Below.refl _ _)); rintro e w' ⟨rfl, rfl⟩)
          | (go_at_call 18; refine Calls.mono (CL.out _ ?_) ?_; (first | assumption | exact Sp.Inb.below_drew (Below.refl _ _)); rintro e x3 ⟨u3, rfl, n3, b3⟩)
          | (go_at_call 19; refine Calls.mono (CA.out _ u3 n3 b3) ?_; rintro e x4 ⟨u4, rfl, n4, n4', b4⟩)
          | (go_at_call 17; with_reducible refine Calls.mono (CN.out _ _ u3 u4 n4' n4 b4) ?_; rintro e x5 ⟨rfl, b5⟩)
          | (go_at_call 10; refine Calls.mono (AV.out _ b5) ?_; rintro e x6 ⟨rfl, b6⟩))
      all_goals
        have FN := hidden (HWZ.out.trans (b6.mono HWZ.out.size))
        go_wp2
        go_ret
        exact ⟨rfl, FN.out⟩

set_option maxRecDepth 100000 in
theorem contract (H : Type) (enc : TypeId × Value → H) (W : World) (base : Nat) (args : Array Value) (ds gs : List (DataW H)) (before : List MemPlace)
    (hval : ∀ (j : Nat) t v, Tryd.f4.params[j]? = some t → args[j]? = some v → Value.okWide Tryd.prog W .any base t v)
    (hW : DataW.Whole enc Tryd.prog Tryd.f4.params.toList Rows.inboxTrueSpec.vars false W args.toList ds gs before)
    (hsz0 : (DataW.weightsEach Tryd.prog (Tryd.f4.params.toList ++ Rows.inboxTrueSpec.plain.varTypes Tryd.prog) (ds ++ gs)).all (· ≤ reachBytes) = true)
    (hL : laidMetH Tryd.prog Rows.inboxTrueRow.laid W) :
    Calls Tryd.prog 4 args W fun e W' => ∃ v, e = .returned v ∧ Rows.inboxTrueSpec.post enc Tryd.prog Tryd.f4 false true false false W args v W' := by
  have hW' := hW
  obtain ⟨p, q, hA0, hV, rfl, hfz, hnd⟩ := hW
  have hA : DataW.TrodAll enc Tryd.prog W 0 (fun _ => true) true Tryd.f4.params.toList args.toList ds p := hA0
  have hsz := hsz0
  rw [Tryd.params4] at hA hval hsz
  obtain ⟨v0, vs0, d0, ds0, p0, q0, hargs, rfl, rfl, h0, r0⟩ := trodAll_cons hA
  obtain ⟨v1, vs1, d1, ds1, p1, q1, rfl, rfl, rfl, h1, r1⟩ := trodAll_cons r0
  obtain ⟨v2, vs2, d2, ds2, p2, q2, rfl, rfl, rfl, h2, r2⟩ := trodAll_cons r1
  obtain ⟨v3, vs3, d3, ds3, p3, q3, rfl, rfl, rfl, h3, r3⟩ := trodAll_cons r2
  obtain ⟨rfl, rfl, rfl⟩ := trodAll_nil r3
  obtain rfl : args = #[v0, v1, v2, v3] := by cases args; simp_all
  obtain ⟨rfl, rfl⟩ := trodVars_none hV
  obtain ⟨a0, rfl, rfl, rfl, w0⟩ := open_int Tryd.underlying22 (hval 0 22 v0 rfl rfl) h0
  obtain ⟨a1, rfl, rfl, rfl, w1⟩ := open_int Tryd.underlying3 (hval 1 3 v1 rfl rfl) h1
  obtain ⟨a2, rfl, rfl, rfl⟩ := open_bool Tryd.underlying4 (hval 2 4 v2 rfl rfl) h2
  obtain ⟨a3, len3, cap3, rfl⟩ := okWide_slice Tryd.underlying23 (hval 3 23 v3 rfl rfl)
  have k3 := h3
  have lt3 : ∀ x ∈ p3, x.block < W.heap.size := by obtain ⟨m, hm⟩ := k3; exact DataW.trod_lt m _ _ _ hm
  have sz3 : (d3.weights Tryd.prog 23).all (· ≤ reachBytes) = true := List.all_eq_true.2 fun m hm => List.all_eq_true.1 hsz m (DataW.weights_mem_each (j := 3) rfl rfl m hm)
  obtain ⟨z3, w3⟩ : ∃ z3, Sp.Inb.Ops W a3 len3 z3 := by
    obtain ⟨fuel, hf⟩ := h3
    exact Sp.Inb.ops_arg hf sz3
  clear hA0 hsz0 hsz
  refine (walk a0 a1 a2 a3 len3 cap3 z3 W w0 w1  w3 (table hL)).mono fun e W' ⟨he, bel⟩ => ?_
  subst he
  exact ⟨_, rfl, _, _, _, [], _, [], hW', trodAll_mk1 (shut_bool Tryd.underlying4 _), (trodAll_cons_mk (shut_int Tryd.underlying22 w0) (trodAll_cons_mk (shut_int Tryd.underlying3 w1) (trodAll_cons_mk (shut_bool Tryd.underlying4 _) (trodAll_cons_mk (Below.trod laidOut (by kernel_rfl) (of_decide_eq_true (by kernel_rfl)) k3 bel lt3) trodAll_mk0)))), rfl, bel.frame _, fun h => by cases h⟩

noncomputable def laidWorld (os : Os) : World :=
  { World.holding Tryd.prog os ⟨#[], #[], []⟩ with heap := (World.holding Tryd.prog os ⟨#[], #[], []⟩).heap.modify 0 fun
      | .cells _ t frozen => .cells #[.int .u8 0, .int .u8 1, .int .u8 56, .int .u8 2, .int .u8 57, .int .u8 49, .int .u8 28, .int .u8 3, .int .u8 61, .int .u8 58, .int .u8 42, .int .u8 50, .int .u8 38, .int .u8 29, .int .u8 17, .int .u8 4, .int .u8 62, .int .u8 47, .int .u8 59, .int .u8 36, .int .u8 45, .int .u8 43, .int .u8 51, .int .u8 22, .int .u8 53, .int .u8 39, .int .u8 33, .int .u8 30, .int .u8 24, .int .u8 18, .int .u8 12, .int .u8 5, .int .u8 63, .int .u8 55, .int .u8 48, .int .u8 27, .int .u8 60, .int .u8 41, .int .u8 37, .int .u8 16, .int .u8 46, .int .u8 35, .int .u8 44, .int .u8 21, .int .u8 52, .int .u8 32, .int .u8 23, .int .u8 11, .int .u8 54, .int .u8 26, .int .u8 40, .int .u8 15, .int .u8 34, .int .u8 20, .int .u8 31, .int .u8 10, .int .u8 25, .int .u8 14, .int .u8 19, .int .u8 9, .int .u8 13, .int .u8 8, .int .u8 7, .int .u8 6] t frozen
      | o => o }
theorem laid_met (os : Os) : laidMet Tryd.prog Rows.inboxTrueRow.laid ((laidWorld os).forCall (fun _ _ => 0) ⟨#[], #[.int .u32 0, .int .i64 0, .bool false, .slice none 0 0], []⟩).memory :=
  laidMet_of_run' 8 (by kernel_rfl) (by kernel_rfl)
theorem reads (os : Os) {H : Type} (enc : TypeId × Value → H) : ∃ places, DataW.whole enc Tryd.prog ((laidWorld os).forCall (fun _ _ => 0) ⟨#[], #[.int .u32 0, .int .i64 0, .bool false, .slice none 0 0], []⟩).memory Tryd.f4.params.toList Rows.inboxTrueSpec.vars false #[Value.int .u32 0, Value.int .i64 0, Value.bool false, Value.slice none 0 0].toList 8 = some ([.lit (.int .u32 0), .lit (.int .i64 0), .lit (.bool false), .nil], [], places) :=
  ⟨[], by kernel_rfl⟩

set_option maxRecDepth 100000 in
theorem lifted (os : Os) (started : os.Started) (H : Type) (enc : TypeId × Value → H) (F : Stop.Interp) :
    ReturnsInHanded {} Tryd.checked os 4 .any ((OpenSpec.ofChange Rows.inboxTrueSpec).preRow enc Tryd.prog Tryd.f4 Rows.inboxTrueRow.domain false Rows.inboxTrueRow.laid) (((OpenSpec.ofChange Rows.inboxTrueSpec).at F).post enc Tryd.prog Tryd.f4 false true false false) := by
  obtain ⟨places, hx⟩ := reads os enc
  refine returnsInHanded_of_row (C := Tryd.checked) (s := OpenSpec.ofChange Rows.inboxTrueSpec) own started (by kernel_rfl) Tryd.func4
    (witness_row_at (enc := enc) (C := Tryd.checked) false (laidWorld os) #[.int .u32 0, .int .i64 0, .bool false, .slice none 0 0] rfl (by kernel_rfl) (by kernel_rfl) (by kernel_rfl)
      (OpenSpec.preRow_of_cond 8 hx (by kernel_rfl) (fun k hk => by cases hk) (by kernel_rfl) (laid_met os))) ?_
  intro W base args ds gs before hval hW _ hcond hsz hL _ _
  exact contract H enc W base args ds gs before hval hW hsz hL

theorem said : Rows.InboxTrueSaid :=
  OpenClaim.holds_of_cond 4 Tryd.f4 rfl rfl rfl rfl rfl rfl rfl ⟨rfl, rfl, rfl, rfl, rfl⟩ rfl rfl rfl rfl rfl (by kernel_rfl) Tryd.func4 (by kernel_rfl)
    (of_decide_eq_true (by kernel_rfl)) (by unfold Func.isWrapper; first | (rw [if_pos (by decide +kernel)]; kernel_rfl) | (rw [if_neg (by decide +kernel)]; exact ⟨rfl, rfl⟩))
    (fun os started H enc _ F => by rw [OpenClaim.pre_eq_preRow]; exact lifted os started H enc F)

theorem plain (f : FuncId) (fn : Func) (hf : Tryd.pinned.checked.prog.funcNamed "ropewalk/ropewalklaw19.InboxTrue" = some f) (hfn : Tryd.pinned.checked.prog.funcs[f]? = some fn) :
    false = Tryd.pinned.checked.prog.looks [] ∧ ∀ (j : Nat) t, fn.params[j]? = some t → Tryd.pinned.checked.prog.wantsStandIn t = false := by
  obtain rfl : f = 4 := Option.some.inj ((show Tryd.prog.funcNamed "ropewalk/ropewalklaw19.InboxTrue" = some 4 by kernel_rfl).symm.trans hf) |>.symm
  obtain rfl : fn = Tryd.f4 := (Option.some.inj (Tryd.func4.symm.trans hfn)).symm
  refine ⟨by kernel_rfl, fun j t ht => ?_⟩
  rw [Tryd.params4] at ht
  have hm : t ∈ [22, 3, 4, 23] := by simpa using Array.mem_of_getElem? ht
  have hall : ∀ t ∈ [22, 3, 4, 23], Tryd.prog.wantsStandIn t = false := by
    intro t ht
    simp only [List.mem_cons, List.not_mem_nil, or_false] at ht
    rcases ht with rfl | rfl | rfl | rfl <;> kernel_rfl
  exact hall t hm

/-- THE CARD -/
theorem proved : Rows.InboxTrueCardSaid :=
  Claim7.holds_tied_plain_at .later [] _ _ _ _ said (fun _ h => by cases h) (by kernel_rfl) (fun _ h => by cases h) inboxTrue_row_tie rfl ⟨rfl, rfl⟩ (by kernel_rfl) rfl plain (by kernel_rfl)
#print axioms proved
end Go.Proofs.YtdifceikfnnfeaaDoor.inboxTrue
