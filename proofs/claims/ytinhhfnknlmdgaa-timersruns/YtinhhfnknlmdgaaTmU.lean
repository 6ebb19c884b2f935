/-
  One step of a table of timers and of the document's, side by side: both answer the same.
  Conditions: both lie in memory, apart.
-/
import Derived.Test.YtinhhfnknlmdgaaTmT
namespace Go.Proofs.Ytinhhfnknlmdgaa.Tm
open Go.RowKit Go.Sort Go.ChangeShapes Go.WideShapes Go.ChangeAt
open Ba (hidden Only In Has own_ne own_stay own_len own_some own_mono cell_lt heap_lt)
set_option linter.unusedVariables false

/-- worlds while both are set -/
structure StA (W1 : World) (F1 : List Nat) (t r : Nat) (S : List D) (l id tm : Int) (bx : Nat) (kI : Int) (k : Nat) (w' : World) : Prop where
  bx : Has w' bx #[.int .i64 kI, .int .i64 id, .int .i64 tm] 32
  h0 : k = 0 → Pr W1 F1 w' t r S S l l
  h1 : k = 1 → Pr W1 F1 w' t r (setS id tm S) S l l
  h2 : k = 2 → Pr W1 F1 w' t r (setS id tm S) (setS id tm S) l l
/-- worlds while both are looked at -/
structure TaA (y : World) (S : List D) (k : Nat) (x : Value) (w' : World) : Prop where
  bel : Below y.heap.size y w'
  h1 : 1 ≤ k → Rw w' x S
set_option maxHeartbeats 2000000 in
set_option maxRecDepth 20000 in
theorem step1 {w0 w : World} {F0 : List Nat} {t r : Nat} {S : List D} {l : Int} (h : Pr w0 F0 w t r S S l l) (kI id tm : Int) (hi : I64 id) (hk : kI = 1) : Calls Try.prog 9 #[.pointer (some ⟨t, 0, none⟩), .pointer (some ⟨r, 0, none⟩), .agg #[.int .i64 kI, .int .i64 id, .int .i64 tm]] w fun e w' => StepO w0 t r F0 e w' := by
  subst hk
  obtain ⟨F, G, h1, h2, h3, h4, h5⟩ := h
  obtain ⟨W1, hW1⟩ : ∃ W1, W1 = w.alloc (.cells #[.int .i64 1, .int .i64 id, .int .i64 tm] 32) := ⟨_, rfl⟩
  obtain ⟨F1, hF1⟩ : ∃ F1, F1 = F ++ G := ⟨_, rfl⟩
  have hBW : Below w.heap.size w W1 := by rw [hW1]; exact (Below.refl _ w).alloc (Nat.le_refl _) _
  have hbox : Has W1 w.heap.size #[.int .i64 1, .int .i64 id, .int .i64 tm] 32 := by rw [hW1]; exact Has.new w _ _
  have hnF : w.heap.size ∉ F1 := by
    rw [hF1]
    intro hh
    rcases List.mem_append.1 hh with hh | hh
    · have := h1.lt _ hh; omega
    · have := h2.lt _ hh; omega
  have HBX : Hid (∀ {S R : List D} {l1 l2 : Int} (x : World), Pr W1 F1 x t r S R l1 l2 → Has x w.heap.size #[.int .i64 1, .int .i64 id, .int .i64 tm] 32) := fun x hx => by
    obtain ⟨_, _, _, _, _, ho, _⟩ := hx
    exact hbox.stay ho hnF
  have HP := hidden (show Pr W1 F1 W1 t r S S l l from ⟨F, G, h1.later hBW, h2.later hBW, h3, Only.refl _ _, by rw [hF1]; exact In.refl _ _⟩)
  have HK := hidden h1.ok.2.1
  have FIN : Hid (∀ (x w' : World) (S2 : List D) {L2 : Int}, Pr W1 F1 x t r S2 S2 L2 L2 → Below x.heap.size x w' → StepO w0 t r F0 (.returned (.bool true)) w') := fun x w' S2 L2 hp hB => by
    obtain ⟨F2, G2, g1, g2, g3, g4, g5⟩ := hp.later hB
    refine ⟨rfl, S2, L2, F2, G2, g1, g2, g3, ?_, ?_⟩
    · exact (h4.then (Only.of_below hBW)).trans g4 (by rw [hF1]; exact h5)
    · refine In.trans (w' := W1) (G := F1) (by rw [hF1]; exact h5) g5 (Nat.le_trans h4.size hBW.size)
  have HID := hidden hi
  have HW1 := hidden hW1
  have hlW : w.heap.size < W1.heap.size := hbox.lt
  have E1 : Hid (∀ (args : Array Value) (w : World), (callFunc 10 args).run Try.prog w = .ok (.enter 10 args) w) := enters_of Try.func10 (by kernel_rfl) rfl
  have E2 : Hid (∀ (args : Array Value) (w : World), (callFunc 25 args).run Try.prog w = .ok (.enter 25 args) w) := enters_of Try.func25 (by kernel_rfl) rfl
  have EL : Hid (∀ (args : Array Value) (w : World), (callFunc 14 args).run Try.prog w = .ok (.enter 14 args) w) := enters_of Try.func14 (by kernel_rfl) rfl
  have EA : Hid (∀ (args : Array Value) (w : World), (callFunc 17 args).run Try.prog w = .ok (.enter 17 args) w) := enters_of Try.func17 (by kernel_rfl) rfl
  have ES : Hid (∀ (args : Array Value) (w : World), (callFunc 16 args).run Try.prog w = .ok (.enter 16 args) w) := enters_of Try.func16 (by kernel_rfl) rfl
  clear h1 h2 h3 h4 h5 hBW hbox hF1 hnF hi hW1
  go_enter Try.func9, Try.ntmps9
  go_upto_region 3 with fail
  rw [← HW1.out]
  refine Ord.wp_region_ex0 (X := Unit) (by kernel_rfl) 150 (fun x => [(some 27, .pointer (some ⟨t, 0, none⟩)), (some 28, .pointer (some ⟨w.heap.size, 1, none⟩)), (some 29, .int .i64 id), (some 30, .pointer (some ⟨w.heap.size, 2, none⟩)), (some 31, .int .i64 tm), (some 32, .int .i64 (setE id tm)), (some 33, .pointer (some ⟨r, 0, none⟩)), (some 34, .pointer (some ⟨w.heap.size, 1, none⟩)), (some 35, .int .i64 id), (some 36, .pointer (some ⟨w.heap.size, 2, none⟩)), (some 37, .int .i64 tm), (some 38, .int .i64 (setE id tm)), (some 39, .bool false)]) [some 27, some 28, some 29, some 30, some 31, some 32, some 33, some 34, some 35, some 36, some 37, some 38, some 39] rfl (fun listed hsz hr => Ord.all_listedC (rank := [0, 1, 2, 3, 4, 5, 6, 7, 8, 9, 10, 11, 12]) (by kernel_rfl) hsz hr) (by rfl) (fun _ => rfl) (by kernel_rfl) (Rg.StM [5, 11] (fun k _ w' => StA W1 F1 t r S l id tm w.heap.size 1 k w')) (fun _ _ _ _ hL h => h.ext (n := 13) (by decide) hL) ?_ ?_ () ?_
  case refine_1 =>
    intro x Lq iq oq ac w' ho hi hcl hdep hF hW
    have f1 : ac.tmps.size = 150 := hF.1
    match iq, ho, hi, hdep with
    | 0, ho, hi, hdep =>
      cases ho
      have da0 : ac.eval (.tmp 0) = .pointer (some ⟨t, 0, none⟩) := hF.old 0 rfl
      exact Ord.ex_value x rfl rfl (Rg.mv da0 rfl) rfl (hW.keep (by decide))
    | 1, ho, hi, hdep =>
      cases ho
      have da0 : ac.eval (.tmp 5) = .pointer (some ⟨w.heap.size, 0, none⟩) := hF.old 5 rfl
      exact Ord.ex_value x rfl rfl (Rg.fa da0 rfl (by simp [go_sem])) rfl (hW.keep (by decide))
    | 2, ho, hi, hdep =>
      cases ho
      have da0 : ac.eval (.tmp 28) = .pointer (some ⟨w.heap.size, 1, none⟩) := hF.2.2.2 1 28 _ rfl (hdep ⟨1, .data⟩ (by simp) rfl)
      obtain ⟨kq, hlo, hhi, hA⟩ := hW.range 0 0 (.inl rfl) (.inr ⟨5, rfl, (Rg.no_of (fun h => hcl 5 _ rfl (h) ⟨2, .data⟩ (by simp) rfl) hi)⟩)
      exact Ord.ex_value x rfl rfl (Rg.load da0 rfl (by simp [go_sem, hA.bx.cell 1 rfl])) rfl (hW.keep (by decide))
    | 3, ho, hi, hdep =>
      cases ho
      have da0 : ac.eval (.tmp 5) = .pointer (some ⟨w.heap.size, 0, none⟩) := hF.old 5 rfl
      exact Ord.ex_value x rfl rfl (Rg.fa da0 rfl (by simp [go_sem])) rfl (hW.keep (by decide))
    | 4, ho, hi, hdep =>
      cases ho
      have da0 : ac.eval (.tmp 30) = .pointer (some ⟨w.heap.size, 2, none⟩) := hF.2.2.2 3 30 _ rfl (hdep ⟨3, .data⟩ (by simp) rfl)
      obtain ⟨kq, hlo, hhi, hA⟩ := hW.range 0 0 (.inl rfl) (.inr ⟨5, rfl, (Rg.no_of (fun h => hcl 5 _ rfl (h) ⟨4, .data⟩ (by simp) rfl) hi)⟩)
      exact Ord.ex_value x rfl rfl (Rg.load da0 rfl (by simp [go_sem, hA.bx.cell 2 rfl])) rfl (hW.keep (by decide))
    | 5, ho, hi, hdep =>
      cases ho
      have da0 : ac.eval (.tmp 27) = .pointer (some ⟨t, 0, none⟩) := hF.2.2.2 0 27 _ rfl (hdep ⟨0, .data⟩ (by simp) rfl)
      have da1 : ac.eval (.tmp 29) = .int .i64 id := hF.2.2.2 2 29 _ rfl (hdep ⟨2, .data⟩ (by simp) rfl)
      have da2 : ac.eval (.tmp 31) = .int .i64 tm := hF.2.2.2 4 31 _ rfl (hdep ⟨4, .data⟩ (by simp) rfl)
      have hA := hW.at (k := 0) rfl hi (.inl rfl)
      exact Rg.ex_call x rfl rfl (Rg.enter (args := #[.pointer (some ⟨t, 0, none⟩), .int .i64 id, .int .i64 tm]) rfl rfl (by simp [da0, da1, da2]) E1.out) (Calls.mono ((hA.h0 rfl).set id tm) (by rintro e w2 ⟨rfl, hP⟩; exact ⟨rfl, hW.next (k := 0) rfl (by decide) hi (.inl rfl) ⟨HBX.out _ hP, fun e => absurd e (by decide), fun _ => hP, fun e => absurd e (by decide)⟩⟩))
    | 6, ho, hi, hdep =>
      cases ho
      have da0 : ac.eval (.tmp 1) = .pointer (some ⟨r, 0, none⟩) := hF.old 1 rfl
      exact Ord.ex_value x rfl rfl (Rg.mv da0 rfl) rfl (hW.keep (by decide))
    | 7, ho, hi, hdep =>
      cases ho
      have da0 : ac.eval (.tmp 5) = .pointer (some ⟨w.heap.size, 0, none⟩) := hF.old 5 rfl
      exact Ord.ex_value x rfl rfl (Rg.fa da0 rfl (by simp [go_sem])) rfl (hW.keep (by decide))
    | 8, ho, hi, hdep =>
      cases ho
      have da0 : ac.eval (.tmp 34) = .pointer (some ⟨w.heap.size, 1, none⟩) := hF.2.2.2 7 34 _ rfl (hdep ⟨7, .data⟩ (by simp) rfl)
      obtain ⟨kq, hlo, hhi, hA⟩ := hW.range 0 1 (.inl rfl) (.inr ⟨11, rfl, (Rg.no_of (fun h => hcl 11 _ rfl (h) ⟨8, .data⟩ (by simp) rfl) hi)⟩)
      exact Ord.ex_value x rfl rfl (Rg.load da0 rfl (by simp [go_sem, hA.bx.cell 1 rfl])) rfl (hW.keep (by decide))
    | 9, ho, hi, hdep =>
      cases ho
      have da0 : ac.eval (.tmp 5) = .pointer (some ⟨w.heap.size, 0, none⟩) := hF.old 5 rfl
      exact Ord.ex_value x rfl rfl (Rg.fa da0 rfl (by simp [go_sem])) rfl (hW.keep (by decide))
    | 10, ho, hi, hdep =>
      cases ho
      have da0 : ac.eval (.tmp 36) = .pointer (some ⟨w.heap.size, 2, none⟩) := hF.2.2.2 9 36 _ rfl (hdep ⟨9, .data⟩ (by simp) rfl)
      obtain ⟨kq, hlo, hhi, hA⟩ := hW.range 0 1 (.inl rfl) (.inr ⟨11, rfl, (Rg.no_of (fun h => hcl 11 _ rfl (h) ⟨10, .data⟩ (by simp) rfl) hi)⟩)
      exact Ord.ex_value x rfl rfl (Rg.load da0 rfl (by simp [go_sem, hA.bx.cell 2 rfl])) rfl (hW.keep (by decide))
    | 11, ho, hi, hdep =>
      cases ho
      have da0 : ac.eval (.tmp 33) = .pointer (some ⟨r, 0, none⟩) := hF.2.2.2 6 33 _ rfl (hdep ⟨6, .data⟩ (by simp) rfl)
      have da1 : ac.eval (.tmp 35) = .int .i64 id := hF.2.2.2 8 35 _ rfl (hdep ⟨8, .data⟩ (by simp) rfl)
      have da2 : ac.eval (.tmp 37) = .int .i64 tm := hF.2.2.2 10 37 _ rfl (hdep ⟨10, .data⟩ (by simp) rfl)
      have hA := hW.at (k := 1) rfl hi (.inr ⟨5, rfl, (hdep ⟨5, .chain⟩ (by simp) rfl)⟩)
      exact Rg.ex_call x rfl rfl (Rg.enter (args := #[.pointer (some ⟨r, 0, none⟩), .int .i64 id, .int .i64 tm]) rfl rfl (by simp [da0, da1, da2]) E2.out) (Calls.mono ((hA.h1 rfl).rset HK.out) (by rintro e w2 ⟨rfl, hP⟩; exact ⟨rfl, hW.next (k := 1) rfl (by decide) hi (.inr ⟨5, rfl, (hdep ⟨5, .chain⟩ (by simp) rfl)⟩) ⟨HBX.out _ hP, fun e => absurd e (by decide), fun e => absurd e (by decide), fun _ => hP⟩⟩))
    | 12, ho, hi, hdep =>
      cases ho
      have da0 : ac.eval (.tmp 32) = .int .i64 (setE id tm) := hF.2.2.2 5 32 _ rfl (hdep ⟨5, .data⟩ (by simp) rfl)
      have da1 : ac.eval (.tmp 38) = .int .i64 (setE id tm) := hF.2.2.2 11 38 _ rfl (hdep ⟨11, .data⟩ (by simp) rfl)
      exact Ord.ex_value x rfl rfl (Rg.bin da0 da1 rfl (by simp [go_sem])) rfl (hW.keep (by decide))
  case refine_3 => exact Rg.StM.first ⟨HBX.out _ (HP.out.later (Below.refl _ W1).drew), fun _ => HP.out.later (Below.refl _ W1).drew, fun e => absurd e (by decide), fun e => absurd e (by decide)⟩
  case refine_2 =>
    intro xx x2 hW
    have HP2 := hidden (hW.last.h2 rfl)
    clear hW
    simp only [Ord.puts, Ord.prs]
    go_simp
    obtain ⟨S2, hS2⟩ : ∃ S2, S2 = setS id tm S := ⟨_, rfl⟩
    obtain ⟨L2, hL2⟩ : ∃ L2, L2 = l := ⟨_, rfl⟩
    rw [← hS2, ← hL2] at HP2
    clear hS2 hL2
    have bx1 := (HBX.out _ HP2.out).cell 1 rfl
    obtain ⟨fF, fG, p1, p2, p3, p4, p5⟩ := HP2.out
    obtain ⟨lv, rfl, q1, q2, q3⟩ := p2
    obtain ⟨la, lcap, hlv⟩ := own_len q2
    have crl := q1.cell 0 rfl
    have hrlt := q1.lt
    have hlR := Own.rw q2 (by omega)
    obtain ⟨lnS, hlnS⟩ : ∃ lnS, lnS = S2.length := ⟨_, rfl⟩
    rw [show (#[lv, .int .i64 L2] : Array Value)[0] = .slice la lnS lcap by rw [hlnS]; exact hlv] at crl
    rw [hlv, ← hlnS] at hlR
    obtain ⟨dn, hb, hnx⟩ : ∃ (dn : D) (hb : Bool), nextV S2 = .tuple #[.agg #[.int .i64 dn.1, .int .i64 dn.2], .bool hb] := ⟨_, _, rfl⟩
    obtain ⟨gi, gb, hgt⟩ : ∃ (gi : Int) (gb : Bool), getV id S2 = .tuple #[.int .i64 gi, .bool gb] := ⟨_, _, rfl⟩
    have HN1 : Hid (∀ x, Below x2.heap.size x2 x → Calls Try.prog 19 #[.pointer (some ⟨t, 0, none⟩)] x fun e w' => e = .returned (.tuple #[.agg #[.int .i64 dn.1, .int .i64 dn.2], .bool hb]) ∧ Below x.heap.size x w') := fun x hx => by rw [← hnx]; exact tnext (p1.later hx)
    have HRT : Hid (RT x2 r S2 L2 (r :: lv.ownBlock.toList)) := ⟨lv, rfl, q1, q2, q3⟩
    have HN2 : Hid (∀ x, Below x2.heap.size x2 x → Calls Try.prog 28 #[.pointer (some ⟨r, 0, none⟩)] x fun e w' => e = .returned (.tuple #[.agg #[.int .i64 dn.1, .int .i64 dn.2], .bool hb]) ∧ Below x.heap.size x w') := fun x hx => by rw [← hnx]; exact rnext (HRT.out.later hx)
    have HG1 : Hid (∀ x, Below x2.heap.size x2 x → Calls Try.prog 18 #[.pointer (some ⟨t, 0, none⟩), .int .i64 id] x fun e w' => e = .returned (.tuple #[.int .i64 gi, .bool gb]) ∧ Below x.heap.size x w') := fun x hx => by rw [← hgt]; exact tget (p1.later hx) id HID.out
    have HG2 : Hid (∀ x, Below x2.heap.size x2 x → Calls Try.prog 29 #[.pointer (some ⟨r, 0, none⟩), .int .i64 id] x fun e w' => e = .returned (.tuple #[.int .i64 gi, .bool gb]) ∧ x = w') := fun x hx => by rw [← hgt]; exact rget (HRT.out.later hx) id
    have HT2 := hidden p1
    have HLR := hidden hlR
    have HLS := hidden hlnS
    have HBB := hidden (HBX.out _ HP2.out)
    clear p1 p3 p4 p5 q1 q2 q3 hlv hlR hlnS hnx hgt HBX
    go_wp2_with fail
    refine Calls.mono (HN1.out _ (Below.refl _ _)) ?_
    rintro e x3 ⟨rfl, hB3⟩
    obtain ⟨y1, hy1⟩ : ∃ y1, y1 = x3.alloc (.cells #[.int .i64 dn.1, .int .i64 dn.2] 43) := ⟨_, rfl⟩
    have hBy1 : Below x2.heap.size x2 y1 := by rw [hy1]; exact hB3.alloc hB3.size _
    have hb1 : Has y1 x3.heap.size #[.int .i64 dn.1, .int .i64 dn.2] 43 := by rw [hy1]; exact Has.new x3 _ _
    have HY1 := hidden hy1
    have HBY1 := hidden hBy1
    have HB1 := hidden hb1
    clear hB3 hy1 hBy1 hb1 HN1
    go_upto_region 16 with fail
    rw [← HY1.out]
    go_wp2_with fail
    refine Calls.mono (HN2.out _ HBY1.out) ?_
    rintro e x4 ⟨rfl, hB4⟩
    obtain ⟨y2, hy2⟩ : ∃ y2, y2 = x4.alloc (.cells #[.int .i64 dn.1, .int .i64 dn.2] 43) := ⟨_, rfl⟩
    have hBy2 : Below y1.heap.size y1 y2 := by rw [hy2]; exact hB4.alloc hB4.size _
    have hb2 : Has y2 x4.heap.size #[.int .i64 dn.1, .int .i64 dn.2] 43 := by rw [hy2]; exact Has.new x4 _ _
    have hb1 := HB1.out.later hBy2
    have hB02 : Below x2.heap.size x2 y2 := HBY1.out.trans (hBy2.mono HBY1.out.size)
    have bb1 := (HBB.out.later hB02).cell 1 rfl
    have HY2 := hidden hy2
    have HBY2 := hidden hB02
    have HB2 := hidden hb2
    have HB1b := hidden hb1
    clear hB4 hy2 hBy2 hb1 hb2 hB02 HN2 HB1 HY1 HBY1
    go_upto_region 17 with fail
    rw [← HY2.out]
    go_wp2_with fail
    refine Calls.mono (HG1.out _ HBY2.out) ?_
    rintro e y ⟨rfl, hB5⟩
    have hB0y : Below x2.heap.size x2 y := HBY2.out.trans (hB5.mono HBY2.out.size)
    have bb2 := (HBB.out.later hB0y).cell 1 rfl
    have hb1 := HB1b.out.later hB5
    have hb2 := HB2.out.later hB5
    have HBY := hidden hB0y
    have HC : Hid (∀ w', Below y.heap.size y w' → w'.cell? ⟨x3.heap.size, 0, none⟩ = some (.int .i64 dn.1) ∧ w'.cell? ⟨x3.heap.size, 1, none⟩ = some (.int .i64 dn.2) ∧ w'.cell? ⟨x4.heap.size, 0, none⟩ = some (.int .i64 dn.1) ∧ w'.cell? ⟨x4.heap.size, 1, none⟩ = some (.int .i64 dn.2) ∧ w'.cell? ⟨r, 0, none⟩ = some (.slice la lnS lcap)) := fun w' hw => ⟨(hb1.later hw).cell 0 rfl, (hb1.later hw).cell 1 rfl, (hb2.later hw).cell 0 rfl, (hb2.later hw).cell 1 rfl, ((hB0y.trans (hw.mono hB0y.size)).cell (p := ⟨r, 0, none⟩) hrlt).trans crl⟩
    have HLE : Hid (∀ x, Below y.heap.size y x → Calls Try.prog 14 #[.pointer (some ⟨t, 0, none⟩)] x fun e w' => e = .returned (.int .i64 (lnS : Int)) ∧ x = w') := fun x hx => by rw [HLS.out]; exact tlen (HT2.out.later (hB0y.trans (hx.mono hB0y.size)))
    have HAL : Hid (∀ x, Below y.heap.size y x → Calls Try.prog 17 #[.pointer (some ⟨t, 0, none⟩)] x fun e w' => ∃ v, e = .returned v ∧ Rw w' v S2 ∧ Below x.heap.size x w') := fun x hx => tall (HT2.out.later (hB0y.trans (hx.mono hB0y.size)))
    have HSA : Hid (∀ x v, Below y.heap.size y x → Rw x v S2 → Calls Try.prog 16 #[v, .slice la lnS lcap] x fun e w' => e = .returned (.bool true) ∧ Below x.heap.size x w') := fun x v hx hv => rsame x _ _ _ hv (HLR.out.later (hB0y.trans (hx.mono hB0y.size)))
    clear hB5 hb1 hb2 hB0y HY2 HBY2 HB2 HB1b HG1 HLR HLS HRT HBB bx1 crl
    go_wp2_with fail
    refine Calls.mono (HG2.out _ HBY.out) ?_
    rintro e yy ⟨rfl, rfl⟩
    clear HG2
    go_upto_region 19 with fail
    refine Ord.wp_region_ex0 (X := Value) (by kernel_rfl) 150 (fun x => [(some 113, .agg #[.int .i64 dn.1, .int .i64 dn.2]), (some 114, .agg #[.int .i64 dn.1, .int .i64 dn.2]), (some 115, .bool true), (some 116, .bool true), (some 117, .bool hb), (some 118, .bool hb), (some 119, .bool true), (some 120, .bool true), (some 121, .bool true), (some 122, .int .i64 gi), (some 123, .int .i64 gi), (some 124, .bool true), (some 125, .bool true), (some 126, .bool true), (some 127, .bool gb), (some 128, .bool gb), (some 129, .bool true), (some 130, .bool true), (some 131, .bool true), (some 132, .pointer (some ⟨t, 0, none⟩)), (some 133, .int .i64 (lnS : Int)), (some 134, .pointer (some ⟨r, 0, none⟩)), (some 135, .pointer (some ⟨r, 0, none⟩)), (some 136, .pointer (some ⟨r, 0, none⟩)), (some 137, .slice la lnS lcap), (some 138, .int .i64 (lnS : Int)), (some 139, .bool true), (some 140, .bool true), (some 141, .bool true), (some 142, .pointer (some ⟨t, 0, none⟩)), (some 143, x), (some 144, .pointer (some ⟨r, 0, none⟩)), (some 145, .pointer (some ⟨r, 0, none⟩)), (some 146, .pointer (some ⟨r, 0, none⟩)), (some 147, .slice la lnS lcap), (some 148, .bool true), (some 149, .bool true), (some 6, .bool true)]) [some 113, some 114, some 115, some 116, some 117, some 118, some 119, some 120, some 121, some 122, some 123, some 124, some 125, some 126, some 127, some 128, some 129, some 130, some 131, some 132, some 133, some 134, some 135, some 136, some 137, some 138, some 139, some 140, some 141, some 142, some 143, some 144, some 145, some 146, some 147, some 148, some 149, some 6] rfl (fun listed hsz hr => Ord.all_listedC (rank := [0, 1, 2, 3, 4, 5, 6, 7, 8, 9, 10, 11, 12, 13, 14, 15, 16, 17, 18, 19, 20, 21, 22, 23, 24, 25, 26, 27, 28, 29, 30, 31, 32, 33, 34, 35, 36, 37]) (by kernel_rfl) hsz hr) (by rfl) (fun _ => rfl) (by kernel_rfl) (Rg.StM [30, 35] (fun k x w' => TaA y S2 k x w')) (fun _ _ _ _ hL h => h.ext (n := 38) (by decide) hL) ?_ ?_ undef ?_
    case refine_1 =>
      intro x Lq iq oq ac w' ho hi hcl hdep hF hW
      have f1 : ac.tmps.size = 150 := hF.1
      match iq, ho, hi, hdep with
      | 0, ho, hi, hdep =>
        cases ho
        have da0 : ac.eval (.tmp 15) = .pointer (some ⟨x3.heap.size, 0, none⟩) := hF.old 15 rfl
        obtain ⟨kq, hlo, hhi, hA⟩ := hW.range 0 0 (.inl rfl) (.inr ⟨30, rfl, (Rg.no_of (fun h => hcl 2 _ rfl (hcl 3 _ rfl (hcl 8 _ rfl (hcl 13 _ rfl (hcl 18 _ rfl (hcl 27 _ rfl (hcl 28 _ rfl (hcl 30 _ rfl (h) ⟨28, .chain⟩ (by simp) rfl) ⟨27, .data⟩ (by simp) rfl) ⟨18, .data⟩ (by simp) rfl) ⟨13, .chain⟩ (by simp) rfl) ⟨8, .chain⟩ (by simp) rfl) ⟨3, .chain⟩ (by simp) rfl) ⟨2, .data⟩ (by simp) rfl) ⟨0, .data⟩ (by simp) rfl) hi)⟩)
        exact Ord.ex_value x rfl rfl (Rg.load da0 rfl (by simp [go_sem, (HC.out _ hA.bel).1, (HC.out _ hA.bel).2.1])) rfl (hW.keep (by decide))
      | 1, ho, hi, hdep =>
        cases ho
        have da0 : ac.eval (.tmp 17) = .pointer (some ⟨x4.heap.size, 0, none⟩) := hF.old 17 rfl
        obtain ⟨kq, hlo, hhi, hA⟩ := hW.range 0 0 (.inl rfl) (.inr ⟨30, rfl, (Rg.no_of (fun h => hcl 2 _ rfl (hcl 3 _ rfl (hcl 8 _ rfl (hcl 13 _ rfl (hcl 18 _ rfl (hcl 27 _ rfl (hcl 28 _ rfl (hcl 30 _ rfl (h) ⟨28, .chain⟩ (by simp) rfl) ⟨27, .data⟩ (by simp) rfl) ⟨18, .data⟩ (by simp) rfl) ⟨13, .chain⟩ (by simp) rfl) ⟨8, .chain⟩ (by simp) rfl) ⟨3, .chain⟩ (by simp) rfl) ⟨2, .data⟩ (by simp) rfl) ⟨1, .data⟩ (by simp) rfl) hi)⟩)
        exact Ord.ex_value x rfl rfl (Rg.load da0 rfl (by simp [go_sem, (HC.out _ hA.bel).2.2.1, (HC.out _ hA.bel).2.2.2.1])) rfl (hW.keep (by decide))
      | 2, ho, hi, hdep =>
        cases ho
        have da0 : ac.eval (.tmp 113) = .agg #[.int .i64 dn.1, .int .i64 dn.2] := hF.2.2.2 0 113 _ rfl (hdep ⟨0, .data⟩ (by simp) rfl)
        have da1 : ac.eval (.tmp 114) = .agg #[.int .i64 dn.1, .int .i64 dn.2] := hF.2.2.2 1 114 _ rfl (hdep ⟨1, .data⟩ (by simp) rfl)
        exact Ord.ex_value x rfl rfl (Rg.bin da0 da1 rfl (by simp [go_sem])) rfl (hW.keep (by decide))
      | 3, ho, hi, hdep =>
        cases ho
        have da0 : ac.eval (.tmp 115) = .bool true := hF.2.2.2 2 115 _ rfl (hdep ⟨2, .data⟩ (by simp) rfl)
        exact Ord.ex_value x rfl rfl (Rg.mv da0 rfl) rfl (hW.keep (by decide))
      | 4, ho, hi, hdep =>
        cases ho
        have dg : ac.eval (.tmp 116) = .bool true := hF.2.2.2 3 116 _ rfl (hdep ⟨3, .guard⟩ (by simp) rfl)
        have da0 : ac.eval (.tmp 16) = .bool hb := hF.old 16 rfl
        exact Ord.ex_value x rfl (Ord.wanted_of dg (by rw [f1]; decide) rfl rfl) (Rg.mv da0 rfl) rfl (hW.keep (by decide))
      | 5, ho, hi, hdep =>
        cases ho
        have dg : ac.eval (.tmp 116) = .bool true := hF.2.2.2 3 116 _ rfl (hdep ⟨3, .guard⟩ (by simp) rfl)
        have da0 : ac.eval (.tmp 18) = .bool hb := hF.old 18 rfl
        exact Ord.ex_value x rfl (Ord.wanted_of dg (by rw [f1]; decide) rfl rfl) (Rg.mv da0 rfl) rfl (hW.keep (by decide))
      | 6, ho, hi, hdep =>
        cases ho
        have dg : ac.eval (.tmp 116) = .bool true := hF.2.2.2 3 116 _ rfl (hdep ⟨3, .guard⟩ (by simp) rfl)
        have da0 : ac.eval (.tmp 117) = .bool hb := hF.2.2.2 4 117 _ rfl (hdep ⟨4, .data⟩ (by simp) rfl)
        have da1 : ac.eval (.tmp 118) = .bool hb := hF.2.2.2 5 118 _ rfl (hdep ⟨5, .data⟩ (by simp) rfl)
        exact Ord.ex_value x rfl (Ord.wanted_of dg (by rw [f1]; decide) rfl rfl) (Rg.bin da0 da1 rfl (by simp [go_sem])) rfl (hW.keep (by decide))
      | 7, ho, hi, hdep =>
        cases ho
        have da0 : ac.eval (.tmp 116) = .bool true := hF.2.2.2 3 116 _ rfl (hdep ⟨3, .data⟩ (by simp) rfl)
        have da1 : ac.eval (.tmp 119) = .bool true := hF.2.2.2 6 119 _ rfl (hdep ⟨6, .data⟩ (by simp) rfl)
        exact Ord.ex_value x rfl rfl (Rg.pick_t da0 da1 rfl) rfl (hW.keep (by decide))
      | 8, ho, hi, hdep =>
        cases ho
        have da0 : ac.eval (.tmp 120) = .bool true := hF.2.2.2 7 120 _ rfl (hdep ⟨7, .data⟩ (by simp) rfl)
        exact Ord.ex_value x rfl rfl (Rg.mv da0 rfl) rfl (hW.keep (by decide))
      | 9, ho, hi, hdep =>
        cases ho
        have dg : ac.eval (.tmp 121) = .bool true := hF.2.2.2 8 121 _ rfl (hdep ⟨8, .guard⟩ (by simp) rfl)
        have da0 : ac.eval (.tmp 19) = .int .i64 gi := hF.old 19 rfl
        exact Ord.ex_value x rfl (Ord.wanted_of dg (by rw [f1]; decide) rfl rfl) (Rg.mv da0 rfl) rfl (hW.keep (by decide))
      | 10, ho, hi, hdep =>
        cases ho
        have dg : ac.eval (.tmp 121) = .bool true := hF.2.2.2 8 121 _ rfl (hdep ⟨8, .guard⟩ (by simp) rfl)
        have da0 : ac.eval (.tmp 21) = .int .i64 gi := hF.old 21 rfl
        exact Ord.ex_value x rfl (Ord.wanted_of dg (by rw [f1]; decide) rfl rfl) (Rg.mv da0 rfl) rfl (hW.keep (by decide))
      | 11, ho, hi, hdep =>
        cases ho
        have dg : ac.eval (.tmp 121) = .bool true := hF.2.2.2 8 121 _ rfl (hdep ⟨8, .guard⟩ (by simp) rfl)
        have da0 : ac.eval (.tmp 122) = .int .i64 gi := hF.2.2.2 9 122 _ rfl (hdep ⟨9, .data⟩ (by simp) rfl)
        have da1 : ac.eval (.tmp 123) = .int .i64 gi := hF.2.2.2 10 123 _ rfl (hdep ⟨10, .data⟩ (by simp) rfl)
        exact Ord.ex_value x rfl (Ord.wanted_of dg (by rw [f1]; decide) rfl rfl) (Rg.bin da0 da1 rfl (by simp [go_sem])) rfl (hW.keep (by decide))
      | 12, ho, hi, hdep =>
        cases ho
        have da0 : ac.eval (.tmp 121) = .bool true := hF.2.2.2 8 121 _ rfl (hdep ⟨8, .data⟩ (by simp) rfl)
        have da1 : ac.eval (.tmp 124) = .bool true := hF.2.2.2 11 124 _ rfl (hdep ⟨11, .data⟩ (by simp) rfl)
        exact Ord.ex_value x rfl rfl (Rg.pick_t da0 da1 rfl) rfl (hW.keep (by decide))
      | 13, ho, hi, hdep =>
        cases ho
        have da0 : ac.eval (.tmp 125) = .bool true := hF.2.2.2 12 125 _ rfl (hdep ⟨12, .data⟩ (by simp) rfl)
        exact Ord.ex_value x rfl rfl (Rg.mv da0 rfl) rfl (hW.keep (by decide))
      | 14, ho, hi, hdep =>
        cases ho
        have dg : ac.eval (.tmp 126) = .bool true := hF.2.2.2 13 126 _ rfl (hdep ⟨13, .guard⟩ (by simp) rfl)
        have da0 : ac.eval (.tmp 20) = .bool gb := hF.old 20 rfl
        exact Ord.ex_value x rfl (Ord.wanted_of dg (by rw [f1]; decide) rfl rfl) (Rg.mv da0 rfl) rfl (hW.keep (by decide))
      | 15, ho, hi, hdep =>
        cases ho
        have dg : ac.eval (.tmp 126) = .bool true := hF.2.2.2 13 126 _ rfl (hdep ⟨13, .guard⟩ (by simp) rfl)
        have da0 : ac.eval (.tmp 22) = .bool gb := hF.old 22 rfl
        exact Ord.ex_value x rfl (Ord.wanted_of dg (by rw [f1]; decide) rfl rfl) (Rg.mv da0 rfl) rfl (hW.keep (by decide))
      | 16, ho, hi, hdep =>
        cases ho
        have dg : ac.eval (.tmp 126) = .bool true := hF.2.2.2 13 126 _ rfl (hdep ⟨13, .guard⟩ (by simp) rfl)
        have da0 : ac.eval (.tmp 127) = .bool gb := hF.2.2.2 14 127 _ rfl (hdep ⟨14, .data⟩ (by simp) rfl)
        have da1 : ac.eval (.tmp 128) = .bool gb := hF.2.2.2 15 128 _ rfl (hdep ⟨15, .data⟩ (by simp) rfl)
        exact Ord.ex_value x rfl (Ord.wanted_of dg (by rw [f1]; decide) rfl rfl) (Rg.bin da0 da1 rfl (by simp [go_sem])) rfl (hW.keep (by decide))
      | 17, ho, hi, hdep =>
        cases ho
        have da0 : ac.eval (.tmp 126) = .bool true := hF.2.2.2 13 126 _ rfl (hdep ⟨13, .data⟩ (by simp) rfl)
        have da1 : ac.eval (.tmp 129) = .bool true := hF.2.2.2 16 129 _ rfl (hdep ⟨16, .data⟩ (by simp) rfl)
        exact Ord.ex_value x rfl rfl (Rg.pick_t da0 da1 rfl) rfl (hW.keep (by decide))
      | 18, ho, hi, hdep =>
        cases ho
        have da0 : ac.eval (.tmp 130) = .bool true := hF.2.2.2 17 130 _ rfl (hdep ⟨17, .data⟩ (by simp) rfl)
        exact Ord.ex_value x rfl rfl (Rg.mv da0 rfl) rfl (hW.keep (by decide))
      | 19, ho, hi, hdep =>
        cases ho
        have dg : ac.eval (.tmp 131) = .bool true := hF.2.2.2 18 131 _ rfl (hdep ⟨18, .guard⟩ (by simp) rfl)
        have da0 : ac.eval (.tmp 0) = .pointer (some ⟨t, 0, none⟩) := hF.old 0 rfl
        exact Ord.ex_value x rfl (Ord.wanted_of dg (by rw [f1]; decide) rfl rfl) (Rg.mv da0 rfl) rfl (hW.keep (by decide))
      | 20, ho, hi, hdep =>
        cases ho
        have dg : ac.eval (.tmp 131) = .bool true := hF.2.2.2 18 131 _ rfl (hdep ⟨18, .guard⟩ (by simp) rfl)
        have da0 : ac.eval (.tmp 132) = .pointer (some ⟨t, 0, none⟩) := hF.2.2.2 19 132 _ rfl (hdep ⟨19, .data⟩ (by simp) rfl)
        obtain ⟨kq, hlo, hhi, hA⟩ := hW.range 0 0 (.inl rfl) (.inr ⟨30, rfl, (Rg.no_of (fun h => hcl 28 _ rfl (hcl 30 _ rfl (h) ⟨28, .chain⟩ (by simp) rfl) ⟨20, .chain⟩ (by simp) rfl) hi)⟩)
        exact Rg.ex_call x rfl (Ord.wanted_of dg (by rw [f1]; decide) rfl rfl) (Rg.enter (args := #[.pointer (some ⟨t, 0, none⟩)]) rfl rfl (by simp [da0]) EL.out) (Calls.mono (HLE.out _ hA.bel) (by rintro e w2 ⟨rfl, rfl⟩; exact ⟨rfl, (hW.keep (by decide))⟩))
      | 21, ho, hi, hdep =>
        cases ho
        have dg : ac.eval (.tmp 131) = .bool true := hF.2.2.2 18 131 _ rfl (hdep ⟨18, .guard⟩ (by simp) rfl)
        have da0 : ac.eval (.tmp 1) = .pointer (some ⟨r, 0, none⟩) := hF.old 1 rfl
        exact Ord.ex_value x rfl (Ord.wanted_of dg (by rw [f1]; decide) rfl rfl) (Rg.mv da0 rfl) rfl (hW.keep (by decide))
      | 22, ho, hi, hdep =>
        cases ho
        have dg : ac.eval (.tmp 131) = .bool true := hF.2.2.2 18 131 _ rfl (hdep ⟨18, .guard⟩ (by simp) rfl)
        have da0 : ac.eval (.tmp 134) = .pointer (some ⟨r, 0, none⟩) := hF.2.2.2 21 134 _ rfl (hdep ⟨21, .data⟩ (by simp) rfl)
        exact Ord.ex_value x rfl (Ord.wanted_of dg (by rw [f1]; decide) rfl rfl) (Rg.nilc da0 rfl) rfl (hW.keep (by decide))
      | 23, ho, hi, hdep =>
        cases ho
        have dg : ac.eval (.tmp 131) = .bool true := hF.2.2.2 18 131 _ rfl (hdep ⟨18, .guard⟩ (by simp) rfl)
        have da0 : ac.eval (.tmp 135) = .pointer (some ⟨r, 0, none⟩) := hF.2.2.2 22 135 _ rfl (hdep ⟨22, .data⟩ (by simp) rfl)
        exact Ord.ex_value x rfl (Ord.wanted_of dg (by rw [f1]; decide) rfl rfl) (Rg.fa da0 rfl (by simp [go_sem])) rfl (hW.keep (by decide))
      | 24, ho, hi, hdep =>
        cases ho
        have dg : ac.eval (.tmp 131) = .bool true := hF.2.2.2 18 131 _ rfl (hdep ⟨18, .guard⟩ (by simp) rfl)
        have da0 : ac.eval (.tmp 136) = .pointer (some ⟨r, 0, none⟩) := hF.2.2.2 23 136 _ rfl (hdep ⟨23, .data⟩ (by simp) rfl)
        obtain ⟨kq, hlo, hhi, hA⟩ := hW.range 0 0 (.inl rfl) (.inr ⟨30, rfl, (Rg.no_of (fun h => hcl 25 _ rfl (hcl 26 _ rfl (hcl 27 _ rfl (hcl 28 _ rfl (hcl 30 _ rfl (h) ⟨28, .chain⟩ (by simp) rfl) ⟨27, .data⟩ (by simp) rfl) ⟨26, .data⟩ (by simp) rfl) ⟨25, .data⟩ (by simp) rfl) ⟨24, .data⟩ (by simp) rfl) hi)⟩)
        exact Ord.ex_value x rfl (Ord.wanted_of dg (by rw [f1]; decide) rfl rfl) (Rg.load da0 rfl (by simp [go_sem, (HC.out _ hA.bel).2.2.2.2])) rfl (hW.keep (by decide))
      | 25, ho, hi, hdep =>
        cases ho
        have dg : ac.eval (.tmp 131) = .bool true := hF.2.2.2 18 131 _ rfl (hdep ⟨18, .guard⟩ (by simp) rfl)
        have da0 : ac.eval (.tmp 137) = .slice la lnS lcap := hF.2.2.2 24 137 _ rfl (hdep ⟨24, .data⟩ (by simp) rfl)
        exact Ord.ex_value x rfl (Ord.wanted_of dg (by rw [f1]; decide) rfl rfl) (Rg.len_ da0 rfl (by simp [go_sem])) rfl (hW.keep (by decide))
      | 26, ho, hi, hdep =>
        cases ho
        have dg : ac.eval (.tmp 131) = .bool true := hF.2.2.2 18 131 _ rfl (hdep ⟨18, .guard⟩ (by simp) rfl)
        have da0 : ac.eval (.tmp 133) = .int .i64 (lnS : Int) := hF.2.2.2 20 133 _ rfl (hdep ⟨20, .data⟩ (by simp) rfl)
        have da1 : ac.eval (.tmp 138) = .int .i64 (lnS : Int) := hF.2.2.2 25 138 _ rfl (hdep ⟨25, .data⟩ (by simp) rfl)
        exact Ord.ex_value x rfl (Ord.wanted_of dg (by rw [f1]; decide) rfl rfl) (Rg.bin da0 da1 rfl (by simp [go_sem])) rfl (hW.keep (by decide))
      | 27, ho, hi, hdep =>
        cases ho
        have da0 : ac.eval (.tmp 131) = .bool true := hF.2.2.2 18 131 _ rfl (hdep ⟨18, .data⟩ (by simp) rfl)
        have da1 : ac.eval (.tmp 139) = .bool true := hF.2.2.2 26 139 _ rfl (hdep ⟨26, .data⟩ (by simp) rfl)
        exact Ord.ex_value x rfl rfl (Rg.pick_t da0 da1 rfl) rfl (hW.keep (by decide))
      | 28, ho, hi, hdep =>
        cases ho
        have da0 : ac.eval (.tmp 140) = .bool true := hF.2.2.2 27 140 _ rfl (hdep ⟨27, .data⟩ (by simp) rfl)
        exact Ord.ex_value x rfl rfl (Rg.mv da0 rfl) rfl (hW.keep (by decide))
      | 29, ho, hi, hdep =>
        cases ho
        have dg : ac.eval (.tmp 141) = .bool true := hF.2.2.2 28 141 _ rfl (hdep ⟨28, .guard⟩ (by simp) rfl)
        have da0 : ac.eval (.tmp 0) = .pointer (some ⟨t, 0, none⟩) := hF.old 0 rfl
        exact Ord.ex_value x rfl (Ord.wanted_of dg (by rw [f1]; decide) rfl rfl) (Rg.mv da0 rfl) rfl (hW.keep (by decide))
      | 30, ho, hi, hdep =>
        cases ho
        have dg : ac.eval (.tmp 141) = .bool true := hF.2.2.2 28 141 _ rfl (hdep ⟨28, .guard⟩ (by simp) rfl)
        have da0 : ac.eval (.tmp 142) = .pointer (some ⟨t, 0, none⟩) := hF.2.2.2 29 142 _ rfl (hdep ⟨29, .data⟩ (by simp) rfl)
        have hA := hW.at (k := 0) rfl hi (.inl rfl)
        refine Rg.ex_calll x rfl (Ord.wanted_of dg (by rw [f1]; decide) rfl rfl) (Rg.enter (args := #[.pointer (some ⟨t, 0, none⟩)]) rfl rfl (by simp [da0]) EA.out) (Calls.mono (HAL.out _ hA.bel) ?_)
        rintro e w2 ⟨v, rfl, hr, hB⟩
        exact ⟨v, rfl, (fun j hj => match j, hj with | 0, _ => rfl | 1, _ => rfl | 2, _ => rfl | 3, _ => rfl | 4, _ => rfl | 5, _ => rfl | 6, _ => rfl | 7, _ => rfl | 8, _ => rfl | 9, _ => rfl | 10, _ => rfl | 11, _ => rfl | 12, _ => rfl | 13, _ => rfl | 14, _ => rfl | 15, _ => rfl | 16, _ => rfl | 17, _ => rfl | 18, _ => rfl | 19, _ => rfl | 20, _ => rfl | 21, _ => rfl | 22, _ => rfl | 23, _ => rfl | 24, _ => rfl | 25, _ => rfl | 26, _ => rfl | 27, _ => rfl | 28, _ => rfl | 29, _ => rfl | 30, hj => absurd hj (by rw [hi]; decide) | 31, _ => rfl | 32, _ => rfl | 33, _ => rfl | 34, _ => rfl | 35, _ => rfl | 36, _ => rfl | 37, _ => rfl | _ + 38, _ => rfl), hW.next (k := 0) rfl (by decide) hi (.inl rfl) ⟨hA.bel.trans (hB.mono hA.bel.size), fun _ => hr⟩⟩
      | 31, ho, hi, hdep =>
        cases ho
        have dg : ac.eval (.tmp 141) = .bool true := hF.2.2.2 28 141 _ rfl (hdep ⟨28, .guard⟩ (by simp) rfl)
        have da0 : ac.eval (.tmp 1) = .pointer (some ⟨r, 0, none⟩) := hF.old 1 rfl
        exact Ord.ex_value x rfl (Ord.wanted_of dg (by rw [f1]; decide) rfl rfl) (Rg.mv da0 rfl) rfl (hW.keep (by decide))
      | 32, ho, hi, hdep =>
        cases ho
        have dg : ac.eval (.tmp 141) = .bool true := hF.2.2.2 28 141 _ rfl (hdep ⟨28, .guard⟩ (by simp) rfl)
        have da0 : ac.eval (.tmp 144) = .pointer (some ⟨r, 0, none⟩) := hF.2.2.2 31 144 _ rfl (hdep ⟨31, .data⟩ (by simp) rfl)
        exact Ord.ex_value x rfl (Ord.wanted_of dg (by rw [f1]; decide) rfl rfl) (Rg.nilc da0 rfl) rfl (hW.keep (by decide))
      | 33, ho, hi, hdep =>
        cases ho
        have dg : ac.eval (.tmp 141) = .bool true := hF.2.2.2 28 141 _ rfl (hdep ⟨28, .guard⟩ (by simp) rfl)
        have da0 : ac.eval (.tmp 145) = .pointer (some ⟨r, 0, none⟩) := hF.2.2.2 32 145 _ rfl (hdep ⟨32, .data⟩ (by simp) rfl)
        exact Ord.ex_value x rfl (Ord.wanted_of dg (by rw [f1]; decide) rfl rfl) (Rg.fa da0 rfl (by simp [go_sem])) rfl (hW.keep (by decide))
      | 34, ho, hi, hdep =>
        cases ho
        have dg : ac.eval (.tmp 141) = .bool true := hF.2.2.2 28 141 _ rfl (hdep ⟨28, .guard⟩ (by simp) rfl)
        have da0 : ac.eval (.tmp 146) = .pointer (some ⟨r, 0, none⟩) := hF.2.2.2 33 146 _ rfl (hdep ⟨33, .data⟩ (by simp) rfl)
        obtain ⟨kq, hlo, hhi, hA⟩ := hW.range 0 1 (.inl rfl) (.inr ⟨35, rfl, (Rg.no_of (fun h => hcl 35 _ rfl (h) ⟨34, .data⟩ (by simp) rfl) hi)⟩)
        exact Ord.ex_value x rfl (Ord.wanted_of dg (by rw [f1]; decide) rfl rfl) (Rg.load da0 rfl (by simp [go_sem, (HC.out _ hA.bel).2.2.2.2])) rfl (hW.keep (by decide))
      | 35, ho, hi, hdep =>
        cases ho
        have dg : ac.eval (.tmp 141) = .bool true := hF.2.2.2 28 141 _ rfl (hdep ⟨28, .guard⟩ (by simp) rfl)
        have da0 : ac.eval (.tmp 143) = x := hF.2.2.2 30 143 _ rfl (hdep ⟨30, .data⟩ (by simp) rfl)
        have da1 : ac.eval (.tmp 147) = .slice la lnS lcap := hF.2.2.2 34 147 _ rfl (hdep ⟨34, .data⟩ (by simp) rfl)
        have hA := hW.at (k := 1) rfl hi (.inr ⟨30, rfl, (hdep ⟨30, .data⟩ (by simp) rfl)⟩)
        exact Rg.ex_call x rfl (Ord.wanted_of dg (by rw [f1]; decide) rfl rfl) (Rg.enter (args := #[x, .slice la lnS lcap]) rfl rfl (by simp [da0, da1]) ES.out) (Calls.mono (HSA.out _ _ hA.bel (hA.h1 (Nat.le_refl _))) (by rintro e w2 ⟨rfl, hB⟩; exact ⟨rfl, hW.next (k := 1) rfl (by decide) hi (.inr ⟨30, rfl, (hdep ⟨30, .data⟩ (by simp) rfl)⟩) ⟨hA.bel.trans (hB.mono hA.bel.size), fun _ => (hA.h1 (Nat.le_refl _)).later hB⟩⟩))
      | 36, ho, hi, hdep =>
        cases ho
        have da0 : ac.eval (.tmp 141) = .bool true := hF.2.2.2 28 141 _ rfl (hdep ⟨28, .data⟩ (by simp) rfl)
        have da1 : ac.eval (.tmp 148) = .bool true := hF.2.2.2 35 148 _ rfl (hdep ⟨35, .data⟩ (by simp) rfl)
        exact Ord.ex_value x rfl rfl (Rg.pick_t da0 da1 rfl) rfl (hW.keep (by decide))
      | 37, ho, hi, hdep =>
        cases ho
        have da0 : ac.eval (.tmp 149) = .bool true := hF.2.2.2 36 149 _ rfl (hdep ⟨36, .data⟩ (by simp) rfl)
        exact Ord.ex_value x rfl rfl (Rg.asg da0 rfl) rfl (hW.keep (by decide))
    case refine_3 => exact Rg.StM.first ⟨(Below.refl _ y).drew, fun e => absurd e (by decide)⟩
    case refine_2 =>
      intro x w' hW
      have HW := hidden hW.last
      clear hW
      simp only [Ord.puts, Ord.prs]
      go_simp
      go_wp2
      go_ret
      exact FIN.out _ _ _ HP2.out (HBY.out.trans (HW.out.bel.mono HBY.out.size))
set_option maxHeartbeats 2000000 in
set_option maxRecDepth 20000 in
theorem step2 {w0 w : World} {F0 : List Nat} {t r : Nat} {S : List D} {l : Int} (h : Pr w0 F0 w t r S S l l) (kI id tm : Int) (hi : I64 id) (hk : kI = 2) : Calls Try.prog 9 #[.pointer (some ⟨t, 0, none⟩), .pointer (some ⟨r, 0, none⟩), .agg #[.int .i64 kI, .int .i64 id, .int .i64 tm]] w fun e w' => StepO w0 t r F0 e w' := by
  subst hk
  obtain ⟨F, G, h1, h2, h3, h4, h5⟩ := h
  obtain ⟨W1, hW1⟩ : ∃ W1, W1 = w.alloc (.cells #[.int .i64 2, .int .i64 id, .int .i64 tm] 32) := ⟨_, rfl⟩
  obtain ⟨F1, hF1⟩ : ∃ F1, F1 = F ++ G := ⟨_, rfl⟩
  have hBW : Below w.heap.size w W1 := by rw [hW1]; exact (Below.refl _ w).alloc (Nat.le_refl _) _
  have hbox : Has W1 w.heap.size #[.int .i64 2, .int .i64 id, .int .i64 tm] 32 := by rw [hW1]; exact Has.new w _ _
  have hnF : w.heap.size ∉ F1 := by
    rw [hF1]
    intro hh
    rcases List.mem_append.1 hh with hh | hh
    · have := h1.lt _ hh; omega
    · have := h2.lt _ hh; omega
  have HBX : Hid (∀ {S R : List D} {l1 l2 : Int} (x : World), Pr W1 F1 x t r S R l1 l2 → Has x w.heap.size #[.int .i64 2, .int .i64 id, .int .i64 tm] 32) := fun x hx => by
    obtain ⟨_, _, _, _, _, ho, _⟩ := hx
    exact hbox.stay ho hnF
  have HP := hidden (show Pr W1 F1 W1 t r S S l l from ⟨F, G, h1.later hBW, h2.later hBW, h3, Only.refl _ _, by rw [hF1]; exact In.refl _ _⟩)
  have HK := hidden h1.ok.2.1
  have FIN : Hid (∀ (x w' : World) (S2 : List D) {L2 : Int}, Pr W1 F1 x t r S2 S2 L2 L2 → Below x.heap.size x w' → StepO w0 t r F0 (.returned (.bool true)) w') := fun x w' S2 L2 hp hB => by
    obtain ⟨F2, G2, g1, g2, g3, g4, g5⟩ := hp.later hB
    refine ⟨rfl, S2, L2, F2, G2, g1, g2, g3, ?_, ?_⟩
    · exact (h4.then (Only.of_below hBW)).trans g4 (by rw [hF1]; exact h5)
    · refine In.trans (w' := W1) (G := F1) (by rw [hF1]; exact h5) g5 (Nat.le_trans h4.size hBW.size)
  have HID := hidden hi
  have HW1 := hidden hW1
  have hlW : w.heap.size < W1.heap.size := hbox.lt
  have E1 : Hid (∀ (args : Array Value) (w : World), (callFunc 10 args).run Try.prog w = .ok (.enter 10 args) w) := enters_of Try.func10 (by kernel_rfl) rfl
  have E2 : Hid (∀ (args : Array Value) (w : World), (callFunc 25 args).run Try.prog w = .ok (.enter 25 args) w) := enters_of Try.func25 (by kernel_rfl) rfl
  have EL : Hid (∀ (args : Array Value) (w : World), (callFunc 14 args).run Try.prog w = .ok (.enter 14 args) w) := enters_of Try.func14 (by kernel_rfl) rfl
  have EA : Hid (∀ (args : Array Value) (w : World), (callFunc 17 args).run Try.prog w = .ok (.enter 17 args) w) := enters_of Try.func17 (by kernel_rfl) rfl
  have ES : Hid (∀ (args : Array Value) (w : World), (callFunc 16 args).run Try.prog w = .ok (.enter 16 args) w) := enters_of Try.func16 (by kernel_rfl) rfl
  clear h1 h2 h3 h4 h5 hBW hbox hF1 hnF hi hW1
  go_enter Try.func9, Try.ntmps9
  have bx1 := (HBX.out _ HP.out).cell 1 rfl
  go_upto_region 6 with fail
  rw [← HW1.out]
  go_wp2_with fail
  refine Calls.mono (HP.out.stop id HID.out) ?_
  rintro e x1 ⟨rfl, hP1⟩
  have HP1 := hidden hP1
  have bx2 := (HBX.out _ HP1.out).cell 1 rfl
  clear hP1
  go_wp2_with fail
  refine Calls.mono (HP1.out.rstop id) ?_
  rintro e x2 ⟨rfl, hP2⟩
  have HP2 := hidden hP2
  clear hP2 bx1 bx2
  generalize stopB id S = sb
  generalize stopE id = se
  obtain ⟨S2, hS2⟩ : ∃ S2, S2 = stopS id S := ⟨_, rfl⟩
  obtain ⟨L2, hL2⟩ : ∃ L2, L2 = l := ⟨_, rfl⟩
  rw [← hS2, ← hL2] at HP2
  clear hS2 hL2
  have bx1 := (HBX.out _ HP2.out).cell 1 rfl
  obtain ⟨fF, fG, p1, p2, p3, p4, p5⟩ := HP2.out
  obtain ⟨lv, rfl, q1, q2, q3⟩ := p2
  obtain ⟨la, lcap, hlv⟩ := own_len q2
  have crl := q1.cell 0 rfl
  have hrlt := q1.lt
  have hlR := Own.rw q2 (by omega)
  obtain ⟨lnS, hlnS⟩ : ∃ lnS, lnS = S2.length := ⟨_, rfl⟩
  rw [show (#[lv, .int .i64 L2] : Array Value)[0] = .slice la lnS lcap by rw [hlnS]; exact hlv] at crl
  rw [hlv, ← hlnS] at hlR
  obtain ⟨dn, hb, hnx⟩ : ∃ (dn : D) (hb : Bool), nextV S2 = .tuple #[.agg #[.int .i64 dn.1, .int .i64 dn.2], .bool hb] := ⟨_, _, rfl⟩
  obtain ⟨gi, gb, hgt⟩ : ∃ (gi : Int) (gb : Bool), getV id S2 = .tuple #[.int .i64 gi, .bool gb] := ⟨_, _, rfl⟩
  have HN1 : Hid (∀ x, Below x2.heap.size x2 x → Calls Try.prog 19 #[.pointer (some ⟨t, 0, none⟩)] x fun e w' => e = .returned (.tuple #[.agg #[.int .i64 dn.1, .int .i64 dn.2], .bool hb]) ∧ Below x.heap.size x w') := fun x hx => by rw [← hnx]; exact tnext (p1.later hx)
  have HRT : Hid (RT x2 r S2 L2 (r :: lv.ownBlock.toList)) := ⟨lv, rfl, q1, q2, q3⟩
  have HN2 : Hid (∀ x, Below x2.heap.size x2 x → Calls Try.prog 28 #[.pointer (some ⟨r, 0, none⟩)] x fun e w' => e = .returned (.tuple #[.agg #[.int .i64 dn.1, .int .i64 dn.2], .bool hb]) ∧ Below x.heap.size x w') := fun x hx => by rw [← hnx]; exact rnext (HRT.out.later hx)
  have HG1 : Hid (∀ x, Below x2.heap.size x2 x → Calls Try.prog 18 #[.pointer (some ⟨t, 0, none⟩), .int .i64 id] x fun e w' => e = .returned (.tuple #[.int .i64 gi, .bool gb]) ∧ Below x.heap.size x w') := fun x hx => by rw [← hgt]; exact tget (p1.later hx) id HID.out
  have HG2 : Hid (∀ x, Below x2.heap.size x2 x → Calls Try.prog 29 #[.pointer (some ⟨r, 0, none⟩), .int .i64 id] x fun e w' => e = .returned (.tuple #[.int .i64 gi, .bool gb]) ∧ x = w') := fun x hx => by rw [← hgt]; exact rget (HRT.out.later hx) id
  have HT2 := hidden p1
  have HLR := hidden hlR
  have HLS := hidden hlnS
  have HBB := hidden (HBX.out _ HP2.out)
  clear p1 p3 p4 p5 q1 q2 q3 hlv hlR hlnS hnx hgt HBX
  go_wp2_with fail
  refine Calls.mono (HN1.out _ (Below.refl _ _)) ?_
  rintro e x3 ⟨rfl, hB3⟩
  obtain ⟨y1, hy1⟩ : ∃ y1, y1 = x3.alloc (.cells #[.int .i64 dn.1, .int .i64 dn.2] 43) := ⟨_, rfl⟩
  have hBy1 : Below x2.heap.size x2 y1 := by rw [hy1]; exact hB3.alloc hB3.size _
  have hb1 : Has y1 x3.heap.size #[.int .i64 dn.1, .int .i64 dn.2] 43 := by rw [hy1]; exact Has.new x3 _ _
  have HY1 := hidden hy1
  have HBY1 := hidden hBy1
  have HB1 := hidden hb1
  clear hB3 hy1 hBy1 hb1 HN1
  go_upto_region 16 with fail
  rw [← HY1.out]
  go_wp2_with fail
  refine Calls.mono (HN2.out _ HBY1.out) ?_
  rintro e x4 ⟨rfl, hB4⟩
  obtain ⟨y2, hy2⟩ : ∃ y2, y2 = x4.alloc (.cells #[.int .i64 dn.1, .int .i64 dn.2] 43) := ⟨_, rfl⟩
  have hBy2 : Below y1.heap.size y1 y2 := by rw [hy2]; exact hB4.alloc hB4.size _
  have hb2 : Has y2 x4.heap.size #[.int .i64 dn.1, .int .i64 dn.2] 43 := by rw [hy2]; exact Has.new x4 _ _
  have hb1 := HB1.out.later hBy2
  have hB02 : Below x2.heap.size x2 y2 := HBY1.out.trans (hBy2.mono HBY1.out.size)
  have bb1 := (HBB.out.later hB02).cell 1 rfl
  have HY2 := hidden hy2
  have HBY2 := hidden hB02
  have HB2 := hidden hb2
  have HB1b := hidden hb1
  clear hB4 hy2 hBy2 hb1 hb2 hB02 HN2 HB1 HY1 HBY1
  go_upto_region 17 with fail
  rw [← HY2.out]
  go_wp2_with fail
  refine Calls.mono (HG1.out _ HBY2.out) ?_
  rintro e y ⟨rfl, hB5⟩
  have hB0y : Below x2.heap.size x2 y := HBY2.out.trans (hB5.mono HBY2.out.size)
  have bb2 := (HBB.out.later hB0y).cell 1 rfl
  have hb1 := HB1b.out.later hB5
  have hb2 := HB2.out.later hB5
  have HBY := hidden hB0y
  have HC : Hid (∀ w', Below y.heap.size y w' → w'.cell? ⟨x3.heap.size, 0, none⟩ = some (.int .i64 dn.1) ∧ w'.cell? ⟨x3.heap.size, 1, none⟩ = some (.int .i64 dn.2) ∧ w'.cell? ⟨x4.heap.size, 0, none⟩ = some (.int .i64 dn.1) ∧ w'.cell? ⟨x4.heap.size, 1, none⟩ = some (.int .i64 dn.2) ∧ w'.cell? ⟨r, 0, none⟩ = some (.slice la lnS lcap)) := fun w' hw => ⟨(hb1.later hw).cell 0 rfl, (hb1.later hw).cell 1 rfl, (hb2.later hw).cell 0 rfl, (hb2.later hw).cell 1 rfl, ((hB0y.trans (hw.mono hB0y.size)).cell (p := ⟨r, 0, none⟩) hrlt).trans crl⟩
  have HLE : Hid (∀ x, Below y.heap.size y x → Calls Try.prog 14 #[.pointer (some ⟨t, 0, none⟩)] x fun e w' => e = .returned (.int .i64 (lnS : Int)) ∧ x = w') := fun x hx => by rw [HLS.out]; exact tlen (HT2.out.later (hB0y.trans (hx.mono hB0y.size)))
  have HAL : Hid (∀ x, Below y.heap.size y x → Calls Try.prog 17 #[.pointer (some ⟨t, 0, none⟩)] x fun e w' => ∃ v, e = .returned v ∧ Rw w' v S2 ∧ Below x.heap.size x w') := fun x hx => tall (HT2.out.later (hB0y.trans (hx.mono hB0y.size)))
  have HSA : Hid (∀ x v, Below y.heap.size y x → Rw x v S2 → Calls Try.prog 16 #[v, .slice la lnS lcap] x fun e w' => e = .returned (.bool true) ∧ Below x.heap.size x w') := fun x v hx hv => rsame x _ _ _ hv (HLR.out.later (hB0y.trans (hx.mono hB0y.size)))
  clear hB5 hb1 hb2 hB0y HY2 HBY2 HB2 HB1b HG1 HLR HLS HRT HBB bx1 crl
  go_wp2_with fail
  refine Calls.mono (HG2.out _ HBY.out) ?_
  rintro e yy ⟨rfl, rfl⟩
  clear HG2
  go_upto_region 19 with fail
  refine Ord.wp_region_ex0 (X := Value) (by kernel_rfl) 150 (fun x => [(some 113, .agg #[.int .i64 dn.1, .int .i64 dn.2]), (some 114, .agg #[.int .i64 dn.1, .int .i64 dn.2]), (some 115, .bool true), (some 116, .bool true), (some 117, .bool hb), (some 118, .bool hb), (some 119, .bool true), (some 120, .bool true), (some 121, .bool true), (some 122, .int .i64 gi), (some 123, .int .i64 gi), (some 124, .bool true), (some 125, .bool true), (some 126, .bool true), (some 127, .bool gb), (some 128, .bool gb), (some 129, .bool true), (some 130, .bool true), (some 131, .bool true), (some 132, .pointer (some ⟨t, 0, none⟩)), (some 133, .int .i64 (lnS : Int)), (some 134, .pointer (some ⟨r, 0, none⟩)), (some 135, .pointer (some ⟨r, 0, none⟩)), (some 136, .pointer (some ⟨r, 0, none⟩)), (some 137, .slice la lnS lcap), (some 138, .int .i64 (lnS : Int)), (some 139, .bool true), (some 140, .bool true), (some 141, .bool true), (some 142, .pointer (some ⟨t, 0, none⟩)), (some 143, x), (some 144, .pointer (some ⟨r, 0, none⟩)), (some 145, .pointer (some ⟨r, 0, none⟩)), (some 146, .pointer (some ⟨r, 0, none⟩)), (some 147, .slice la lnS lcap), (some 148, .bool true), (some 149, .bool true), (some 6, .bool true)]) [some 113, some 114, some 115, some 116, some 117, some 118, some 119, some 120, some 121, some 122, some 123, some 124, some 125, some 126, some 127, some 128, some 129, some 130, some 131, some 132, some 133, some 134, some 135, some 136, some 137, some 138, some 139, some 140, some 141, some 142, some 143, some 144, some 145, some 146, some 147, some 148, some 149, some 6] rfl (fun listed hsz hr => Ord.all_listedC (rank := [0, 1, 2, 3, 4, 5, 6, 7, 8, 9, 10, 11, 12, 13, 14, 15, 16, 17, 18, 19, 20, 21, 22, 23, 24, 25, 26, 27, 28, 29, 30, 31, 32, 33, 34, 35, 36, 37]) (by kernel_rfl) hsz hr) (by rfl) (fun _ => rfl) (by kernel_rfl) (Rg.StM [30, 35] (fun k x w' => TaA y S2 k x w')) (fun _ _ _ _ hL h => h.ext (n := 38) (by decide) hL) ?_ ?_ undef ?_
  case refine_1 =>
    intro x Lq iq oq ac w' ho hi hcl hdep hF hW
    have f1 : ac.tmps.size = 150 := hF.1
    match iq, ho, hi, hdep with
    | 0, ho, hi, hdep =>
      cases ho
      have da0 : ac.eval (.tmp 15) = .pointer (some ⟨x3.heap.size, 0, none⟩) := hF.old 15 rfl
      obtain ⟨kq, hlo, hhi, hA⟩ := hW.range 0 0 (.inl rfl) (.inr ⟨30, rfl, (Rg.no_of (fun h => hcl 2 _ rfl (hcl 3 _ rfl (hcl 8 _ rfl (hcl 13 _ rfl (hcl 18 _ rfl (hcl 27 _ rfl (hcl 28 _ rfl (hcl 30 _ rfl (h) ⟨28, .chain⟩ (by simp) rfl) ⟨27, .data⟩ (by simp) rfl) ⟨18, .data⟩ (by simp) rfl) ⟨13, .chain⟩ (by simp) rfl) ⟨8, .chain⟩ (by simp) rfl) ⟨3, .chain⟩ (by simp) rfl) ⟨2, .data⟩ (by simp) rfl) ⟨0, .data⟩ (by simp) rfl) hi)⟩)
      exact Ord.ex_value x rfl rfl (Rg.load da0 rfl (by simp [go_sem, (HC.out _ hA.bel).1, (HC.out _ hA.bel).2.1])) rfl (hW.keep (by decide))
    | 1, ho, hi, hdep =>
      cases ho
      have da0 : ac.eval (.tmp 17) = .pointer (some ⟨x4.heap.size, 0, none⟩) := hF.old 17 rfl
      obtain ⟨kq, hlo, hhi, hA⟩ := hW.range 0 0 (.inl rfl) (.inr ⟨30, rfl, (Rg.no_of (fun h => hcl 2 _ rfl (hcl 3 _ rfl (hcl 8 _ rfl (hcl 13 _ rfl (hcl 18 _ rfl (hcl 27 _ rfl (hcl 28 _ rfl (hcl 30 _ rfl (h) ⟨28, .chain⟩ (by simp) rfl) ⟨27, .data⟩ (by simp) rfl) ⟨18, .data⟩ (by simp) rfl) ⟨13, .chain⟩ (by simp) rfl) ⟨8, .chain⟩ (by simp) rfl) ⟨3, .chain⟩ (by simp) rfl) ⟨2, .data⟩ (by simp) rfl) ⟨1, .data⟩ (by simp) rfl) hi)⟩)
      exact Ord.ex_value x rfl rfl (Rg.load da0 rfl (by simp [go_sem, (HC.out _ hA.bel).2.2.1, (HC.out _ hA.bel).2.2.2.1])) rfl (hW.keep (by decide))
    | 2, ho, hi, hdep =>
      cases ho
      have da0 : ac.eval (.tmp 113) = .agg #[.int .i64 dn.1, .int .i64 dn.2] := hF.2.2.2 0 113 _ rfl (hdep ⟨0, .data⟩ (by simp) rfl)
      have da1 : ac.eval (.tmp 114) = .agg #[.int .i64 dn.1, .int .i64 dn.2] := hF.2.2.2 1 114 _ rfl (hdep ⟨1, .data⟩ (by simp) rfl)
      exact Ord.ex_value x rfl rfl (Rg.bin da0 da1 rfl (by simp [go_sem])) rfl (hW.keep (by decide))
    | 3, ho, hi, hdep =>
      cases ho
      have da0 : ac.eval (.tmp 115) = .bool true := hF.2.2.2 2 115 _ rfl (hdep ⟨2, .data⟩ (by simp) rfl)
      exact Ord.ex_value x rfl rfl (Rg.mv da0 rfl) rfl (hW.keep (by decide))
    | 4, ho, hi, hdep =>
      cases ho
      have dg : ac.eval (.tmp 116) = .bool true := hF.2.2.2 3 116 _ rfl (hdep ⟨3, .guard⟩ (by simp) rfl)
      have da0 : ac.eval (.tmp 16) = .bool hb := hF.old 16 rfl
      exact Ord.ex_value x rfl (Ord.wanted_of dg (by rw [f1]; decide) rfl rfl) (Rg.mv da0 rfl) rfl (hW.keep (by decide))
    | 5, ho, hi, hdep =>
      cases ho
      have dg : ac.eval (.tmp 116) = .bool true := hF.2.2.2 3 116 _ rfl (hdep ⟨3, .guard⟩ (by simp) rfl)
      have da0 : ac.eval (.tmp 18) = .bool hb := hF.old 18 rfl
      exact Ord.ex_value x rfl (Ord.wanted_of dg (by rw [f1]; decide) rfl rfl) (Rg.mv da0 rfl) rfl (hW.keep (by decide))
    | 6, ho, hi, hdep =>
      cases ho
      have dg : ac.eval (.tmp 116) = .bool true := hF.2.2.2 3 116 _ rfl (hdep ⟨3, .guard⟩ (by simp) rfl)
      have da0 : ac.eval (.tmp 117) = .bool hb := hF.2.2.2 4 117 _ rfl (hdep ⟨4, .data⟩ (by simp) rfl)
      have da1 : ac.eval (.tmp 118) = .bool hb := hF.2.2.2 5 118 _ rfl (hdep ⟨5, .data⟩ (by simp) rfl)
      exact Ord.ex_value x rfl (Ord.wanted_of dg (by rw [f1]; decide) rfl rfl) (Rg.bin da0 da1 rfl (by simp [go_sem])) rfl (hW.keep (by decide))
    | 7, ho, hi, hdep =>
      cases ho
      have da0 : ac.eval (.tmp 116) = .bool true := hF.2.2.2 3 116 _ rfl (hdep ⟨3, .data⟩ (by simp) rfl)
      have da1 : ac.eval (.tmp 119) = .bool true := hF.2.2.2 6 119 _ rfl (hdep ⟨6, .data⟩ (by simp) rfl)
      exact Ord.ex_value x rfl rfl (Rg.pick_t da0 da1 rfl) rfl (hW.keep (by decide))
    | 8, ho, hi, hdep =>
      cases ho
      have da0 : ac.eval (.tmp 120) = .bool true := hF.2.2.2 7 120 _ rfl (hdep ⟨7, .data⟩ (by simp) rfl)
      exact Ord.ex_value x rfl rfl (Rg.mv da0 rfl) rfl (hW.keep (by decide))
    | 9, ho, hi, hdep =>
      cases ho
      have dg : ac.eval (.tmp 121) = .bool true := hF.2.2.2 8 121 _ rfl (hdep ⟨8, .guard⟩ (by simp) rfl)
      have da0 : ac.eval (.tmp 19) = .int .i64 gi := hF.old 19 rfl
      exact Ord.ex_value x rfl (Ord.wanted_of dg (by rw [f1]; decide) rfl rfl) (Rg.mv da0 rfl) rfl (hW.keep (by decide))
    | 10, ho, hi, hdep =>
      cases ho
      have dg : ac.eval (.tmp 121) = .bool true := hF.2.2.2 8 121 _ rfl (hdep ⟨8, .guard⟩ (by simp) rfl)
      have da0 : ac.eval (.tmp 21) = .int .i64 gi := hF.old 21 rfl
      exact Ord.ex_value x rfl (Ord.wanted_of dg (by rw [f1]; decide) rfl rfl) (Rg.mv da0 rfl) rfl (hW.keep (by decide))
    | 11, ho, hi, hdep =>
      cases ho
      have dg : ac.eval (.tmp 121) = .bool true := hF.2.2.2 8 121 _ rfl (hdep ⟨8, .guard⟩ (by simp) rfl)
      have da0 : ac.eval (.tmp 122) = .int .i64 gi := hF.2.2.2 9 122 _ rfl (hdep ⟨9, .data⟩ (by simp) rfl)
      have da1 : ac.eval (.tmp 123) = .int .i64 gi := hF.2.2.2 10 123 _ rfl (hdep ⟨10, .data⟩ (by simp) rfl)
      exact Ord.ex_value x rfl (Ord.wanted_of dg (by rw [f1]; decide) rfl rfl) (Rg.bin da0 da1 rfl (by simp [go_sem])) rfl (hW.keep (by decide))
    | 12, ho, hi, hdep =>
      cases ho
      have da0 : ac.eval (.tmp 121) = .bool true := hF.2.2.2 8 121 _ rfl (hdep ⟨8, .data⟩ (by simp) rfl)
      have da1 : ac.eval (.tmp 124) = .bool true := hF.2.2.2 11 124 _ rfl (hdep ⟨11, .data⟩ (by simp) rfl)
      exact Ord.ex_value x rfl rfl (Rg.pick_t da0 da1 rfl) rfl (hW.keep (by decide))
    | 13, ho, hi, hdep =>
      cases ho
      have da0 : ac.eval (.tmp 125) = .bool true := hF.2.2.2 12 125 _ rfl (hdep ⟨12, .data⟩ (by simp) rfl)
      exact Ord.ex_value x rfl rfl (Rg.mv da0 rfl) rfl (hW.keep (by decide))
    | 14, ho, hi, hdep =>
      cases ho
      have dg : ac.eval (.tmp 126) = .bool true := hF.2.2.2 13 126 _ rfl (hdep ⟨13, .guard⟩ (by simp) rfl)
      have da0 : ac.eval (.tmp 20) = .bool gb := hF.old 20 rfl
      exact Ord.ex_value x rfl (Ord.wanted_of dg (by rw [f1]; decide) rfl rfl) (Rg.mv da0 rfl) rfl (hW.keep (by decide))
    | 15, ho, hi, hdep =>
      cases ho
      have dg : ac.eval (.tmp 126) = .bool true := hF.2.2.2 13 126 _ rfl (hdep ⟨13, .guard⟩ (by simp) rfl)
      have da0 : ac.eval (.tmp 22) = .bool gb := hF.old 22 rfl
      exact Ord.ex_value x rfl (Ord.wanted_of dg (by rw [f1]; decide) rfl rfl) (Rg.mv da0 rfl) rfl (hW.keep (by decide))
    | 16, ho, hi, hdep =>
      cases ho
      have dg : ac.eval (.tmp 126) = .bool true := hF.2.2.2 13 126 _ rfl (hdep ⟨13, .guard⟩ (by simp) rfl)
      have da0 : ac.eval (.tmp 127) = .bool gb := hF.2.2.2 14 127 _ rfl (hdep ⟨14, .data⟩ (by simp) rfl)
      have da1 : ac.eval (.tmp 128) = .bool gb := hF.2.2.2 15 128 _ rfl (hdep ⟨15, .data⟩ (by simp) rfl)
      exact Ord.ex_value x rfl (Ord.wanted_of dg (by rw [f1]; decide) rfl rfl) (Rg.bin da0 da1 rfl (by simp [go_sem])) rfl (hW.keep (by decide))
    | 17, ho, hi, hdep =>
      cases ho
      have da0 : ac.eval (.tmp 126) = .bool true := hF.2.2.2 13 126 _ rfl (hdep ⟨13, .data⟩ (by simp) rfl)
      have da1 : ac.eval (.tmp 129) = .bool true := hF.2.2.2 16 129 _ rfl (hdep ⟨16, .data⟩ (by simp) rfl)
      exact Ord.ex_value x rfl rfl (Rg.pick_t da0 da1 rfl) rfl (hW.keep (by decide))
    | 18, ho, hi, hdep =>
      cases ho
      have da0 : ac.eval (.tmp 130) = .bool true := hF.2.2.2 17 130 _ rfl (hdep ⟨17, .data⟩ (by simp) rfl)
      exact Ord.ex_value x rfl rfl (Rg.mv da0 rfl) rfl (hW.keep (by decide))
    | 19, ho, hi, hdep =>
      cases ho
      have dg : ac.eval (.tmp 131) = .bool true := hF.2.2.2 18 131 _ rfl (hdep ⟨18, .guard⟩ (by simp) rfl)
      have da0 : ac.eval (.tmp 0) = .pointer (some ⟨t, 0, none⟩) := hF.old 0 rfl
      exact Ord.ex_value x rfl (Ord.wanted_of dg (by rw [f1]; decide) rfl rfl) (Rg.mv da0 rfl) rfl (hW.keep (by decide))
    | 20, ho, hi, hdep =>
      cases ho
      have dg : ac.eval (.tmp 131) = .bool true := hF.2.2.2 18 131 _ rfl (hdep ⟨18, .guard⟩ (by simp) rfl)
      have da0 : ac.eval (.tmp 132) = .pointer (some ⟨t, 0, none⟩) := hF.2.2.2 19 132 _ rfl (hdep ⟨19, .data⟩ (by simp) rfl)
      obtain ⟨kq, hlo, hhi, hA⟩ := hW.range 0 0 (.inl rfl) (.inr ⟨30, rfl, (Rg.no_of (fun h => hcl 28 _ rfl (hcl 30 _ rfl (h) ⟨28, .chain⟩ (by simp) rfl) ⟨20, .chain⟩ (by simp) rfl) hi)⟩)
      exact Rg.ex_call x rfl (Ord.wanted_of dg (by rw [f1]; decide) rfl rfl) (Rg.enter (args := #[.pointer (some ⟨t, 0, none⟩)]) rfl rfl (by simp [da0]) EL.out) (Calls.mono (HLE.out _ hA.bel) (by rintro e w2 ⟨rfl, rfl⟩; exact ⟨rfl, (hW.keep (by decide))⟩))
    | 21, ho, hi, hdep =>
      cases ho
      have dg : ac.eval (.tmp 131) = .bool true := hF.2.2.2 18 131 _ rfl (hdep ⟨18, .guard⟩ (by simp) rfl)
      have da0 : ac.eval (.tmp 1) = .pointer (some ⟨r, 0, none⟩) := hF.old 1 rfl
      exact Ord.ex_value x rfl (Ord.wanted_of dg (by rw [f1]; decide) rfl rfl) (Rg.mv da0 rfl) rfl (hW.keep (by decide))
    | 22, ho, hi, hdep =>
      cases ho
      have dg : ac.eval (.tmp 131) = .bool true := hF.2.2.2 18 131 _ rfl (hdep ⟨18, .guard⟩ (by simp) rfl)
      have da0 : ac.eval (.tmp 134) = .pointer (some ⟨r, 0, none⟩) := hF.2.2.2 21 134 _ rfl (hdep ⟨21, .data⟩ (by simp) rfl)
      exact Ord.ex_value x rfl (Ord.wanted_of dg (by rw [f1]; decide) rfl rfl) (Rg.nilc da0 rfl) rfl (hW.keep (by decide))
    | 23, ho, hi, hdep =>
      cases ho
      have dg : ac.eval (.tmp 131) = .bool true := hF.2.2.2 18 131 _ rfl (hdep ⟨18, .guard⟩ (by simp) rfl)
      have da0 : ac.eval (.tmp 135) = .pointer (some ⟨r, 0, none⟩) := hF.2.2.2 22 135 _ rfl (hdep ⟨22, .data⟩ (by simp) rfl)
      exact Ord.ex_value x rfl (Ord.wanted_of dg (by rw [f1]; decide) rfl rfl) (Rg.fa da0 rfl (by simp [go_sem])) rfl (hW.keep (by decide))
    | 24, ho, hi, hdep =>
      cases ho
      have dg : ac.eval (.tmp 131) = .bool true := hF.2.2.2 18 131 _ rfl (hdep ⟨18, .guard⟩ (by simp) rfl)
      have da0 : ac.eval (.tmp 136) = .pointer (some ⟨r, 0, none⟩) := hF.2.2.2 23 136 _ rfl (hdep ⟨23, .data⟩ (by simp) rfl)
      obtain ⟨kq, hlo, hhi, hA⟩ := hW.range 0 0 (.inl rfl) (.inr ⟨30, rfl, (Rg.no_of (fun h => hcl 25 _ rfl (hcl 26 _ rfl (hcl 27 _ rfl (hcl 28 _ rfl (hcl 30 _ rfl (h) ⟨28, .chain⟩ (by simp) rfl) ⟨27, .data⟩ (by simp) rfl) ⟨26, .data⟩ (by simp) rfl) ⟨25, .data⟩ (by simp) rfl) ⟨24, .data⟩ (by simp) rfl) hi)⟩)
      exact Ord.ex_value x rfl (Ord.wanted_of dg (by rw [f1]; decide) rfl rfl) (Rg.load da0 rfl (by simp [go_sem, (HC.out _ hA.bel).2.2.2.2])) rfl (hW.keep (by decide))
    | 25, ho, hi, hdep =>
      cases ho
      have dg : ac.eval (.tmp 131) = .bool true := hF.2.2.2 18 131 _ rfl (hdep ⟨18, .guard⟩ (by simp) rfl)
      have da0 : ac.eval (.tmp 137) = .slice la lnS lcap := hF.2.2.2 24 137 _ rfl (hdep ⟨24, .data⟩ (by simp) rfl)
      exact Ord.ex_value x rfl (Ord.wanted_of dg (by rw [f1]; decide) rfl rfl) (Rg.len_ da0 rfl (by simp [go_sem])) rfl (hW.keep (by decide))
    | 26, ho, hi, hdep =>
      cases ho
      have dg : ac.eval (.tmp 131) = .bool true := hF.2.2.2 18 131 _ rfl (hdep ⟨18, .guard⟩ (by simp) rfl)
      have da0 : ac.eval (.tmp 133) = .int .i64 (lnS : Int) := hF.2.2.2 20 133 _ rfl (hdep ⟨20, .data⟩ (by simp) rfl)
      have da1 : ac.eval (.tmp 138) = .int .i64 (lnS : Int) := hF.2.2.2 25 138 _ rfl (hdep ⟨25, .data⟩ (by simp) rfl)
      exact Ord.ex_value x rfl (Ord.wanted_of dg (by rw [f1]; decide) rfl rfl) (Rg.bin da0 da1 rfl (by simp [go_sem])) rfl (hW.keep (by decide))
    | 27, ho, hi, hdep =>
      cases ho
      have da0 : ac.eval (.tmp 131) = .bool true := hF.2.2.2 18 131 _ rfl (hdep ⟨18, .data⟩ (by simp) rfl)
      have da1 : ac.eval (.tmp 139) = .bool true := hF.2.2.2 26 139 _ rfl (hdep ⟨26, .data⟩ (by simp) rfl)
      exact Ord.ex_value x rfl rfl (Rg.pick_t da0 da1 rfl) rfl (hW.keep (by decide))
    | 28, ho, hi, hdep =>
      cases ho
      have da0 : ac.eval (.tmp 140) = .bool true := hF.2.2.2 27 140 _ rfl (hdep ⟨27, .data⟩ (by simp) rfl)
      exact Ord.ex_value x rfl rfl (Rg.mv da0 rfl) rfl (hW.keep (by decide))
    | 29, ho, hi, hdep =>
      cases ho
      have dg : ac.eval (.tmp 141) = .bool true := hF.2.2.2 28 141 _ rfl (hdep ⟨28, .guard⟩ (by simp) rfl)
      have da0 : ac.eval (.tmp 0) = .pointer (some ⟨t, 0, none⟩) := hF.old 0 rfl
      exact Ord.ex_value x rfl (Ord.wanted_of dg (by rw [f1]; decide) rfl rfl) (Rg.mv da0 rfl) rfl (hW.keep (by decide))
    | 30, ho, hi, hdep =>
      cases ho
      have dg : ac.eval (.tmp 141) = .bool true := hF.2.2.2 28 141 _ rfl (hdep ⟨28, .guard⟩ (by simp) rfl)
      have da0 : ac.eval (.tmp 142) = .pointer (some ⟨t, 0, none⟩) := hF.2.2.2 29 142 _ rfl (hdep ⟨29, .data⟩ (by simp) rfl)
      have hA := hW.at (k := 0) rfl hi (.inl rfl)
      refine Rg.ex_calll x rfl (Ord.wanted_of dg (by rw [f1]; decide) rfl rfl) (Rg.enter (args := #[.pointer (some ⟨t, 0, none⟩)]) rfl rfl (by simp [da0]) EA.out) (Calls.mono (HAL.out _ hA.bel) ?_)
      rintro e w2 ⟨v, rfl, hr, hB⟩
      exact ⟨v, rfl, (fun j hj => match j, hj with | 0, _ => rfl | 1, _ => rfl | 2, _ => rfl | 3, _ => rfl | 4, _ => rfl | 5, _ => rfl | 6, _ => rfl | 7, _ => rfl | 8, _ => rfl | 9, _ => rfl | 10, _ => rfl | 11, _ => rfl | 12, _ => rfl | 13, _ => rfl | 14, _ => rfl | 15, _ => rfl | 16, _ => rfl | 17, _ => rfl | 18, _ => rfl | 19, _ => rfl | 20, _ => rfl | 21, _ => rfl | 22, _ => rfl | 23, _ => rfl | 24, _ => rfl | 25, _ => rfl | 26, _ => rfl | 27, _ => rfl | 28, _ => rfl | 29, _ => rfl | 30, hj => absurd hj (by rw [hi]; decide) | 31, _ => rfl | 32, _ => rfl | 33, _ => rfl | 34, _ => rfl | 35, _ => rfl | 36, _ => rfl | 37, _ => rfl | _ + 38, _ => rfl), hW.next (k := 0) rfl (by decide) hi (.inl rfl) ⟨hA.bel.trans (hB.mono hA.bel.size), fun _ => hr⟩⟩
    | 31, ho, hi, hdep =>
      cases ho
      have dg : ac.eval (.tmp 141) = .bool true := hF.2.2.2 28 141 _ rfl (hdep ⟨28, .guard⟩ (by simp) rfl)
      have da0 : ac.eval (.tmp 1) = .pointer (some ⟨r, 0, none⟩) := hF.old 1 rfl
      exact Ord.ex_value x rfl (Ord.wanted_of dg (by rw [f1]; decide) rfl rfl) (Rg.mv da0 rfl) rfl (hW.keep (by decide))
    | 32, ho, hi, hdep =>
      cases ho
      have dg : ac.eval (.tmp 141) = .bool true := hF.2.2.2 28 141 _ rfl (hdep ⟨28, .guard⟩ (by simp) rfl)
      have da0 : ac.eval (.tmp 144) = .pointer (some ⟨r, 0, none⟩) := hF.2.2.2 31 144 _ rfl (hdep ⟨31, .data⟩ (by simp) rfl)
      exact Ord.ex_value x rfl (Ord.wanted_of dg (by rw [f1]; decide) rfl rfl) (Rg.nilc da0 rfl) rfl (hW.keep (by decide))
    | 33, ho, hi, hdep =>
      cases ho
      have dg : ac.eval (.tmp 141) = .bool true := hF.2.2.2 28 141 _ rfl (hdep ⟨28, .guard⟩ (by simp) rfl)
      have da0 : ac.eval (.tmp 145) = .pointer (some ⟨r, 0, none⟩) := hF.2.2.2 32 145 _ rfl (hdep ⟨32, .data⟩ (by simp) rfl)
      exact Ord.ex_value x rfl (Ord.wanted_of dg (by rw [f1]; decide) rfl rfl) (Rg.fa da0 rfl (by simp [go_sem])) rfl (hW.keep (by decide))
    | 34, ho, hi, hdep =>
      cases ho
      have dg : ac.eval (.tmp 141) = .bool true := hF.2.2.2 28 141 _ rfl (hdep ⟨28, .guard⟩ (by simp) rfl)
      have da0 : ac.eval (.tmp 146) = .pointer (some ⟨r, 0, none⟩) := hF.2.2.2 33 146 _ rfl (hdep ⟨33, .data⟩ (by simp) rfl)
      obtain ⟨kq, hlo, hhi, hA⟩ := hW.range 0 1 (.inl rfl) (.inr ⟨35, rfl, (Rg.no_of (fun h => hcl 35 _ rfl (h) ⟨34, .data⟩ (by simp) rfl) hi)⟩)
      exact Ord.ex_value x rfl (Ord.wanted_of dg (by rw [f1]; decide) rfl rfl) (Rg.load da0 rfl (by simp [go_sem, (HC.out _ hA.bel).2.2.2.2])) rfl (hW.keep (by decide))
    | 35, ho, hi, hdep =>
      cases ho
      have dg : ac.eval (.tmp 141) = .bool true := hF.2.2.2 28 141 _ rfl (hdep ⟨28, .guard⟩ (by simp) rfl)
      have da0 : ac.eval (.tmp 143) = x := hF.2.2.2 30 143 _ rfl (hdep ⟨30, .data⟩ (by simp) rfl)
      have da1 : ac.eval (.tmp 147) = .slice la lnS lcap := hF.2.2.2 34 147 _ rfl (hdep ⟨34, .data⟩ (by simp) rfl)
      have hA := hW.at (k := 1) rfl hi (.inr ⟨30, rfl, (hdep ⟨30, .data⟩ (by simp) rfl)⟩)
      exact Rg.ex_call x rfl (Ord.wanted_of dg (by rw [f1]; decide) rfl rfl) (Rg.enter (args := #[x, .slice la lnS lcap]) rfl rfl (by simp [da0, da1]) ES.out) (Calls.mono (HSA.out _ _ hA.bel (hA.h1 (Nat.le_refl _))) (by rintro e w2 ⟨rfl, hB⟩; exact ⟨rfl, hW.next (k := 1) rfl (by decide) hi (.inr ⟨30, rfl, (hdep ⟨30, .data⟩ (by simp) rfl)⟩) ⟨hA.bel.trans (hB.mono hA.bel.size), fun _ => (hA.h1 (Nat.le_refl _)).later hB⟩⟩))
    | 36, ho, hi, hdep =>
      cases ho
      have da0 : ac.eval (.tmp 141) = .bool true := hF.2.2.2 28 141 _ rfl (hdep ⟨28, .data⟩ (by simp) rfl)
      have da1 : ac.eval (.tmp 148) = .bool true := hF.2.2.2 35 148 _ rfl (hdep ⟨35, .data⟩ (by simp) rfl)
      exact Ord.ex_value x rfl rfl (Rg.pick_t da0 da1 rfl) rfl (hW.keep (by decide))
    | 37, ho, hi, hdep =>
      cases ho
      have da0 : ac.eval (.tmp 149) = .bool true := hF.2.2.2 36 149 _ rfl (hdep ⟨36, .data⟩ (by simp) rfl)
      exact Ord.ex_value x rfl rfl (Rg.asg da0 rfl) rfl (hW.keep (by decide))
  case refine_3 => exact Rg.StM.first ⟨(Below.refl _ y).drew, fun e => absurd e (by decide)⟩
  case refine_2 =>
    intro x w' hW
    have HW := hidden hW.last
    clear hW
    simp only [Ord.puts, Ord.prs]
    go_simp
    go_wp2
    go_ret
    exact FIN.out _ _ _ HP2.out (HBY.out.trans (HW.out.bel.mono HBY.out.size))
set_option maxHeartbeats 2000000 in
set_option maxRecDepth 20000 in
theorem step3 {w0 w : World} {F0 : List Nat} {t r : Nat} {S : List D} {l : Int} (h : Pr w0 F0 w t r S S l l) (kI id tm : Int) (hi : I64 id) (hk : kI = 3) : Calls Try.prog 9 #[.pointer (some ⟨t, 0, none⟩), .pointer (some ⟨r, 0, none⟩), .agg #[.int .i64 kI, .int .i64 id, .int .i64 tm]] w fun e w' => StepO w0 t r F0 e w' := by
  subst hk
  obtain ⟨F, G, h1, h2, h3, h4, h5⟩ := h
  obtain ⟨W1, hW1⟩ : ∃ W1, W1 = w.alloc (.cells #[.int .i64 3, .int .i64 id, .int .i64 tm] 32) := ⟨_, rfl⟩
  obtain ⟨F1, hF1⟩ : ∃ F1, F1 = F ++ G := ⟨_, rfl⟩
  have hBW : Below w.heap.size w W1 := by rw [hW1]; exact (Below.refl _ w).alloc (Nat.le_refl _) _
  have hbox : Has W1 w.heap.size #[.int .i64 3, .int .i64 id, .int .i64 tm] 32 := by rw [hW1]; exact Has.new w _ _
  have hnF : w.heap.size ∉ F1 := by
    rw [hF1]
    intro hh
    rcases List.mem_append.1 hh with hh | hh
    · have := h1.lt _ hh; omega
    · have := h2.lt _ hh; omega
  have HBX : Hid (∀ {S R : List D} {l1 l2 : Int} (x : World), Pr W1 F1 x t r S R l1 l2 → Has x w.heap.size #[.int .i64 3, .int .i64 id, .int .i64 tm] 32) := fun x hx => by
    obtain ⟨_, _, _, _, _, ho, _⟩ := hx
    exact hbox.stay ho hnF
  have HP := hidden (show Pr W1 F1 W1 t r S S l l from ⟨F, G, h1.later hBW, h2.later hBW, h3, Only.refl _ _, by rw [hF1]; exact In.refl _ _⟩)
  have HK := hidden h1.ok.2.1
  have FIN : Hid (∀ (x w' : World) (S2 : List D) {L2 : Int}, Pr W1 F1 x t r S2 S2 L2 L2 → Below x.heap.size x w' → StepO w0 t r F0 (.returned (.bool true)) w') := fun x w' S2 L2 hp hB => by
    obtain ⟨F2, G2, g1, g2, g3, g4, g5⟩ := hp.later hB
    refine ⟨rfl, S2, L2, F2, G2, g1, g2, g3, ?_, ?_⟩
    · exact (h4.then (Only.of_below hBW)).trans g4 (by rw [hF1]; exact h5)
    · refine In.trans (w' := W1) (G := F1) (by rw [hF1]; exact h5) g5 (Nat.le_trans h4.size hBW.size)
  have HID := hidden hi
  have HW1 := hidden hW1
  have hlW : w.heap.size < W1.heap.size := hbox.lt
  have E1 : Hid (∀ (args : Array Value) (w : World), (callFunc 10 args).run Try.prog w = .ok (.enter 10 args) w) := enters_of Try.func10 (by kernel_rfl) rfl
  have E2 : Hid (∀ (args : Array Value) (w : World), (callFunc 25 args).run Try.prog w = .ok (.enter 25 args) w) := enters_of Try.func25 (by kernel_rfl) rfl
  have EL : Hid (∀ (args : Array Value) (w : World), (callFunc 14 args).run Try.prog w = .ok (.enter 14 args) w) := enters_of Try.func14 (by kernel_rfl) rfl
  have EA : Hid (∀ (args : Array Value) (w : World), (callFunc 17 args).run Try.prog w = .ok (.enter 17 args) w) := enters_of Try.func17 (by kernel_rfl) rfl
  have ES : Hid (∀ (args : Array Value) (w : World), (callFunc 16 args).run Try.prog w = .ok (.enter 16 args) w) := enters_of Try.func16 (by kernel_rfl) rfl
  clear h1 h2 h3 h4 h5 hBW hbox hF1 hnF hi hW1
  go_enter Try.func9, Try.ntmps9
  have bx1 := (HBX.out _ HP.out).cell 2 rfl
  go_upto_region 11 with fail
  rw [← HW1.out]
  go_wp2_with fail
  refine Calls.mono (HP.out.due tm) ?_
  rintro e x1 ⟨tv, rfl, hP1⟩
  have HP1 := hidden hP1
  have bx2 := (HBX.out _ HP1.out.pr).cell 2 rfl
  clear hP1
  go_wp2_with fail
  refine Calls.mono (HP1.out.rdue tm) ?_
  rintro e x2' ⟨rv, rfl, hP2, hR1, hR2⟩
  have SA := hidden (rsame x2' _ _ _ hR1 hR2)
  have HP2' := hidden hP2
  clear hP2 hR1 hR2 bx1 bx2
  go_wp2_with fail
  refine Calls.mono SA.out ?_
  rintro e x2 ⟨rfl, hB2⟩
  have HP2 := hidden (HP2'.out.later hB2)
  clear hB2 HP2' SA
  generalize dueE tm l = de
  obtain ⟨S2, hS2⟩ : ∃ S2, S2 = dS tm l S := ⟨_, rfl⟩
  obtain ⟨L2, hL2⟩ : ∃ L2, L2 = dL tm l := ⟨_, rfl⟩
  rw [← hS2, ← hL2] at HP2
  clear hS2 hL2
  have bx1 := (HBX.out _ HP2.out).cell 1 rfl
  obtain ⟨fF, fG, p1, p2, p3, p4, p5⟩ := HP2.out
  obtain ⟨lv, rfl, q1, q2, q3⟩ := p2
  obtain ⟨la, lcap, hlv⟩ := own_len q2
  have crl := q1.cell 0 rfl
  have hrlt := q1.lt
  have hlR := Own.rw q2 (by omega)
  obtain ⟨lnS, hlnS⟩ : ∃ lnS, lnS = S2.length := ⟨_, rfl⟩
  rw [show (#[lv, .int .i64 L2] : Array Value)[0] = .slice la lnS lcap by rw [hlnS]; exact hlv] at crl
  rw [hlv, ← hlnS] at hlR
  obtain ⟨dn, hb, hnx⟩ : ∃ (dn : D) (hb : Bool), nextV S2 = .tuple #[.agg #[.int .i64 dn.1, .int .i64 dn.2], .bool hb] := ⟨_, _, rfl⟩
  obtain ⟨gi, gb, hgt⟩ : ∃ (gi : Int) (gb : Bool), getV id S2 = .tuple #[.int .i64 gi, .bool gb] := ⟨_, _, rfl⟩
  have HN1 : Hid (∀ x, Below x2.heap.size x2 x → Calls Try.prog 19 #[.pointer (some ⟨t, 0, none⟩)] x fun e w' => e = .returned (.tuple #[.agg #[.int .i64 dn.1, .int .i64 dn.2], .bool hb]) ∧ Below x.heap.size x w') := fun x hx => by rw [← hnx]; exact tnext (p1.later hx)
  have HRT : Hid (RT x2 r S2 L2 (r :: lv.ownBlock.toList)) := ⟨lv, rfl, q1, q2, q3⟩
  have HN2 : Hid (∀ x, Below x2.heap.size x2 x → Calls Try.prog 28 #[.pointer (some ⟨r, 0, none⟩)] x fun e w' => e = .returned (.tuple #[.agg #[.int .i64 dn.1, .int .i64 dn.2], .bool hb]) ∧ Below x.heap.size x w') := fun x hx => by rw [← hnx]; exact rnext (HRT.out.later hx)
  have HG1 : Hid (∀ x, Below x2.heap.size x2 x → Calls Try.prog 18 #[.pointer (some ⟨t, 0, none⟩), .int .i64 id] x fun e w' => e = .returned (.tuple #[.int .i64 gi, .bool gb]) ∧ Below x.heap.size x w') := fun x hx => by rw [← hgt]; exact tget (p1.later hx) id HID.out
  have HG2 : Hid (∀ x, Below x2.heap.size x2 x → Calls Try.prog 29 #[.pointer (some ⟨r, 0, none⟩), .int .i64 id] x fun e w' => e = .returned (.tuple #[.int .i64 gi, .bool gb]) ∧ x = w') := fun x hx => by rw [← hgt]; exact rget (HRT.out.later hx) id
  have HT2 := hidden p1
  have HLR := hidden hlR
  have HLS := hidden hlnS
  have HBB := hidden (HBX.out _ HP2.out)
  clear p1 p3 p4 p5 q1 q2 q3 hlv hlR hlnS hnx hgt HBX
  go_wp2_with fail
  refine Calls.mono (HN1.out _ (Below.refl _ _)) ?_
  rintro e x3 ⟨rfl, hB3⟩
  obtain ⟨y1, hy1⟩ : ∃ y1, y1 = x3.alloc (.cells #[.int .i64 dn.1, .int .i64 dn.2] 43) := ⟨_, rfl⟩
  have hBy1 : Below x2.heap.size x2 y1 := by rw [hy1]; exact hB3.alloc hB3.size _
  have hb1 : Has y1 x3.heap.size #[.int .i64 dn.1, .int .i64 dn.2] 43 := by rw [hy1]; exact Has.new x3 _ _
  have HY1 := hidden hy1
  have HBY1 := hidden hBy1
  have HB1 := hidden hb1
  clear hB3 hy1 hBy1 hb1 HN1
  go_upto_region 16 with fail
  rw [← HY1.out]
  go_wp2_with fail
  refine Calls.mono (HN2.out _ HBY1.out) ?_
  rintro e x4 ⟨rfl, hB4⟩
  obtain ⟨y2, hy2⟩ : ∃ y2, y2 = x4.alloc (.cells #[.int .i64 dn.1, .int .i64 dn.2] 43) := ⟨_, rfl⟩
  have hBy2 : Below y1.heap.size y1 y2 := by rw [hy2]; exact hB4.alloc hB4.size _
  have hb2 : Has y2 x4.heap.size #[.int .i64 dn.1, .int .i64 dn.2] 43 := by rw [hy2]; exact Has.new x4 _ _
  have hb1 := HB1.out.later hBy2
  have hB02 : Below x2.heap.size x2 y2 := HBY1.out.trans (hBy2.mono HBY1.out.size)
  have bb1 := (HBB.out.later hB02).cell 1 rfl
  have HY2 := hidden hy2
  have HBY2 := hidden hB02
  have HB2 := hidden hb2
  have HB1b := hidden hb1
  clear hB4 hy2 hBy2 hb1 hb2 hB02 HN2 HB1 HY1 HBY1
  go_upto_region 17 with fail
  rw [← HY2.out]
  go_wp2_with fail
  refine Calls.mono (HG1.out _ HBY2.out) ?_
  rintro e y ⟨rfl, hB5⟩
  have hB0y : Below x2.heap.size x2 y := HBY2.out.trans (hB5.mono HBY2.out.size)
  have bb2 := (HBB.out.later hB0y).cell 1 rfl
  have hb1 := HB1b.out.later hB5
  have hb2 := HB2.out.later hB5
  have HBY := hidden hB0y
  have HC : Hid (∀ w', Below y.heap.size y w' → w'.cell? ⟨x3.heap.size, 0, none⟩ = some (.int .i64 dn.1) ∧ w'.cell? ⟨x3.heap.size, 1, none⟩ = some (.int .i64 dn.2) ∧ w'.cell? ⟨x4.heap.size, 0, none⟩ = some (.int .i64 dn.1) ∧ w'.cell? ⟨x4.heap.size, 1, none⟩ = some (.int .i64 dn.2) ∧ w'.cell? ⟨r, 0, none⟩ = some (.slice la lnS lcap)) := fun w' hw => ⟨(hb1.later hw).cell 0 rfl, (hb1.later hw).cell 1 rfl, (hb2.later hw).cell 0 rfl, (hb2.later hw).cell 1 rfl, ((hB0y.trans (hw.mono hB0y.size)).cell (p := ⟨r, 0, none⟩) hrlt).trans crl⟩
  have HLE : Hid (∀ x, Below y.heap.size y x → Calls Try.prog 14 #[.pointer (some ⟨t, 0, none⟩)] x fun e w' => e = .returned (.int .i64 (lnS : Int)) ∧ x = w') := fun x hx => by rw [HLS.out]; exact tlen (HT2.out.later (hB0y.trans (hx.mono hB0y.size)))
  have HAL : Hid (∀ x, Below y.heap.size y x → Calls Try.prog 17 #[.pointer (some ⟨t, 0, none⟩)] x fun e w' => ∃ v, e = .returned v ∧ Rw w' v S2 ∧ Below x.heap.size x w') := fun x hx => tall (HT2.out.later (hB0y.trans (hx.mono hB0y.size)))
  have HSA : Hid (∀ x v, Below y.heap.size y x → Rw x v S2 → Calls Try.prog 16 #[v, .slice la lnS lcap] x fun e w' => e = .returned (.bool true) ∧ Below x.heap.size x w') := fun x v hx hv => rsame x _ _ _ hv (HLR.out.later (hB0y.trans (hx.mono hB0y.size)))
  clear hB5 hb1 hb2 hB0y HY2 HBY2 HB2 HB1b HG1 HLR HLS HRT HBB bx1 crl
  go_wp2_with fail
  refine Calls.mono (HG2.out _ HBY.out) ?_
  rintro e yy ⟨rfl, rfl⟩
  clear HG2
  go_upto_region 19 with fail
  refine Ord.wp_region_ex0 (X := Value) (by kernel_rfl) 150 (fun x => [(some 113, .agg #[.int .i64 dn.1, .int .i64 dn.2]), (some 114, .agg #[.int .i64 dn.1, .int .i64 dn.2]), (some 115, .bool true), (some 116, .bool true), (some 117, .bool hb), (some 118, .bool hb), (some 119, .bool true), (some 120, .bool true), (some 121, .bool true), (some 122, .int .i64 gi), (some 123, .int .i64 gi), (some 124, .bool true), (some 125, .bool true), (some 126, .bool true), (some 127, .bool gb), (some 128, .bool gb), (some 129, .bool true), (some 130, .bool true), (some 131, .bool true), (some 132, .pointer (some ⟨t, 0, none⟩)), (some 133, .int .i64 (lnS : Int)), (some 134, .pointer (some ⟨r, 0, none⟩)), (some 135, .pointer (some ⟨r, 0, none⟩)), (some 136, .pointer (some ⟨r, 0, none⟩)), (some 137, .slice la lnS lcap), (some 138, .int .i64 (lnS : Int)), (some 139, .bool true), (some 140, .bool true), (some 141, .bool true), (some 142, .pointer (some ⟨t, 0, none⟩)), (some 143, x), (some 144, .pointer (some ⟨r, 0, none⟩)), (some 145, .pointer (some ⟨r, 0, none⟩)), (some 146, .pointer (some ⟨r, 0, none⟩)), (some 147, .slice la lnS lcap), (some 148, .bool true), (some 149, .bool true), (some 6, .bool true)]) [some 113, some 114, some 115, some 116, some 117, some 118, some 119, some 120, some 121, some 122, some 123, some 124, some 125, some 126, some 127, some 128, some 129, some 130, some 131, some 132, some 133, some 134, some 135, some 136, some 137, some 138, some 139, some 140, some 141, some 142, some 143, some 144, some 145, some 146, some 147, some 148, some 149, some 6] rfl (fun listed hsz hr => Ord.all_listedC (rank := [0, 1, 2, 3, 4, 5, 6, 7, 8, 9, 10, 11, 12, 13, 14, 15, 16, 17, 18, 19, 20, 21, 22, 23, 24, 25, 26, 27, 28, 29, 30, 31, 32, 33, 34, 35, 36, 37]) (by kernel_rfl) hsz hr) (by rfl) (fun _ => rfl) (by kernel_rfl) (Rg.StM [30, 35] (fun k x w' => TaA y S2 k x w')) (fun _ _ _ _ hL h => h.ext (n := 38) (by decide) hL) ?_ ?_ undef ?_
  case refine_1 =>
    intro x Lq iq oq ac w' ho hi hcl hdep hF hW
    have f1 : ac.tmps.size = 150 := hF.1
    match iq, ho, hi, hdep with
    | 0, ho, hi, hdep =>
      cases ho
      have da0 : ac.eval (.tmp 15) = .pointer (some ⟨x3.heap.size, 0, none⟩) := hF.old 15 rfl
      obtain ⟨kq, hlo, hhi, hA⟩ := hW.range 0 0 (.inl rfl) (.inr ⟨30, rfl, (Rg.no_of (fun h => hcl 2 _ rfl (hcl 3 _ rfl (hcl 8 _ rfl (hcl 13 _ rfl (hcl 18 _ rfl (hcl 27 _ rfl (hcl 28 _ rfl (hcl 30 _ rfl (h) ⟨28, .chain⟩ (by simp) rfl) ⟨27, .data⟩ (by simp) rfl) ⟨18, .data⟩ (by simp) rfl) ⟨13, .chain⟩ (by simp) rfl) ⟨8, .chain⟩ (by simp) rfl) ⟨3, .chain⟩ (by simp) rfl) ⟨2, .data⟩ (by simp) rfl) ⟨0, .data⟩ (by simp) rfl) hi)⟩)
      exact Ord.ex_value x rfl rfl (Rg.load da0 rfl (by simp [go_sem, (HC.out _ hA.bel).1, (HC.out _ hA.bel).2.1])) rfl (hW.keep (by decide))
    | 1, ho, hi, hdep =>
      cases ho
      have da0 : ac.eval (.tmp 17) = .pointer (some ⟨x4.heap.size, 0, none⟩) := hF.old 17 rfl
      obtain ⟨kq, hlo, hhi, hA⟩ := hW.range 0 0 (.inl rfl) (.inr ⟨30, rfl, (Rg.no_of (fun h => hcl 2 _ rfl (hcl 3 _ rfl (hcl 8 _ rfl (hcl 13 _ rfl (hcl 18 _ rfl (hcl 27 _ rfl (hcl 28 _ rfl (hcl 30 _ rfl (h) ⟨28, .chain⟩ (by simp) rfl) ⟨27, .data⟩ (by simp) rfl) ⟨18, .data⟩ (by simp) rfl) ⟨13, .chain⟩ (by simp) rfl) ⟨8, .chain⟩ (by simp) rfl) ⟨3, .chain⟩ (by simp) rfl) ⟨2, .data⟩ (by simp) rfl) ⟨1, .data⟩ (by simp) rfl) hi)⟩)
      exact Ord.ex_value x rfl rfl (Rg.load da0 rfl (by simp [go_sem, (HC.out _ hA.bel).2.2.1, (HC.out _ hA.bel).2.2.2.1])) rfl (hW.keep (by decide))
    | 2, ho, hi, hdep =>
      cases ho
      have da0 : ac.eval (.tmp 113) = .agg #[.int .i64 dn.1, .int .i64 dn.2] := hF.2.2.2 0 113 _ rfl (hdep ⟨0, .data⟩ (by simp) rfl)
      have da1 : ac.eval (.tmp 114) = .agg #[.int .i64 dn.1, .int .i64 dn.2] := hF.2.2.2 1 114 _ rfl (hdep ⟨1, .data⟩ (by simp) rfl)
      exact Ord.ex_value x rfl rfl (Rg.bin da0 da1 rfl (by simp [go_sem])) rfl (hW.keep (by decide))
    | 3, ho, hi, hdep =>
      cases ho
      have da0 : ac.eval (.tmp 115) = .bool true := hF.2.2.2 2 115 _ rfl (hdep ⟨2, .data⟩ (by simp) rfl)
      exact Ord.ex_value x rfl rfl (Rg.mv da0 rfl) rfl (hW.keep (by decide))
    | 4, ho, hi, hdep =>
      cases ho
      have dg : ac.eval (.tmp 116) = .bool true := hF.2.2.2 3 116 _ rfl (hdep ⟨3, .guard⟩ (by simp) rfl)
      have da0 : ac.eval (.tmp 16) = .bool hb := hF.old 16 rfl
      exact Ord.ex_value x rfl (Ord.wanted_of dg (by rw [f1]; decide) rfl rfl) (Rg.mv da0 rfl) rfl (hW.keep (by decide))
    | 5, ho, hi, hdep =>
      cases ho
      have dg : ac.eval (.tmp 116) = .bool true := hF.2.2.2 3 116 _ rfl (hdep ⟨3, .guard⟩ (by simp) rfl)
      have da0 : ac.eval (.tmp 18) = .bool hb := hF.old 18 rfl
      exact Ord.ex_value x rfl (Ord.wanted_of dg (by rw [f1]; decide) rfl rfl) (Rg.mv da0 rfl) rfl (hW.keep (by decide))
    | 6, ho, hi, hdep =>
      cases ho
      have dg : ac.eval (.tmp 116) = .bool true := hF.2.2.2 3 116 _ rfl (hdep ⟨3, .guard⟩ (by simp) rfl)
      have da0 : ac.eval (.tmp 117) = .bool hb := hF.2.2.2 4 117 _ rfl (hdep ⟨4, .data⟩ (by simp) rfl)
      have da1 : ac.eval (.tmp 118) = .bool hb := hF.2.2.2 5 118 _ rfl (hdep ⟨5, .data⟩ (by simp) rfl)
      exact Ord.ex_value x rfl (Ord.wanted_of dg (by rw [f1]; decide) rfl rfl) (Rg.bin da0 da1 rfl (by simp [go_sem])) rfl (hW.keep (by decide))
    | 7, ho, hi, hdep =>
      cases ho
      have da0 : ac.eval (.tmp 116) = .bool true := hF.2.2.2 3 116 _ rfl (hdep ⟨3, .data⟩ (by simp) rfl)
      have da1 : ac.eval (.tmp 119) = .bool true := hF.2.2.2 6 119 _ rfl (hdep ⟨6, .data⟩ (by simp) rfl)
      exact Ord.ex_value x rfl rfl (Rg.pick_t da0 da1 rfl) rfl (hW.keep (by decide))
    | 8, ho, hi, hdep =>
      cases ho
      have da0 : ac.eval (.tmp 120) = .bool true := hF.2.2.2 7 120 _ rfl (hdep ⟨7, .data⟩ (by simp) rfl)
      exact Ord.ex_value x rfl rfl (Rg.mv da0 rfl) rfl (hW.keep (by decide))
    | 9, ho, hi, hdep =>
      cases ho
      have dg : ac.eval (.tmp 121) = .bool true := hF.2.2.2 8 121 _ rfl (hdep ⟨8, .guard⟩ (by simp) rfl)
      have da0 : ac.eval (.tmp 19) = .int .i64 gi := hF.old 19 rfl
      exact Ord.ex_value x rfl (Ord.wanted_of dg (by rw [f1]; decide) rfl rfl) (Rg.mv da0 rfl) rfl (hW.keep (by decide))
    | 10, ho, hi, hdep =>
      cases ho
      have dg : ac.eval (.tmp 121) = .bool true := hF.2.2.2 8 121 _ rfl (hdep ⟨8, .guard⟩ (by simp) rfl)
      have da0 : ac.eval (.tmp 21) = .int .i64 gi := hF.old 21 rfl
      exact Ord.ex_value x rfl (Ord.wanted_of dg (by rw [f1]; decide) rfl rfl) (Rg.mv da0 rfl) rfl (hW.keep (by decide))
    | 11, ho, hi, hdep =>
      cases ho
      have dg : ac.eval (.tmp 121) = .bool true := hF.2.2.2 8 121 _ rfl (hdep ⟨8, .guard⟩ (by simp) rfl)
      have da0 : ac.eval (.tmp 122) = .int .i64 gi := hF.2.2.2 9 122 _ rfl (hdep ⟨9, .data⟩ (by simp) rfl)
      have da1 : ac.eval (.tmp 123) = .int .i64 gi := hF.2.2.2 10 123 _ rfl (hdep ⟨10, .data⟩ (by simp) rfl)
      exact Ord.ex_value x rfl (Ord.wanted_of dg (by rw [f1]; decide) rfl rfl) (Rg.bin da0 da1 rfl (by simp [go_sem])) rfl (hW.keep (by decide))
    | 12, ho, hi, hdep =>
      cases ho
      have da0 : ac.eval (.tmp 121) = .bool true := hF.2.2.2 8 121 _ rfl (hdep ⟨8, .data⟩ (by simp) rfl)
      have da1 : ac.eval (.tmp 124) = .bool true := hF.2.2.2 11 124 _ rfl (hdep ⟨11, .data⟩ (by simp) rfl)
      exact Ord.ex_value x rfl rfl (Rg.pick_t da0 da1 rfl) rfl (hW.keep (by decide))
    | 13, ho, hi, hdep =>
      cases ho
      have da0 : ac.eval (.tmp 125) = .bool true := hF.2.2.2 12 125 _ rfl (hdep ⟨12, .data⟩ (by simp) rfl)
      exact Ord.ex_value x rfl rfl (Rg.mv da0 rfl) rfl (hW.keep (by decide))
    | 14, ho, hi, hdep =>
      cases ho
      have dg : ac.eval (.tmp 126) = .bool true := hF.2.2.2 13 126 _ rfl (hdep ⟨13, .guard⟩ (by simp) rfl)
      have da0 : ac.eval (.tmp 20) = .bool gb := hF.old 20 rfl
      exact Ord.ex_value x rfl (Ord.wanted_of dg (by rw [f1]; decide) rfl rfl) (Rg.mv da0 rfl) rfl (hW.keep (by decide))
    | 15, ho, hi, hdep =>
      cases ho
      have dg : ac.eval (.tmp 126) = .bool true := hF.2.2.2 13 126 _ rfl (hdep ⟨13, .guard⟩ (by simp) rfl)
      have da0 : ac.eval (.tmp 22) = .bool gb := hF.old 22 rfl
      exact Ord.ex_value x rfl (Ord.wanted_of dg (by rw [f1]; decide) rfl rfl) (Rg.mv da0 rfl) rfl (hW.keep (by decide))
    | 16, ho, hi, hdep =>
      cases ho
      have dg : ac.eval (.tmp 126) = .bool true := hF.2.2.2 13 126 _ rfl (hdep ⟨13, .guard⟩ (by simp) rfl)
      have da0 : ac.eval (.tmp 127) = .bool gb := hF.2.2.2 14 127 _ rfl (hdep ⟨14, .data⟩ (by simp) rfl)
      have da1 : ac.eval (.tmp 128) = .bool gb := hF.2.2.2 15 128 _ rfl (hdep ⟨15, .data⟩ (by simp) rfl)
      exact Ord.ex_value x rfl (Ord.wanted_of dg (by rw [f1]; decide) rfl rfl) (Rg.bin da0 da1 rfl (by simp [go_sem])) rfl (hW.keep (by decide))
    | 17, ho, hi, hdep =>
      cases ho
      have da0 : ac.eval (.tmp 126) = .bool true := hF.2.2.2 13 126 _ rfl (hdep ⟨13, .data⟩ (by simp) rfl)
      have da1 : ac.eval (.tmp 129) = .bool true := hF.2.2.2 16 129 _ rfl (hdep ⟨16, .data⟩ (by simp) rfl)
      exact Ord.ex_value x rfl rfl (Rg.pick_t da0 da1 rfl) rfl (hW.keep (by decide))
    | 18, ho, hi, hdep =>
      cases ho
      have da0 : ac.eval (.tmp 130) = .bool true := hF.2.2.2 17 130 _ rfl (hdep ⟨17, .data⟩ (by simp) rfl)
      exact Ord.ex_value x rfl rfl (Rg.mv da0 rfl) rfl (hW.keep (by decide))
    | 19, ho, hi, hdep =>
      cases ho
      have dg : ac.eval (.tmp 131) = .bool true := hF.2.2.2 18 131 _ rfl (hdep ⟨18, .guard⟩ (by simp) rfl)
      have da0 : ac.eval (.tmp 0) = .pointer (some ⟨t, 0, none⟩) := hF.old 0 rfl
      exact Ord.ex_value x rfl (Ord.wanted_of dg (by rw [f1]; decide) rfl rfl) (Rg.mv da0 rfl) rfl (hW.keep (by decide))
    | 20, ho, hi, hdep =>
      cases ho
      have dg : ac.eval (.tmp 131) = .bool true := hF.2.2.2 18 131 _ rfl (hdep ⟨18, .guard⟩ (by simp) rfl)
      have da0 : ac.eval (.tmp 132) = .pointer (some ⟨t, 0, none⟩) := hF.2.2.2 19 132 _ rfl (hdep ⟨19, .data⟩ (by simp) rfl)
      obtain ⟨kq, hlo, hhi, hA⟩ := hW.range 0 0 (.inl rfl) (.inr ⟨30, rfl, (Rg.no_of (fun h => hcl 28 _ rfl (hcl 30 _ rfl (h) ⟨28, .chain⟩ (by simp) rfl) ⟨20, .chain⟩ (by simp) rfl) hi)⟩)
      exact Rg.ex_call x rfl (Ord.wanted_of dg (by rw [f1]; decide) rfl rfl) (Rg.enter (args := #[.pointer (some ⟨t, 0, none⟩)]) rfl rfl (by simp [da0]) EL.out) (Calls.mono (HLE.out _ hA.bel) (by rintro e w2 ⟨rfl, rfl⟩; exact ⟨rfl, (hW.keep (by decide))⟩))
    | 21, ho, hi, hdep =>
      cases ho
      have dg : ac.eval (.tmp 131) = .bool true := hF.2.2.2 18 131 _ rfl (hdep ⟨18, .guard⟩ (by simp) rfl)
      have da0 : ac.eval (.tmp 1) = .pointer (some ⟨r, 0, none⟩) := hF.old 1 rfl
      exact Ord.ex_value x rfl (Ord.wanted_of dg (by rw [f1]; decide) rfl rfl) (Rg.mv da0 rfl) rfl (hW.keep (by decide))
    | 22, ho, hi, hdep =>
      cases ho
      have dg : ac.eval (.tmp 131) = .bool true := hF.2.2.2 18 131 _ rfl (hdep ⟨18, .guard⟩ (by simp) rfl)
      have da0 : ac.eval (.tmp 134) = .pointer (some ⟨r, 0, none⟩) := hF.2.2.2 21 134 _ rfl (hdep ⟨21, .data⟩ (by simp) rfl)
      exact Ord.ex_value x rfl (Ord.wanted_of dg (by rw [f1]; decide) rfl rfl) (Rg.nilc da0 rfl) rfl (hW.keep (by decide))
    | 23, ho, hi, hdep =>
      cases ho
      have dg : ac.eval (.tmp 131) = .bool true := hF.2.2.2 18 131 _ rfl (hdep ⟨18, .guard⟩ (by simp) rfl)
      have da0 : ac.eval (.tmp 135) = .pointer (some ⟨r, 0, none⟩) := hF.2.2.2 22 135 _ rfl (hdep ⟨22, .data⟩ (by simp) rfl)
      exact Ord.ex_value x rfl (Ord.wanted_of dg (by rw [f1]; decide) rfl rfl) (Rg.fa da0 rfl (by simp [go_sem])) rfl (hW.keep (by decide))
    | 24, ho, hi, hdep =>
      cases ho
      have dg : ac.eval (.tmp 131) = .bool true := hF.2.2.2 18 131 _ rfl (hdep ⟨18, .guard⟩ (by simp) rfl)
      have da0 : ac.eval (.tmp 136) = .pointer (some ⟨r, 0, none⟩) := hF.2.2.2 23 136 _ rfl (hdep ⟨23, .data⟩ (by simp) rfl)
      obtain ⟨kq, hlo, hhi, hA⟩ := hW.range 0 0 (.inl rfl) (.inr ⟨30, rfl, (Rg.no_of (fun h => hcl 25 _ rfl (hcl 26 _ rfl (hcl 27 _ rfl (hcl 28 _ rfl (hcl 30 _ rfl (h) ⟨28, .chain⟩ (by simp) rfl) ⟨27, .data⟩ (by simp) rfl) ⟨26, .data⟩ (by simp) rfl) ⟨25, .data⟩ (by simp) rfl) ⟨24, .data⟩ (by simp) rfl) hi)⟩)
      exact Ord.ex_value x rfl (Ord.wanted_of dg (by rw [f1]; decide) rfl rfl) (Rg.load da0 rfl (by simp [go_sem, (HC.out _ hA.bel).2.2.2.2])) rfl (hW.keep (by decide))
    | 25, ho, hi, hdep =>
      cases ho
      have dg : ac.eval (.tmp 131) = .bool true := hF.2.2.2 18 131 _ rfl (hdep ⟨18, .guard⟩ (by simp) rfl)
      have da0 : ac.eval (.tmp 137) = .slice la lnS lcap := hF.2.2.2 24 137 _ rfl (hdep ⟨24, .data⟩ (by simp) rfl)
      exact Ord.ex_value x rfl (Ord.wanted_of dg (by rw [f1]; decide) rfl rfl) (Rg.len_ da0 rfl (by simp [go_sem])) rfl (hW.keep (by decide))
    | 26, ho, hi, hdep =>
      cases ho
      have dg : ac.eval (.tmp 131) = .bool true := hF.2.2.2 18 131 _ rfl (hdep ⟨18, .guard⟩ (by simp) rfl)
      have da0 : ac.eval (.tmp 133) = .int .i64 (lnS : Int) := hF.2.2.2 20 133 _ rfl (hdep ⟨20, .data⟩ (by simp) rfl)
      have da1 : ac.eval (.tmp 138) = .int .i64 (lnS : Int) := hF.2.2.2 25 138 _ rfl (hdep ⟨25, .data⟩ (by simp) rfl)
      exact Ord.ex_value x rfl (Ord.wanted_of dg (by rw [f1]; decide) rfl rfl) (Rg.bin da0 da1 rfl (by simp [go_sem])) rfl (hW.keep (by decide))
    | 27, ho, hi, hdep =>
      cases ho
      have da0 : ac.eval (.tmp 131) = .bool true := hF.2.2.2 18 131 _ rfl (hdep ⟨18, .data⟩ (by simp) rfl)
      have da1 : ac.eval (.tmp 139) = .bool true := hF.2.2.2 26 139 _ rfl (hdep ⟨26, .data⟩ (by simp) rfl)
      exact Ord.ex_value x rfl rfl (Rg.pick_t da0 da1 rfl) rfl (hW.keep (by decide))
    | 28, ho, hi, hdep =>
      cases ho
      have da0 : ac.eval (.tmp 140) = .bool true := hF.2.2.2 27 140 _ rfl (hdep ⟨27, .data⟩ (by simp) rfl)
      exact Ord.ex_value x rfl rfl (Rg.mv da0 rfl) rfl (hW.keep (by decide))
    | 29, ho, hi, hdep =>
      cases ho
      have dg : ac.eval (.tmp 141) = .bool true := hF.2.2.2 28 141 _ rfl (hdep ⟨28, .guard⟩ (by simp) rfl)
      have da0 : ac.eval (.tmp 0) = .pointer (some ⟨t, 0, none⟩) := hF.old 0 rfl
      exact Ord.ex_value x rfl (Ord.wanted_of dg (by rw [f1]; decide) rfl rfl) (Rg.mv da0 rfl) rfl (hW.keep (by decide))
    | 30, ho, hi, hdep =>
      cases ho
      have dg : ac.eval (.tmp 141) = .bool true := hF.2.2.2 28 141 _ rfl (hdep ⟨28, .guard⟩ (by simp) rfl)
      have da0 : ac.eval (.tmp 142) = .pointer (some ⟨t, 0, none⟩) := hF.2.2.2 29 142 _ rfl (hdep ⟨29, .data⟩ (by simp) rfl)
      have hA := hW.at (k := 0) rfl hi (.inl rfl)
      refine Rg.ex_calll x rfl (Ord.wanted_of dg (by rw [f1]; decide) rfl rfl) (Rg.enter (args := #[.pointer (some ⟨t, 0, none⟩)]) rfl rfl (by simp [da0]) EA.out) (Calls.mono (HAL.out _ hA.bel) ?_)
      rintro e w2 ⟨v, rfl, hr, hB⟩
      exact ⟨v, rfl, (fun j hj => match j, hj with | 0, _ => rfl | 1, _ => rfl | 2, _ => rfl | 3, _ => rfl | 4, _ => rfl | 5, _ => rfl | 6, _ => rfl | 7, _ => rfl | 8, _ => rfl | 9, _ => rfl | 10, _ => rfl | 11, _ => rfl | 12, _ => rfl | 13, _ => rfl | 14, _ => rfl | 15, _ => rfl | 16, _ => rfl | 17, _ => rfl | 18, _ => rfl | 19, _ => rfl | 20, _ => rfl | 21, _ => rfl | 22, _ => rfl | 23, _ => rfl | 24, _ => rfl | 25, _ => rfl | 26, _ => rfl | 27, _ => rfl | 28, _ => rfl | 29, _ => rfl | 30, hj => absurd hj (by rw [hi]; decide) | 31, _ => rfl | 32, _ => rfl | 33, _ => rfl | 34, _ => rfl | 35, _ => rfl | 36, _ => rfl | 37, _ => rfl | _ + 38, _ => rfl), hW.next (k := 0) rfl (by decide) hi (.inl rfl) ⟨hA.bel.trans (hB.mono hA.bel.size), fun _ => hr⟩⟩
    | 31, ho, hi, hdep =>
      cases ho
      have dg : ac.eval (.tmp 141) = .bool true := hF.2.2.2 28 141 _ rfl (hdep ⟨28, .guard⟩ (by simp) rfl)
      have da0 : ac.eval (.tmp 1) = .pointer (some ⟨r, 0, none⟩) := hF.old 1 rfl
      exact Ord.ex_value x rfl (Ord.wanted_of dg (by rw [f1]; decide) rfl rfl) (Rg.mv da0 rfl) rfl (hW.keep (by decide))
    | 32, ho, hi, hdep =>
      cases ho
      have dg : ac.eval (.tmp 141) = .bool true := hF.2.2.2 28 141 _ rfl (hdep ⟨28, .guard⟩ (by simp) rfl)
      have da0 : ac.eval (.tmp 144) = .pointer (some ⟨r, 0, none⟩) := hF.2.2.2 31 144 _ rfl (hdep ⟨31, .data⟩ (by simp) rfl)
      exact Ord.ex_value x rfl (Ord.wanted_of dg (by rw [f1]; decide) rfl rfl) (Rg.nilc da0 rfl) rfl (hW.keep (by decide))
    | 33, ho, hi, hdep =>
      cases ho
      have dg : ac.eval (.tmp 141) = .bool true := hF.2.2.2 28 141 _ rfl (hdep ⟨28, .guard⟩ (by simp) rfl)
      have da0 : ac.eval (.tmp 145) = .pointer (some ⟨r, 0, none⟩) := hF.2.2.2 32 145 _ rfl (hdep ⟨32, .data⟩ (by simp) rfl)
      exact Ord.ex_value x rfl (Ord.wanted_of dg (by rw [f1]; decide) rfl rfl) (Rg.fa da0 rfl (by simp [go_sem])) rfl (hW.keep (by decide))
    | 34, ho, hi, hdep =>
      cases ho
      have dg : ac.eval (.tmp 141) = .bool true := hF.2.2.2 28 141 _ rfl (hdep ⟨28, .guard⟩ (by simp) rfl)
      have da0 : ac.eval (.tmp 146) = .pointer (some ⟨r, 0, none⟩) := hF.2.2.2 33 146 _ rfl (hdep ⟨33, .data⟩ (by simp) rfl)
      obtain ⟨kq, hlo, hhi, hA⟩ := hW.range 0 1 (.inl rfl) (.inr ⟨35, rfl, (Rg.no_of (fun h => hcl 35 _ rfl (h) ⟨34, .data⟩ (by simp) rfl) hi)⟩)
      exact Ord.ex_value x rfl (Ord.wanted_of dg (by rw [f1]; decide) rfl rfl) (Rg.load da0 rfl (by simp [go_sem, (HC.out _ hA.bel).2.2.2.2])) rfl (hW.keep (by decide))
    | 35, ho, hi, hdep =>
      cases ho
      have dg : ac.eval (.tmp 141) = .bool true := hF.2.2.2 28 141 _ rfl (hdep ⟨28, .guard⟩ (by simp) rfl)
      have da0 : ac.eval (.tmp 143) = x := hF.2.2.2 30 143 _ rfl (hdep ⟨30, .data⟩ (by simp) rfl)
      have da1 : ac.eval (.tmp 147) = .slice la lnS lcap := hF.2.2.2 34 147 _ rfl (hdep ⟨34, .data⟩ (by simp) rfl)
      have hA := hW.at (k := 1) rfl hi (.inr ⟨30, rfl, (hdep ⟨30, .data⟩ (by simp) rfl)⟩)
      exact Rg.ex_call x rfl (Ord.wanted_of dg (by rw [f1]; decide) rfl rfl) (Rg.enter (args := #[x, .slice la lnS lcap]) rfl rfl (by simp [da0, da1]) ES.out) (Calls.mono (HSA.out _ _ hA.bel (hA.h1 (Nat.le_refl _))) (by rintro e w2 ⟨rfl, hB⟩; exact ⟨rfl, hW.next (k := 1) rfl (by decide) hi (.inr ⟨30, rfl, (hdep ⟨30, .data⟩ (by simp) rfl)⟩) ⟨hA.bel.trans (hB.mono hA.bel.size), fun _ => (hA.h1 (Nat.le_refl _)).later hB⟩⟩))
    | 36, ho, hi, hdep =>
      cases ho
      have da0 : ac.eval (.tmp 141) = .bool true := hF.2.2.2 28 141 _ rfl (hdep ⟨28, .data⟩ (by simp) rfl)
      have da1 : ac.eval (.tmp 148) = .bool true := hF.2.2.2 35 148 _ rfl (hdep ⟨35, .data⟩ (by simp) rfl)
      exact Ord.ex_value x rfl rfl (Rg.pick_t da0 da1 rfl) rfl (hW.keep (by decide))
    | 37, ho, hi, hdep =>
      cases ho
      have da0 : ac.eval (.tmp 149) = .bool true := hF.2.2.2 36 149 _ rfl (hdep ⟨36, .data⟩ (by simp) rfl)
      exact Ord.ex_value x rfl rfl (Rg.asg da0 rfl) rfl (hW.keep (by decide))
  case refine_3 => exact Rg.StM.first ⟨(Below.refl _ y).drew, fun e => absurd e (by decide)⟩
  case refine_2 =>
    intro x w' hW
    have HW := hidden hW.last
    clear hW
    simp only [Ord.puts, Ord.prs]
    go_simp
    go_wp2
    go_ret
    exact FIN.out _ _ _ HP2.out (HBY.out.trans (HW.out.bel.mono HBY.out.size))
set_option maxHeartbeats 2000000 in
set_option maxRecDepth 20000 in
theorem step4 {w0 w : World} {F0 : List Nat} {t r : Nat} {S : List D} {l : Int} (h : Pr w0 F0 w t r S S l l) (kI id tm : Int) (hi : I64 id) (hk : ¬ (kI = 1 ∨ kI = 2 ∨ kI = 3)) : Calls Try.prog 9 #[.pointer (some ⟨t, 0, none⟩), .pointer (some ⟨r, 0, none⟩), .agg #[.int .i64 kI, .int .i64 id, .int .i64 tm]] w fun e w' => StepO w0 t r F0 e w' := by
  have hk1 : (kI == 1) = false := beq_eq_false_iff_ne.2 (fun e => hk (.inl e))
  have hk2 : (kI == 2) = false := beq_eq_false_iff_ne.2 (fun e => hk (.inr (.inl e)))
  have hk3 : (kI == 3) = false := beq_eq_false_iff_ne.2 (fun e => hk (.inr (.inr e)))
  clear hk
  obtain ⟨F, G, h1, h2, h3, h4, h5⟩ := h
  obtain ⟨W1, hW1⟩ : ∃ W1, W1 = w.alloc (.cells #[.int .i64 kI, .int .i64 id, .int .i64 tm] 32) := ⟨_, rfl⟩
  obtain ⟨F1, hF1⟩ : ∃ F1, F1 = F ++ G := ⟨_, rfl⟩
  have hBW : Below w.heap.size w W1 := by rw [hW1]; exact (Below.refl _ w).alloc (Nat.le_refl _) _
  have hbox : Has W1 w.heap.size #[.int .i64 kI, .int .i64 id, .int .i64 tm] 32 := by rw [hW1]; exact Has.new w _ _
  have hnF : w.heap.size ∉ F1 := by
    rw [hF1]
    intro hh
    rcases List.mem_append.1 hh with hh | hh
    · have := h1.lt _ hh; omega
    · have := h2.lt _ hh; omega
  have HBX : Hid (∀ {S R : List D} {l1 l2 : Int} (x : World), Pr W1 F1 x t r S R l1 l2 → Has x w.heap.size #[.int .i64 kI, .int .i64 id, .int .i64 tm] 32) := fun x hx => by
    obtain ⟨_, _, _, _, _, ho, _⟩ := hx
    exact hbox.stay ho hnF
  have HP := hidden (show Pr W1 F1 W1 t r S S l l from ⟨F, G, h1.later hBW, h2.later hBW, h3, Only.refl _ _, by rw [hF1]; exact In.refl _ _⟩)
  have HK := hidden h1.ok.2.1
  have FIN : Hid (∀ (x w' : World) (S2 : List D) {L2 : Int}, Pr W1 F1 x t r S2 S2 L2 L2 → Below x.heap.size x w' → StepO w0 t r F0 (.returned (.bool true)) w') := fun x w' S2 L2 hp hB => by
    obtain ⟨F2, G2, g1, g2, g3, g4, g5⟩ := hp.later hB
    refine ⟨rfl, S2, L2, F2, G2, g1, g2, g3, ?_, ?_⟩
    · exact (h4.then (Only.of_below hBW)).trans g4 (by rw [hF1]; exact h5)
    · refine In.trans (w' := W1) (G := F1) (by rw [hF1]; exact h5) g5 (Nat.le_trans h4.size hBW.size)
  have HID := hidden hi
  have HW1 := hidden hW1
  have hlW : w.heap.size < W1.heap.size := hbox.lt
  have E1 : Hid (∀ (args : Array Value) (w : World), (callFunc 10 args).run Try.prog w = .ok (.enter 10 args) w) := enters_of Try.func10 (by kernel_rfl) rfl
  have E2 : Hid (∀ (args : Array Value) (w : World), (callFunc 25 args).run Try.prog w = .ok (.enter 25 args) w) := enters_of Try.func25 (by kernel_rfl) rfl
  have EL : Hid (∀ (args : Array Value) (w : World), (callFunc 14 args).run Try.prog w = .ok (.enter 14 args) w) := enters_of Try.func14 (by kernel_rfl) rfl
  have EA : Hid (∀ (args : Array Value) (w : World), (callFunc 17 args).run Try.prog w = .ok (.enter 17 args) w) := enters_of Try.func17 (by kernel_rfl) rfl
  have ES : Hid (∀ (args : Array Value) (w : World), (callFunc 16 args).run Try.prog w = .ok (.enter 16 args) w) := enters_of Try.func16 (by kernel_rfl) rfl
  clear h1 h2 h3 h4 h5 hBW hbox hF1 hnF hi hW1
  go_enter Try.func9, Try.ntmps9
  have HP2 := HP
  obtain ⟨x2, hx2⟩ : ∃ x2, x2 = W1 := ⟨_, rfl⟩
  obtain ⟨S2, hS2⟩ : ∃ S2, S2 = S := ⟨_, rfl⟩
  obtain ⟨L2, hL2⟩ : ∃ L2, L2 = l := ⟨_, rfl⟩
  rw [← hx2] at HW1
  rw [← hS2, ← hL2] at HP2
  rw [show Pr W1 F1 W1 t r S2 S2 L2 L2 = Pr W1 F1 x2 t r S2 S2 L2 L2 by rw [hx2]] at HP2
  clear hS2 hL2 hx2
  go_upto_region 15 with fail
  rw [← HW1.out]
  have bx1 := (HBX.out _ HP2.out).cell 1 rfl
  obtain ⟨fF, fG, p1, p2, p3, p4, p5⟩ := HP2.out
  obtain ⟨lv, rfl, q1, q2, q3⟩ := p2
  obtain ⟨la, lcap, hlv⟩ := own_len q2
  have crl := q1.cell 0 rfl
  have hrlt := q1.lt
  have hlR := Own.rw q2 (by omega)
  obtain ⟨lnS, hlnS⟩ : ∃ lnS, lnS = S2.length := ⟨_, rfl⟩
  rw [show (#[lv, .int .i64 L2] : Array Value)[0] = .slice la lnS lcap by rw [hlnS]; exact hlv] at crl
  rw [hlv, ← hlnS] at hlR
  obtain ⟨dn, hb, hnx⟩ : ∃ (dn : D) (hb : Bool), nextV S2 = .tuple #[.agg #[.int .i64 dn.1, .int .i64 dn.2], .bool hb] := ⟨_, _, rfl⟩
  obtain ⟨gi, gb, hgt⟩ : ∃ (gi : Int) (gb : Bool), getV id S2 = .tuple #[.int .i64 gi, .bool gb] := ⟨_, _, rfl⟩
  have HN1 : Hid (∀ x, Below x2.heap.size x2 x → Calls Try.prog 19 #[.pointer (some ⟨t, 0, none⟩)] x fun e w' => e = .returned (.tuple #[.agg #[.int .i64 dn.1, .int .i64 dn.2], .bool hb]) ∧ Below x.heap.size x w') := fun x hx => by rw [← hnx]; exact tnext (p1.later hx)
  have HRT : Hid (RT x2 r S2 L2 (r :: lv.ownBlock.toList)) := ⟨lv, rfl, q1, q2, q3⟩
  have HN2 : Hid (∀ x, Below x2.heap.size x2 x → Calls Try.prog 28 #[.pointer (some ⟨r, 0, none⟩)] x fun e w' => e = .returned (.tuple #[.agg #[.int .i64 dn.1, .int .i64 dn.2], .bool hb]) ∧ Below x.heap.size x w') := fun x hx => by rw [← hnx]; exact rnext (HRT.out.later hx)
  have HG1 : Hid (∀ x, Below x2.heap.size x2 x → Calls Try.prog 18 #[.pointer (some ⟨t, 0, none⟩), .int .i64 id] x fun e w' => e = .returned (.tuple #[.int .i64 gi, .bool gb]) ∧ Below x.heap.size x w') := fun x hx => by rw [← hgt]; exact tget (p1.later hx) id HID.out
  have HG2 : Hid (∀ x, Below x2.heap.size x2 x → Calls Try.prog 29 #[.pointer (some ⟨r, 0, none⟩), .int .i64 id] x fun e w' => e = .returned (.tuple #[.int .i64 gi, .bool gb]) ∧ x = w') := fun x hx => by rw [← hgt]; exact rget (HRT.out.later hx) id
  have HT2 := hidden p1
  have HLR := hidden hlR
  have HLS := hidden hlnS
  have HBB := hidden (HBX.out _ HP2.out)
  clear p1 p3 p4 p5 q1 q2 q3 hlv hlR hlnS hnx hgt HBX
  go_wp2_with fail
  refine Calls.mono (HN1.out _ (Below.refl _ _)) ?_
  rintro e x3 ⟨rfl, hB3⟩
  obtain ⟨y1, hy1⟩ : ∃ y1, y1 = x3.alloc (.cells #[.int .i64 dn.1, .int .i64 dn.2] 43) := ⟨_, rfl⟩
  have hBy1 : Below x2.heap.size x2 y1 := by rw [hy1]; exact hB3.alloc hB3.size _
  have hb1 : Has y1 x3.heap.size #[.int .i64 dn.1, .int .i64 dn.2] 43 := by rw [hy1]; exact Has.new x3 _ _
  have HY1 := hidden hy1
  have HBY1 := hidden hBy1
  have HB1 := hidden hb1
  clear hB3 hy1 hBy1 hb1 HN1
  go_upto_region 16 with fail
  rw [← HY1.out]
  go_wp2_with fail
  refine Calls.mono (HN2.out _ HBY1.out) ?_
  rintro e x4 ⟨rfl, hB4⟩
  obtain ⟨y2, hy2⟩ : ∃ y2, y2 = x4.alloc (.cells #[.int .i64 dn.1, .int .i64 dn.2] 43) := ⟨_, rfl⟩
  have hBy2 : Below y1.heap.size y1 y2 := by rw [hy2]; exact hB4.alloc hB4.size _
  have hb2 : Has y2 x4.heap.size #[.int .i64 dn.1, .int .i64 dn.2] 43 := by rw [hy2]; exact Has.new x4 _ _
  have hb1 := HB1.out.later hBy2
  have hB02 : Below x2.heap.size x2 y2 := HBY1.out.trans (hBy2.mono HBY1.out.size)
  have bb1 := (HBB.out.later hB02).cell 1 rfl
  have HY2 := hidden hy2
  have HBY2 := hidden hB02
  have HB2 := hidden hb2
  have HB1b := hidden hb1
  clear hB4 hy2 hBy2 hb1 hb2 hB02 HN2 HB1 HY1 HBY1
  go_upto_region 17 with fail
  rw [← HY2.out]
  go_wp2_with fail
  refine Calls.mono (HG1.out _ HBY2.out) ?_
  rintro e y ⟨rfl, hB5⟩
  have hB0y : Below x2.heap.size x2 y := HBY2.out.trans (hB5.mono HBY2.out.size)
  have bb2 := (HBB.out.later hB0y).cell 1 rfl
  have hb1 := HB1b.out.later hB5
  have hb2 := HB2.out.later hB5
  have HBY := hidden hB0y
  have HC : Hid (∀ w', Below y.heap.size y w' → w'.cell? ⟨x3.heap.size, 0, none⟩ = some (.int .i64 dn.1) ∧ w'.cell? ⟨x3.heap.size, 1, none⟩ = some (.int .i64 dn.2) ∧ w'.cell? ⟨x4.heap.size, 0, none⟩ = some (.int .i64 dn.1) ∧ w'.cell? ⟨x4.heap.size, 1, none⟩ = some (.int .i64 dn.2) ∧ w'.cell? ⟨r, 0, none⟩ = some (.slice la lnS lcap)) := fun w' hw => ⟨(hb1.later hw).cell 0 rfl, (hb1.later hw).cell 1 rfl, (hb2.later hw).cell 0 rfl, (hb2.later hw).cell 1 rfl, ((hB0y.trans (hw.mono hB0y.size)).cell (p := ⟨r, 0, none⟩) hrlt).trans crl⟩
  have HLE : Hid (∀ x, Below y.heap.size y x → Calls Try.prog 14 #[.pointer (some ⟨t, 0, none⟩)] x fun e w' => e = .returned (.int .i64 (lnS : Int)) ∧ x = w') := fun x hx => by rw [HLS.out]; exact tlen (HT2.out.later (hB0y.trans (hx.mono hB0y.size)))
  have HAL : Hid (∀ x, Below y.heap.size y x → Calls Try.prog 17 #[.pointer (some ⟨t, 0, none⟩)] x fun e w' => ∃ v, e = .returned v ∧ Rw w' v S2 ∧ Below x.heap.size x w') := fun x hx => tall (HT2.out.later (hB0y.trans (hx.mono hB0y.size)))
  have HSA : Hid (∀ x v, Below y.heap.size y x → Rw x v S2 → Calls Try.prog 16 #[v, .slice la lnS lcap] x fun e w' => e = .returned (.bool true) ∧ Below x.heap.size x w') := fun x v hx hv => rsame x _ _ _ hv (HLR.out.later (hB0y.trans (hx.mono hB0y.size)))
  clear hB5 hb1 hb2 hB0y HY2 HBY2 HB2 HB1b HG1 HLR HLS HRT HBB bx1 crl
  go_wp2_with fail
  refine Calls.mono (HG2.out _ HBY.out) ?_
  rintro e yy ⟨rfl, rfl⟩
  clear HG2
  go_upto_region 19 with fail
  refine Ord.wp_region_ex0 (X := Value) (by kernel_rfl) 150 (fun x => [(some 113, .agg #[.int .i64 dn.1, .int .i64 dn.2]), (some 114, .agg #[.int .i64 dn.1, .int .i64 dn.2]), (some 115, .bool true), (some 116, .bool true), (some 117, .bool hb), (some 118, .bool hb), (some 119, .bool true), (some 120, .bool true), (some 121, .bool true), (some 122, .int .i64 gi), (some 123, .int .i64 gi), (some 124, .bool true), (some 125, .bool true), (some 126, .bool true), (some 127, .bool gb), (some 128, .bool gb), (some 129, .bool true), (some 130, .bool true), (some 131, .bool true), (some 132, .pointer (some ⟨t, 0, none⟩)), (some 133, .int .i64 (lnS : Int)), (some 134, .pointer (some ⟨r, 0, none⟩)), (some 135, .pointer (some ⟨r, 0, none⟩)), (some 136, .pointer (some ⟨r, 0, none⟩)), (some 137, .slice la lnS lcap), (some 138, .int .i64 (lnS : Int)), (some 139, .bool true), (some 140, .bool true), (some 141, .bool true), (some 142, .pointer (some ⟨t, 0, none⟩)), (some 143, x), (some 144, .pointer (some ⟨r, 0, none⟩)), (some 145, .pointer (some ⟨r, 0, none⟩)), (some 146, .pointer (some ⟨r, 0, none⟩)), (some 147, .slice la lnS lcap), (some 148, .bool true), (some 149, .bool true), (some 6, .bool true)]) [some 113, some 114, some 115, some 116, some 117, some 118, some 119, some 120, some 121, some 122, some 123, some 124, some 125, some 126, some 127, some 128, some 129, some 130, some 131, some 132, some 133, some 134, some 135, some 136, some 137, some 138, some 139, some 140, some 141, some 142, some 143, some 144, some 145, some 146, some 147, some 148, some 149, some 6] rfl (fun listed hsz hr => Ord.all_listedC (rank := [0, 1, 2, 3, 4, 5, 6, 7, 8, 9, 10, 11, 12, 13, 14, 15, 16, 17, 18, 19, 20, 21, 22, 23, 24, 25, 26, 27, 28, 29, 30, 31, 32, 33, 34, 35, 36, 37]) (by kernel_rfl) hsz hr) (by rfl) (fun _ => rfl) (by kernel_rfl) (Rg.StM [30, 35] (fun k x w' => TaA y S2 k x w')) (fun _ _ _ _ hL h => h.ext (n := 38) (by decide) hL) ?_ ?_ undef ?_
  case refine_1 =>
    intro x Lq iq oq ac w' ho hi hcl hdep hF hW
    have f1 : ac.tmps.size = 150 := hF.1
    match iq, ho, hi, hdep with
    | 0, ho, hi, hdep =>
      cases ho
      have da0 : ac.eval (.tmp 15) = .pointer (some ⟨x3.heap.size, 0, none⟩) := hF.old 15 rfl
      obtain ⟨kq, hlo, hhi, hA⟩ := hW.range 0 0 (.inl rfl) (.inr ⟨30, rfl, (Rg.no_of (fun h => hcl 2 _ rfl (hcl 3 _ rfl (hcl 8 _ rfl (hcl 13 _ rfl (hcl 18 _ rfl (hcl 27 _ rfl (hcl 28 _ rfl (hcl 30 _ rfl (h) ⟨28, .chain⟩ (by simp) rfl) ⟨27, .data⟩ (by simp) rfl) ⟨18, .data⟩ (by simp) rfl) ⟨13, .chain⟩ (by simp) rfl) ⟨8, .chain⟩ (by simp) rfl) ⟨3, .chain⟩ (by simp) rfl) ⟨2, .data⟩ (by simp) rfl) ⟨0, .data⟩ (by simp) rfl) hi)⟩)
      exact Ord.ex_value x rfl rfl (Rg.load da0 rfl (by simp [go_sem, (HC.out _ hA.bel).1, (HC.out _ hA.bel).2.1])) rfl (hW.keep (by decide))
    | 1, ho, hi, hdep =>
      cases ho
      have da0 : ac.eval (.tmp 17) = .pointer (some ⟨x4.heap.size, 0, none⟩) := hF.old 17 rfl
      obtain ⟨kq, hlo, hhi, hA⟩ := hW.range 0 0 (.inl rfl) (.inr ⟨30, rfl, (Rg.no_of (fun h => hcl 2 _ rfl (hcl 3 _ rfl (hcl 8 _ rfl (hcl 13 _ rfl (hcl 18 _ rfl (hcl 27 _ rfl (hcl 28 _ rfl (hcl 30 _ rfl (h) ⟨28, .chain⟩ (by simp) rfl) ⟨27, .data⟩ (by simp) rfl) ⟨18, .data⟩ (by simp) rfl) ⟨13, .chain⟩ (by simp) rfl) ⟨8, .chain⟩ (by simp) rfl) ⟨3, .chain⟩ (by simp) rfl) ⟨2, .data⟩ (by simp) rfl) ⟨1, .data⟩ (by simp) rfl) hi)⟩)
      exact Ord.ex_value x rfl rfl (Rg.load da0 rfl (by simp [go_sem, (HC.out _ hA.bel).2.2.1, (HC.out _ hA.bel).2.2.2.1])) rfl (hW.keep (by decide))
    | 2, ho, hi, hdep =>
      cases ho
      have da0 : ac.eval (.tmp 113) = .agg #[.int .i64 dn.1, .int .i64 dn.2] := hF.2.2.2 0 113 _ rfl (hdep ⟨0, .data⟩ (by simp) rfl)
      have da1 : ac.eval (.tmp 114) = .agg #[.int .i64 dn.1, .int .i64 dn.2] := hF.2.2.2 1 114 _ rfl (hdep ⟨1, .data⟩ (by simp) rfl)
      exact Ord.ex_value x rfl rfl (Rg.bin da0 da1 rfl (by simp [go_sem])) rfl (hW.keep (by decide))
    | 3, ho, hi, hdep =>
      cases ho
      have da0 : ac.eval (.tmp 115) = .bool true := hF.2.2.2 2 115 _ rfl (hdep ⟨2, .data⟩ (by simp) rfl)
      exact Ord.ex_value x rfl rfl (Rg.mv da0 rfl) rfl (hW.keep (by decide))
    | 4, ho, hi, hdep =>
      cases ho
      have dg : ac.eval (.tmp 116) = .bool true := hF.2.2.2 3 116 _ rfl (hdep ⟨3, .guard⟩ (by simp) rfl)
      have da0 : ac.eval (.tmp 16) = .bool hb := hF.old 16 rfl
      exact Ord.ex_value x rfl (Ord.wanted_of dg (by rw [f1]; decide) rfl rfl) (Rg.mv da0 rfl) rfl (hW.keep (by decide))
    | 5, ho, hi, hdep =>
      cases ho
      have dg : ac.eval (.tmp 116) = .bool true := hF.2.2.2 3 116 _ rfl (hdep ⟨3, .guard⟩ (by simp) rfl)
      have da0 : ac.eval (.tmp 18) = .bool hb := hF.old 18 rfl
      exact Ord.ex_value x rfl (Ord.wanted_of dg (by rw [f1]; decide) rfl rfl) (Rg.mv da0 rfl) rfl (hW.keep (by decide))
    | 6, ho, hi, hdep =>
      cases ho
      have dg : ac.eval (.tmp 116) = .bool true := hF.2.2.2 3 116 _ rfl (hdep ⟨3, .guard⟩ (by simp) rfl)
      have da0 : ac.eval (.tmp 117) = .bool hb := hF.2.2.2 4 117 _ rfl (hdep ⟨4, .data⟩ (by simp) rfl)
      have da1 : ac.eval (.tmp 118) = .bool hb := hF.2.2.2 5 118 _ rfl (hdep ⟨5, .data⟩ (by simp) rfl)
      exact Ord.ex_value x rfl (Ord.wanted_of dg (by rw [f1]; decide) rfl rfl) (Rg.bin da0 da1 rfl (by simp [go_sem])) rfl (hW.keep (by decide))
    | 7, ho, hi, hdep =>
      cases ho
      have da0 : ac.eval (.tmp 116) = .bool true := hF.2.2.2 3 116 _ rfl (hdep ⟨3, .data⟩ (by simp) rfl)
      have da1 : ac.eval (.tmp 119) = .bool true := hF.2.2.2 6 119 _ rfl (hdep ⟨6, .data⟩ (by simp) rfl)
      exact Ord.ex_value x rfl rfl (Rg.pick_t da0 da1 rfl) rfl (hW.keep (by decide))
    | 8, ho, hi, hdep =>
      cases ho
      have da0 : ac.eval (.tmp 120) = .bool true := hF.2.2.2 7 120 _ rfl (hdep ⟨7, .data⟩ (by simp) rfl)
      exact Ord.ex_value x rfl rfl (Rg.mv da0 rfl) rfl (hW.keep (by decide))
    | 9, ho, hi, hdep =>
      cases ho
      have dg : ac.eval (.tmp 121) = .bool true := hF.2.2.2 8 121 _ rfl (hdep ⟨8, .guard⟩ (by simp) rfl)
      have da0 : ac.eval (.tmp 19) = .int .i64 gi := hF.old 19 rfl
      exact Ord.ex_value x rfl (Ord.wanted_of dg (by rw [f1]; decide) rfl rfl) (Rg.mv da0 rfl) rfl (hW.keep (by decide))
    | 10, ho, hi, hdep =>
      cases ho
      have dg : ac.eval (.tmp 121) = .bool true := hF.2.2.2 8 121 _ rfl (hdep ⟨8, .guard⟩ (by simp) rfl)
      have da0 : ac.eval (.tmp 21) = .int .i64 gi := hF.old 21 rfl
      exact Ord.ex_value x rfl (Ord.wanted_of dg (by rw [f1]; decide) rfl rfl) (Rg.mv da0 rfl) rfl (hW.keep (by decide))
    | 11, ho, hi, hdep =>
      cases ho
      have dg : ac.eval (.tmp 121) = .bool true := hF.2.2.2 8 121 _ rfl (hdep ⟨8, .guard⟩ (by simp) rfl)
      have da0 : ac.eval (.tmp 122) = .int .i64 gi := hF.2.2.2 9 122 _ rfl (hdep ⟨9, .data⟩ (by simp) rfl)
      have da1 : ac.eval (.tmp 123) = .int .i64 gi := hF.2.2.2 10 123 _ rfl (hdep ⟨10, .data⟩ (by simp) rfl)
      exact Ord.ex_value x rfl (Ord.wanted_of dg (by rw [f1]; decide) rfl rfl) (Rg.bin da0 da1 rfl (by simp [go_sem])) rfl (hW.keep (by decide))
    | 12, ho, hi, hdep =>
      cases ho
      have da0 : ac.eval (.tmp 121) = .bool true := hF.2.2.2 8 121 _ rfl (hdep ⟨8, .data⟩ (by simp) rfl)
      have da1 : ac.eval (.tmp 124) = .bool true := hF.2.2.2 11 124 _ rfl (hdep ⟨11, .data⟩ (by simp) rfl)
      exact Ord.ex_value x rfl rfl (Rg.pick_t da0 da1 rfl) rfl (hW.keep (by decide))
    | 13, ho, hi, hdep =>
      cases ho
      have da0 : ac.eval (.tmp 125) = .bool true := hF.2.2.2 12 125 _ rfl (hdep ⟨12, .data⟩ (by simp) rfl)
      exact Ord.ex_value x rfl rfl (Rg.mv da0 rfl) rfl (hW.keep (by decide))
    | 14, ho, hi, hdep =>
      cases ho
      have dg : ac.eval (.tmp 126) = .bool true := hF.2.2.2 13 126 _ rfl (hdep ⟨13, .guard⟩ (by simp) rfl)
      have da0 : ac.eval (.tmp 20) = .bool gb := hF.old 20 rfl
      exact Ord.ex_value x rfl (Ord.wanted_of dg (by rw [f1]; decide) rfl rfl) (Rg.mv da0 rfl) rfl (hW.keep (by decide))
    | 15, ho, hi, hdep =>
      cases ho
      have dg : ac.eval (.tmp 126) = .bool true := hF.2.2.2 13 126 _ rfl (hdep ⟨13, .guard⟩ (by simp) rfl)
      have da0 : ac.eval (.tmp 22) = .bool gb := hF.old 22 rfl
      exact Ord.ex_value x rfl (Ord.wanted_of dg (by rw [f1]; decide) rfl rfl) (Rg.mv da0 rfl) rfl (hW.keep (by decide))
    | 16, ho, hi, hdep =>
      cases ho
      have dg : ac.eval (.tmp 126) = .bool true := hF.2.2.2 13 126 _ rfl (hdep ⟨13, .guard⟩ (by simp) rfl)
      have da0 : ac.eval (.tmp 127) = .bool gb := hF.2.2.2 14 127 _ rfl (hdep ⟨14, .data⟩ (by simp) rfl)
      have da1 : ac.eval (.tmp 128) = .bool gb := hF.2.2.2 15 128 _ rfl (hdep ⟨15, .data⟩ (by simp) rfl)
      exact Ord.ex_value x rfl (Ord.wanted_of dg (by rw [f1]; decide) rfl rfl) (Rg.bin da0 da1 rfl (by simp [go_sem])) rfl (hW.keep (by decide))
    | 17, ho, hi, hdep =>
      cases ho
      have da0 : ac.eval (.tmp 126) = .bool true := hF.2.2.2 13 126 _ rfl (hdep ⟨13, .data⟩ (by simp) rfl)
      have da1 : ac.eval (.tmp 129) = .bool true := hF.2.2.2 16 129 _ rfl (hdep ⟨16, .data⟩ (by simp) rfl)
      exact Ord.ex_value x rfl rfl (Rg.pick_t da0 da1 rfl) rfl (hW.keep (by decide))
    | 18, ho, hi, hdep =>
      cases ho
      have da0 : ac.eval (.tmp 130) = .bool true := hF.2.2.2 17 130 _ rfl (hdep ⟨17, .data⟩ (by simp) rfl)
      exact Ord.ex_value x rfl rfl (Rg.mv da0 rfl) rfl (hW.keep (by decide))
    | 19, ho, hi, hdep =>
      cases ho
      have dg : ac.eval (.tmp 131) = .bool true := hF.2.2.2 18 131 _ rfl (hdep ⟨18, .guard⟩ (by simp) rfl)
      have da0 : ac.eval (.tmp 0) = .pointer (some ⟨t, 0, none⟩) := hF.old 0 rfl
      exact Ord.ex_value x rfl (Ord.wanted_of dg (by rw [f1]; decide) rfl rfl) (Rg.mv da0 rfl) rfl (hW.keep (by decide))
    | 20, ho, hi, hdep =>
      cases ho
      have dg : ac.eval (.tmp 131) = .bool true := hF.2.2.2 18 131 _ rfl (hdep ⟨18, .guard⟩ (by simp) rfl)
      have da0 : ac.eval (.tmp 132) = .pointer (some ⟨t, 0, none⟩) := hF.2.2.2 19 132 _ rfl (hdep ⟨19, .data⟩ (by simp) rfl)
      obtain ⟨kq, hlo, hhi, hA⟩ := hW.range 0 0 (.inl rfl) (.inr ⟨30, rfl, (Rg.no_of (fun h => hcl 28 _ rfl (hcl 30 _ rfl (h) ⟨28, .chain⟩ (by simp) rfl) ⟨20, .chain⟩ (by simp) rfl) hi)⟩)
      exact Rg.ex_call x rfl (Ord.wanted_of dg (by rw [f1]; decide) rfl rfl) (Rg.enter (args := #[.pointer (some ⟨t, 0, none⟩)]) rfl rfl (by simp [da0]) EL.out) (Calls.mono (HLE.out _ hA.bel) (by rintro e w2 ⟨rfl, rfl⟩; exact ⟨rfl, (hW.keep (by decide))⟩))
    | 21, ho, hi, hdep =>
      cases ho
      have dg : ac.eval (.tmp 131) = .bool true := hF.2.2.2 18 131 _ rfl (hdep ⟨18, .guard⟩ (by simp) rfl)
      have da0 : ac.eval (.tmp 1) = .pointer (some ⟨r, 0, none⟩) := hF.old 1 rfl
      exact Ord.ex_value x rfl (Ord.wanted_of dg (by rw [f1]; decide) rfl rfl) (Rg.mv da0 rfl) rfl (hW.keep (by decide))
    | 22, ho, hi, hdep =>
      cases ho
      have dg : ac.eval (.tmp 131) = .bool true := hF.2.2.2 18 131 _ rfl (hdep ⟨18, .guard⟩ (by simp) rfl)
      have da0 : ac.eval (.tmp 134) = .pointer (some ⟨r, 0, none⟩) := hF.2.2.2 21 134 _ rfl (hdep ⟨21, .data⟩ (by simp) rfl)
      exact Ord.ex_value x rfl (Ord.wanted_of dg (by rw [f1]; decide) rfl rfl) (Rg.nilc da0 rfl) rfl (hW.keep (by decide))
    | 23, ho, hi, hdep =>
      cases ho
      have dg : ac.eval (.tmp 131) = .bool true := hF.2.2.2 18 131 _ rfl (hdep ⟨18, .guard⟩ (by simp) rfl)
      have da0 : ac.eval (.tmp 135) = .pointer (some ⟨r, 0, none⟩) := hF.2.2.2 22 135 _ rfl (hdep ⟨22, .data⟩ (by simp) rfl)
      exact Ord.ex_value x rfl (Ord.wanted_of dg (by rw [f1]; decide) rfl rfl) (Rg.fa da0 rfl (by simp [go_sem])) rfl (hW.keep (by decide))
    | 24, ho, hi, hdep =>
      cases ho
      have dg : ac.eval (.tmp 131) = .bool true := hF.2.2.2 18 131 _ rfl (hdep ⟨18, .guard⟩ (by simp) rfl)
      have da0 : ac.eval (.tmp 136) = .pointer (some ⟨r, 0, none⟩) := hF.2.2.2 23 136 _ rfl (hdep ⟨23, .data⟩ (by simp) rfl)
      obtain ⟨kq, hlo, hhi, hA⟩ := hW.range 0 0 (.inl rfl) (.inr ⟨30, rfl, (Rg.no_of (fun h => hcl 25 _ rfl (hcl 26 _ rfl (hcl 27 _ rfl (hcl 28 _ rfl (hcl 30 _ rfl (h) ⟨28, .chain⟩ (by simp) rfl) ⟨27, .data⟩ (by simp) rfl) ⟨26, .data⟩ (by simp) rfl) ⟨25, .data⟩ (by simp) rfl) ⟨24, .data⟩ (by simp) rfl) hi)⟩)
      exact Ord.ex_value x rfl (Ord.wanted_of dg (by rw [f1]; decide) rfl rfl) (Rg.load da0 rfl (by simp [go_sem, (HC.out _ hA.bel).2.2.2.2])) rfl (hW.keep (by decide))
    | 25, ho, hi, hdep =>
      cases ho
      have dg : ac.eval (.tmp 131) = .bool true := hF.2.2.2 18 131 _ rfl (hdep ⟨18, .guard⟩ (by simp) rfl)
      have da0 : ac.eval (.tmp 137) = .slice la lnS lcap := hF.2.2.2 24 137 _ rfl (hdep ⟨24, .data⟩ (by simp) rfl)
      exact Ord.ex_value x rfl (Ord.wanted_of dg (by rw [f1]; decide) rfl rfl) (Rg.len_ da0 rfl (by simp [go_sem])) rfl (hW.keep (by decide))
    | 26, ho, hi, hdep =>
      cases ho
      have dg : ac.eval (.tmp 131) = .bool true := hF.2.2.2 18 131 _ rfl (hdep ⟨18, .guard⟩ (by simp) rfl)
      have da0 : ac.eval (.tmp 133) = .int .i64 (lnS : Int) := hF.2.2.2 20 133 _ rfl (hdep ⟨20, .data⟩ (by simp) rfl)
      have da1 : ac.eval (.tmp 138) = .int .i64 (lnS : Int) := hF.2.2.2 25 138 _ rfl (hdep ⟨25, .data⟩ (by simp) rfl)
      exact Ord.ex_value x rfl (Ord.wanted_of dg (by rw [f1]; decide) rfl rfl) (Rg.bin da0 da1 rfl (by simp [go_sem])) rfl (hW.keep (by decide))
    | 27, ho, hi, hdep =>
      cases ho
      have da0 : ac.eval (.tmp 131) = .bool true := hF.2.2.2 18 131 _ rfl (hdep ⟨18, .data⟩ (by simp) rfl)
      have da1 : ac.eval (.tmp 139) = .bool true := hF.2.2.2 26 139 _ rfl (hdep ⟨26, .data⟩ (by simp) rfl)
      exact Ord.ex_value x rfl rfl (Rg.pick_t da0 da1 rfl) rfl (hW.keep (by decide))
    | 28, ho, hi, hdep =>
      cases ho
      have da0 : ac.eval (.tmp 140) = .bool true := hF.2.2.2 27 140 _ rfl (hdep ⟨27, .data⟩ (by simp) rfl)
      exact Ord.ex_value x rfl rfl (Rg.mv da0 rfl) rfl (hW.keep (by decide))
    | 29, ho, hi, hdep =>
      cases ho
      have dg : ac.eval (.tmp 141) = .bool true := hF.2.2.2 28 141 _ rfl (hdep ⟨28, .guard⟩ (by simp) rfl)
      have da0 : ac.eval (.tmp 0) = .pointer (some ⟨t, 0, none⟩) := hF.old 0 rfl
      exact Ord.ex_value x rfl (Ord.wanted_of dg (by rw [f1]; decide) rfl rfl) (Rg.mv da0 rfl) rfl (hW.keep (by decide))
    | 30, ho, hi, hdep =>
      cases ho
      have dg : ac.eval (.tmp 141) = .bool true := hF.2.2.2 28 141 _ rfl (hdep ⟨28, .guard⟩ (by simp) rfl)
      have da0 : ac.eval (.tmp 142) = .pointer (some ⟨t, 0, none⟩) := hF.2.2.2 29 142 _ rfl (hdep ⟨29, .data⟩ (by simp) rfl)
      have hA := hW.at (k := 0) rfl hi (.inl rfl)
      refine Rg.ex_calll x rfl (Ord.wanted_of dg (by rw [f1]; decide) rfl rfl) (Rg.enter (args := #[.pointer (some ⟨t, 0, none⟩)]) rfl rfl (by simp [da0]) EA.out) (Calls.mono (HAL.out _ hA.bel) ?_)
      rintro e w2 ⟨v, rfl, hr, hB⟩
      exact ⟨v, rfl, (fun j hj => match j, hj with | 0, _ => rfl | 1, _ => rfl | 2, _ => rfl | 3, _ => rfl | 4, _ => rfl | 5, _ => rfl | 6, _ => rfl | 7, _ => rfl | 8, _ => rfl | 9, _ => rfl | 10, _ => rfl | 11, _ => rfl | 12, _ => rfl | 13, _ => rfl | 14, _ => rfl | 15, _ => rfl | 16, _ => rfl | 17, _ => rfl | 18, _ => rfl | 19, _ => rfl | 20, _ => rfl | 21, _ => rfl | 22, _ => rfl | 23, _ => rfl | 24, _ => rfl | 25, _ => rfl | 26, _ => rfl | 27, _ => rfl | 28, _ => rfl | 29, _ => rfl | 30, hj => absurd hj (by rw [hi]; decide) | 31, _ => rfl | 32, _ => rfl | 33, _ => rfl | 34, _ => rfl | 35, _ => rfl | 36, _ => rfl | 37, _ => rfl | _ + 38, _ => rfl), hW.next (k := 0) rfl (by decide) hi (.inl rfl) ⟨hA.bel.trans (hB.mono hA.bel.size), fun _ => hr⟩⟩
    | 31, ho, hi, hdep =>
      cases ho
      have dg : ac.eval (.tmp 141) = .bool true := hF.2.2.2 28 141 _ rfl (hdep ⟨28, .guard⟩ (by simp) rfl)
      have da0 : ac.eval (.tmp 1) = .pointer (some ⟨r, 0, none⟩) := hF.old 1 rfl
      exact Ord.ex_value x rfl (Ord.wanted_of dg (by rw [f1]; decide) rfl rfl) (Rg.mv da0 rfl) rfl (hW.keep (by decide))
    | 32, ho, hi, hdep =>
      cases ho
      have dg : ac.eval (.tmp 141) = .bool true := hF.2.2.2 28 141 _ rfl (hdep ⟨28, .guard⟩ (by simp) rfl)
      have da0 : ac.eval (.tmp 144) = .pointer (some ⟨r, 0, none⟩) := hF.2.2.2 31 144 _ rfl (hdep ⟨31, .data⟩ (by simp) rfl)
      exact Ord.ex_value x rfl (Ord.wanted_of dg (by rw [f1]; decide) rfl rfl) (Rg.nilc da0 rfl) rfl (hW.keep (by decide))
    | 33, ho, hi, hdep =>
      cases ho
      have dg : ac.eval (.tmp 141) = .bool true := hF.2.2.2 28 141 _ rfl (hdep ⟨28, .guard⟩ (by simp) rfl)
      have da0 : ac.eval (.tmp 145) = .pointer (some ⟨r, 0, none⟩) := hF.2.2.2 32 145 _ rfl (hdep ⟨32, .data⟩ (by simp) rfl)
      exact Ord.ex_value x rfl (Ord.wanted_of dg (by rw [f1]; decide) rfl rfl) (Rg.fa da0 rfl (by simp [go_sem])) rfl (hW.keep (by decide))
    | 34, ho, hi, hdep =>
      cases ho
      have dg : ac.eval (.tmp 141) = .bool true := hF.2.2.2 28 141 _ rfl (hdep ⟨28, .guard⟩ (by simp) rfl)
      have da0 : ac.eval (.tmp 146) = .pointer (some ⟨r, 0, none⟩) := hF.2.2.2 33 146 _ rfl (hdep ⟨33, .data⟩ (by simp) rfl)
      obtain ⟨kq, hlo, hhi, hA⟩ := hW.range 0 1 (.inl rfl) (.inr ⟨35, rfl, (Rg.no_of (fun h => hcl 35 _ rfl (h) ⟨34, .data⟩ (by simp) rfl) hi)⟩)
      exact Ord.ex_value x rfl (Ord.wanted_of dg (by rw [f1]; decide) rfl rfl) (Rg.load da0 rfl (by simp [go_sem, (HC.out _ hA.bel).2.2.2.2])) rfl (hW.keep (by decide))
    | 35, ho, hi, hdep =>
      cases ho
      have dg : ac.eval (.tmp 141) = .bool true := hF.2.2.2 28 141 _ rfl (hdep ⟨28, .guard⟩ (by simp) rfl)
      have da0 : ac.eval (.tmp 143) = x := hF.2.2.2 30 143 _ rfl (hdep ⟨30, .data⟩ (by simp) rfl)
      have da1 : ac.eval (.tmp 147) = .slice la lnS lcap := hF.2.2.2 34 147 _ rfl (hdep ⟨34, .data⟩ (by simp) rfl)
      have hA := hW.at (k := 1) rfl hi (.inr ⟨30, rfl, (hdep ⟨30, .data⟩ (by simp) rfl)⟩)
      exact Rg.ex_call x rfl (Ord.wanted_of dg (by rw [f1]; decide) rfl rfl) (Rg.enter (args := #[x, .slice la lnS lcap]) rfl rfl (by simp [da0, da1]) ES.out) (Calls.mono (HSA.out _ _ hA.bel (hA.h1 (Nat.le_refl _))) (by rintro e w2 ⟨rfl, hB⟩; exact ⟨rfl, hW.next (k := 1) rfl (by decide) hi (.inr ⟨30, rfl, (hdep ⟨30, .data⟩ (by simp) rfl)⟩) ⟨hA.bel.trans (hB.mono hA.bel.size), fun _ => (hA.h1 (Nat.le_refl _)).later hB⟩⟩))
    | 36, ho, hi, hdep =>
      cases ho
      have da0 : ac.eval (.tmp 141) = .bool true := hF.2.2.2 28 141 _ rfl (hdep ⟨28, .data⟩ (by simp) rfl)
      have da1 : ac.eval (.tmp 148) = .bool true := hF.2.2.2 35 148 _ rfl (hdep ⟨35, .data⟩ (by simp) rfl)
      exact Ord.ex_value x rfl rfl (Rg.pick_t da0 da1 rfl) rfl (hW.keep (by decide))
    | 37, ho, hi, hdep =>
      cases ho
      have da0 : ac.eval (.tmp 149) = .bool true := hF.2.2.2 36 149 _ rfl (hdep ⟨36, .data⟩ (by simp) rfl)
      exact Ord.ex_value x rfl rfl (Rg.asg da0 rfl) rfl (hW.keep (by decide))
  case refine_3 => exact Rg.StM.first ⟨(Below.refl _ y).drew, fun e => absurd e (by decide)⟩
  case refine_2 =>
    intro x w' hW
    have HW := hidden hW.last
    clear hW
    simp only [Ord.puts, Ord.prs]
    go_simp
    go_wp2
    go_ret
    exact FIN.out _ _ _ HP2.out (HBY.out.trans (HW.out.bel.mono HBY.out.size))
theorem stepF {w0 w : World} {F0 : List Nat} {t r : Nat} {S : List D} {l : Int} (h : Pr w0 F0 w t r S S l l) (kI id tm : Int) (hi : I64 id) : Calls Try.prog 9 #[.pointer (some ⟨t, 0, none⟩), .pointer (some ⟨r, 0, none⟩), .agg #[.int .i64 kI, .int .i64 id, .int .i64 tm]] w fun e w' => StepO w0 t r F0 e w' := by
  by_cases h1 : kI = 1
  · exact step1 h kI id tm hi h1
  · by_cases h2 : kI = 2
    · exact step2 h kI id tm hi h2
    · by_cases h3 : kI = 3
      · exact step3 h kI id tm hi h3
      · exact step4 h kI id tm hi (by rintro (e | e | e); exact h1 e; exact h2 e; exact h3 e)
end Go.Proofs.Ytinhhfnknlmdgaa.Tm
