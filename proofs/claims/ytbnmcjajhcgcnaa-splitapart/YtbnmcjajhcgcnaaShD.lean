/-
  Shares of a send buffer: how much each path may begin, and what is outstanding behind a chunk, as package split says.
  Conditions: as at each lemma.
-/
import Derived.Test.YtbnmcjajhcgcnaaShC
import Derived.Laws.MakeOwn
namespace Go.Proofs.Ytbnmcjajhcgcnaa.Sh
open Go.ChangeShapes Go.WideShapes Go.ChangeAt Go.RowKit
open Ba (hidden Has Only)
open Ow (Own)
set_option linter.unusedVariables false

/-- a row of numbers is told, with an error -/
def RowO (w w' : World) (e : Ending) (xs : List Int) (er : Int) : Prop := ∃ a k cap, e = .returned (.tuple #[.slice a k cap, .int .i64 er]) ∧ Nu w' a k xs ∧ Below w.heap.size w w'
theorem RowO.no {w w' : World} {er : Int} (h : Below w.heap.size w w') : RowO w w' (.returned (.tuple #[.slice none 0 0, .int .i64 er])) [] er := ⟨none, 0, 0, rfl, ⟨rfl, by simp, by decide, .inl rfl⟩, h⟩
theorem Lb.below {w0 w : World} {b1 b2 : Nat} {m : Int} {q : Nat} {xs : List Int} (h : Lb w0 w b1 b2 m q xs) : Below w0.heap.size w0 w := by
  obtain ⟨g, c, _, _, _, _, hO⟩ := h
  exact hO.below
section
variable {w0 w : World} {a : Option Addr} {n cap b1 b2 : Nat} {ys : List Int} {m : Int}
theorem each_more (h : Nu w0 a n ys) (h8 : n ≤ 8) (hy : ∀ y ∈ ys, byt y) (hm : byt m) (hL : Lb w0 w b1 b2 m 0 []) : Calls Try.prog 27 #[.slice a n cap, .func (.func 28) #[] #[.pointer (some ⟨b1, 0, none⟩), .pointer (some ⟨b2, 0, none⟩)]] w fun e w' => e = .returned (.tuple #[]) ∧ Lb w0 w' b1 b2 m n (ys.map fun y => max 0 (m - y)) := by
  have H := hidden h
  have O := hidden hL
  have HY := hidden hy
  have HM := hidden hm
  clear h hL hy hm
  go_enter Try.func27, Try.ntmps27
  go_wp2_with fail
  go_loopw [8] (fun i wr => ∃ q : Int, 0 ≤ q ∧ q ≤ (n : Int) ∧ i = .int .i64 q ∧ Hid (Lb w0 wr b1 b2 m q.toNat ((ys.map fun y => max 0 (m - y)).take q.toNat))) (fun i _ => n - (intOf i).toNat)
  case atStart => exact ⟨0, by omega, by omega, rfl, O.out⟩
  case round =>
    clear O
    obtain ⟨q, j1, j2, rfl, O⟩ := hrel
    by_cases hq : q < (n : Int)
    · obtain ⟨r, off, rfl, hr⟩ := Nu.open H.out (by omega)
      obtain ⟨y, hy, d0⟩ := Nu.get (H.out.later O.out.below) (q := q.toNat) (by omega)
      have FI := hidden (more O.out (by omega) HM.out (HY.out _ (List.mem_of_getElem? hy)))
      have HN : Hid ((ys.map fun y => max 0 (m - y)).take (q + 1).toNat = (ys.map fun y => max 0 (m - y)).take q.toNat ++ [max 0 (m - y)]) := by
        show (ys.map fun y => max 0 (m - y)).take (q + 1).toNat = _
        rw [show (q + 1).toNat = q.toNat + 1 by omega]
        exact take_next (by simp [hy])
      clear hy
      go_wp2_with fail
      refine Calls.mono FI.out ?_
      rintro e w2 ⟨rfl, hL⟩
      rw [← HN.out, show q.toNat + 1 = (q + 1).toNat by omega] at hL
      have O1 := hidden hL
      clear FI d0 hL
      go_wp2
      go_roundw
      case rel => exact ⟨q + 1, by omega, by omega, rfl, O1.out⟩
      case measure => simp [intOf]; omega
    · obtain rfl : q = (n : Int) := by omega
      have O1 : Hid (Lb w0 wr b1 b2 m n (ys.map fun y => max 0 (m - y))) := by
        have := O.out
        rw [List.take_of_length_le (by rw [List.length_map, H.out.len]; omega), show (n : Int).toNat = n by omega] at this
        exact this
      clear O
      go_wp2
      go_end0
      exact ⟨rfl, O1.out⟩
end
theorem alI (w : World) : (Instr.alloc 3 true (.tuple #[])).run Try.prog w = .ok (.pointer (some ⟨w.heap.size, 0, none⟩)) (w.alloc (.cells #[.int .i64 0] 3)) := by kernel_rfl
/-- a new row without numbers, with no name for the new world -/
theorem make_any (n : Nat) (hn : n ≤ 8) (w : World) : ∃ w', (Instr.makeSlice 24 (.int .i64 0) (.int .i64 (n : Int))).run Try.prog w = .ok (.slice (some ⟨w.heap.size, 0, none⟩) 0 n) w' ∧ (∀ base, base ≤ w.heap.size → w'.ownsRow base 3 1 (.slice (some ⟨w.heap.size, 0, none⟩) 0 n) 0 []) ∧ Below w.heap.size w w' ∧ w'.heap.size = w.heap.size + 1 := by
  obtain ⟨i, hi, hz, hs, hb⟩ := info_parts infoI
  have h2 : (i.bytes : Int) * (n : Int) ≤ 281474976710656 := by rw [hb]; omega
  have hr := run_make (P := Try.prog) w 24 3 i _ Try.underlying24 hi hz .i64 .i64 0 (n : Int) (Int.le_refl _) (by omega) h2 (by omega)
  simp only [Int.toNat_natCast, Int.toNat_zero] at hr
  rw [hs] at hr
  exact ⟨_, hr, fun base hb => World.ownsRow_made w _ n hb (by unfold maxLen; omega) (size_madeCells _ _), (Below.refl _ w).alloc (Nat.le_refl _) _, by simp [World.alloc, -World.alloc_eq]⟩
section
variable {w : World} {a : Option Addr} {n cap : Nat} {ys : List Int}
theorem left_no (h : Nu w a n ys) {B P M : Int} (hc : ¬ chk B P M ys = 0) (W : Int) : Calls Try.prog 10 #[.agg #[.int .i64 B, .int .i64 P, .int .i64 M], .int .i64 W, .slice a n cap] w fun e w' => RowO w w' e (lV B P M W ys) (lE B P M W ys) := by
  have O := hidden ((Own.refl w).alloc #[.int .i64 B, .int .i64 P, .int .i64 M] 23)
  have CK := hidden (check (cap := cap) (h.later O.out.below) B P M)
  rw [(l_no hc W).1, (l_no hc W).2]
  generalize chk B P M ys = C at *
  clear h
  go_enter Try.func10, Try.ntmps10
  go_wp2_with fail
  refine Calls.mono CK.out ?_
  rintro e w1 ⟨rfl, hB⟩
  have O1 := hidden (O.out.later hB)
  clear hB O CK
  go_wp2
  go_ret2
  exact RowO.no O1.out.below
theorem left_out (h : Nu w a n ys) {B P M : Int} (hc : chk B P M ys = 0) {W : Int} (hW : ¬ byt W) : Calls Try.prog 10 #[.agg #[.int .i64 B, .int .i64 P, .int .i64 M], .int .i64 W, .slice a n cap] w fun e w' => RowO w w' e (lV B P M W ys) (lE B P M W ys) := by
  have O := hidden ((Own.refl w).alloc #[.int .i64 B, .int .i64 P, .int .i64 M] 23)
  have CK := hidden (check (cap := cap) (h.later O.out.below) B P M)
  have WI := hidden (within_f hW)
  rw [(l_out hc hW).1, (l_out hc hW).2]
  rw [hc] at CK
  clear h hc hW
  go_enter Try.func10, Try.ntmps10
  go_wp2_with fail
  refine Calls.mono CK.out ?_
  rintro e w1 ⟨rfl, hB⟩
  have O1 := hidden (O.out.later hB)
  clear hB O CK
  go_wp2_with fail
  refine Calls.mono (WI.out _) ?_
  rintro e w2 ⟨rfl, rfl⟩
  go_wp2
  go_ret2
  exact RowO.no O1.out.below
set_option maxHeartbeats 4000000 in
set_option maxRecDepth 20000 in
theorem left_ok (h : Nu w a n ys) {B P M : Int} (hc : chk B P M ys = 0) {W : Int} (hW : byt W) : Calls Try.prog 10 #[.agg #[.int .i64 B, .int .i64 P, .int .i64 M], .int .i64 W, .slice a n cap] w fun e w' => RowO w w' e (lV B P M W ys) (lE B P M W ys) := by
  obtain ⟨hk, hl, hy⟩ := chk_0 hc
  have h8 : n ≤ 8 := by have := h.len; have := hk.2.1; omega
  have O := hidden ((Own.refl w).alloc #[.int .i64 B, .int .i64 P, .int .i64 M] 23)
  have CK := hidden (check (cap := cap) (h.later O.out.below) B P M)
  have WI := hidden (within_t hW)
  have hBB : byt B := ⟨by have := hk.1; omega, hk.1.2⟩
  have PA := hidden (part_ (n := B) (p := P) hBB hk.2.1)
  have PW := hidden (part_ (n := W) (p := P) hW hk.2.1)
  have EP : Hid (∀ (args : Array Value) (w : World), (callFunc 23 args).run Try.prog w = .ok (.enter 23 args) w) := enters_of Try.func23 (by kernel_rfl) rfl
  have LI := hidden (lv_in hBB hk.2.1 hW hy)
  have hm : byt (min (part B P) (part W P)) := by
    have h1 := part_in hBB hk.2.1
    have h2 := part_in hW hk.2.1
    constructor <;> omega
  have EM : Hid (∀ Y b1 b2, Lb w Y b1 b2 (min (part B P) (part W P)) 0 [] → Calls Try.prog 27 #[.slice a n cap, .func (.func 28) #[] #[.pointer (some ⟨b1, 0, none⟩), .pointer (some ⟨b2, 0, none⟩)]] Y fun e w' => e = .returned (.tuple #[]) ∧ Lb w w' b1 b2 (min (part B P) (part W P)) n (lv B P W ys)) := fun Y b1 b2 hY => each_more h h8 hy hm hY
  rw [(l_ok hc hW).1, (l_ok hc hW).2]
  rw [hc] at CK
  generalize lv B P W ys = L at *
  generalize part B P = V1 at *
  generalize part W P = V2 at *
  clear h hk hl hy hc hW hBB hm
  go_enter Try.func10, Try.ntmps10
  go_wp2_with fail
  refine Calls.mono CK.out ?_
  rintro e w1 ⟨rfl, hB⟩
  have O1 := hidden (O.out.later hB)
  have hsz := O1.out.lt (.head _)
  clear hB O CK
  go_wp2_with fail
  refine Calls.mono (WI.out _) ?_
  rintro e w2 ⟨rfl, rfl⟩
  clear WI
  go_upto_region 6 with fail
  refine Ord.wp_region_ex0 (X := Unit) (by kernel_rfl) 39 (fun x => [(some 22, .pointer (some ⟨w.heap.size, 0, none⟩)), (some 23, .int .i64 B), (some 24, .pointer (some ⟨w.heap.size, 1, none⟩)), (some 25, .int .i64 P), (some 26, .int .i64 V1), (some 27, .int .i64 W), (some 28, .pointer (some ⟨w.heap.size, 1, none⟩)), (some 29, .int .i64 P), (some 30, .int .i64 V2), (some 31, .int .i64 (min V1 V2)), (some 9, .pointer (some ⟨w1.heap.size, 0, none⟩)), (none, undef)]) [some 22, some 23, some 24, some 25, some 26, some 27, some 28, some 29, some 30, some 31, some 9, none] rfl (fun listed hsz hr => Ord.all_listedC (rank := [0, 1, 2, 3, 4, 5, 6, 7, 8, 9, 10, 11]) (by kernel_rfl) hsz hr) (by rfl) (fun _ => rfl) (by kernel_rfl) (Rg.StM [10, 11] (fun kA _ w' => Own w w' [(w.heap.size, #[.int .i64 B, .int .i64 P, .int .i64 M], 23)] ∧ (kA = 0 → w'.heap.size = w1.heap.size) ∧ (kA = 1 → Own w w' [(w1.heap.size, #[.int .i64 0], 3), (w.heap.size, #[.int .i64 B, .int .i64 P, .int .i64 M], 23)]) ∧ (kA = 2 → Own w w' [(w1.heap.size, #[.int .i64 (min V1 V2)], 3), (w.heap.size, #[.int .i64 B, .int .i64 P, .int .i64 M], 23)]))) (fun _ _ _ _ hL h => h.ext (n := 12) (by decide) hL) ?_ ?_ () ?_
  case refine_1 =>
    intro x Lq iq oq ac w' ho hi hcl hdep hF hW
    have f1 : ac.tmps.size = 39 := hF.1
    match iq, ho, hi, hdep with
    | 0, ho, hi, hdep =>
      cases ho
      have da0 : ac.eval (.tmp 3) = .pointer (some ⟨w.heap.size, 0, none⟩) := hF.old 3 rfl
      exact Ord.ex_value x rfl rfl (Rg.fa da0 rfl (by simp [go_sem])) rfl (hW.keep (by decide))
    | 1, ho, hi, hdep =>
      cases ho
      have da0 : ac.eval (.tmp 22) = .pointer (some ⟨w.heap.size, 0, none⟩) := hF.2.2.2 0 22 _ rfl (hdep ⟨0, .data⟩ (by simp) rfl)
      obtain ⟨kq, hlo, hhi, hA⟩ := hW.range 0 1 (.inl rfl) (.inr ⟨11, rfl, (Rg.no_of (fun h => hcl 11 _ rfl (h) ⟨1, .phase⟩ (by simp) rfl) hi)⟩)
      obtain ⟨c0, c1, c2⟩ := cells3 hA.1 (b := w.heap.size) (.head _)
      exact Ord.ex_value x rfl rfl (Rg.load da0 rfl (by simp [go_sem, c0])) rfl (hW.keep (by decide))
    | 2, ho, hi, hdep =>
      cases ho
      have da0 : ac.eval (.tmp 3) = .pointer (some ⟨w.heap.size, 0, none⟩) := hF.old 3 rfl
      exact Ord.ex_value x rfl rfl (Rg.fa da0 rfl (by simp [go_sem])) rfl (hW.keep (by decide))
    | 3, ho, hi, hdep =>
      cases ho
      have da0 : ac.eval (.tmp 24) = .pointer (some ⟨w.heap.size, 1, none⟩) := hF.2.2.2 2 24 _ rfl (hdep ⟨2, .data⟩ (by simp) rfl)
      obtain ⟨kq, hlo, hhi, hA⟩ := hW.range 0 1 (.inl rfl) (.inr ⟨11, rfl, (Rg.no_of (fun h => hcl 11 _ rfl (h) ⟨3, .phase⟩ (by simp) rfl) hi)⟩)
      obtain ⟨c0, c1, c2⟩ := cells3 hA.1 (b := w.heap.size) (.head _)
      exact Ord.ex_value x rfl rfl (Rg.load da0 rfl (by simp [go_sem, c1])) rfl (hW.keep (by decide))
    | 4, ho, hi, hdep =>
      cases ho
      have da0 : ac.eval (.tmp 23) = .int .i64 B := hF.2.2.2 1 23 _ rfl (hdep ⟨1, .data⟩ (by simp) rfl)
      have da1 : ac.eval (.tmp 25) = .int .i64 P := hF.2.2.2 3 25 _ rfl (hdep ⟨3, .data⟩ (by simp) rfl)
      obtain ⟨kq, hlo, hhi, hA⟩ := hW.range 0 1 (.inl rfl) (.inr ⟨11, rfl, (Rg.no_of (fun h => hcl 11 _ rfl (h) ⟨4, .phase⟩ (by simp) rfl) hi)⟩)
      refine Rg.ex_call x rfl rfl (Rg.enter (args := #[.int .i64 B, .int .i64 P]) rfl rfl (by simp [da0, da1]) EP.out) (Calls.mono (PA.out _) ?_)
      rintro e w2 ⟨rfl, rfl⟩
      exact ⟨rfl, (hW.keep (by decide))⟩
    | 5, ho, hi, hdep =>
      cases ho
      have da0 : ac.eval (.tmp 1) = .int .i64 W := hF.old 1 rfl
      exact Ord.ex_value x rfl rfl (Rg.mv da0 rfl) rfl (hW.keep (by decide))
    | 6, ho, hi, hdep =>
      cases ho
      have da0 : ac.eval (.tmp 3) = .pointer (some ⟨w.heap.size, 0, none⟩) := hF.old 3 rfl
      exact Ord.ex_value x rfl rfl (Rg.fa da0 rfl (by simp [go_sem])) rfl (hW.keep (by decide))
    | 7, ho, hi, hdep =>
      cases ho
      have da0 : ac.eval (.tmp 28) = .pointer (some ⟨w.heap.size, 1, none⟩) := hF.2.2.2 6 28 _ rfl (hdep ⟨6, .data⟩ (by simp) rfl)
      obtain ⟨kq, hlo, hhi, hA⟩ := hW.range 0 1 (.inl rfl) (.inr ⟨11, rfl, (Rg.no_of (fun h => hcl 11 _ rfl (h) ⟨7, .phase⟩ (by simp) rfl) hi)⟩)
      obtain ⟨c0, c1, c2⟩ := cells3 hA.1 (b := w.heap.size) (.head _)
      exact Ord.ex_value x rfl rfl (Rg.load da0 rfl (by simp [go_sem, c1])) rfl (hW.keep (by decide))
    | 8, ho, hi, hdep =>
      cases ho
      have da0 : ac.eval (.tmp 27) = .int .i64 W := hF.2.2.2 5 27 _ rfl (hdep ⟨5, .data⟩ (by simp) rfl)
      have da1 : ac.eval (.tmp 29) = .int .i64 P := hF.2.2.2 7 29 _ rfl (hdep ⟨7, .data⟩ (by simp) rfl)
      obtain ⟨kq, hlo, hhi, hA⟩ := hW.range 0 1 (.inl rfl) (.inr ⟨11, rfl, (Rg.no_of (fun h => hcl 11 _ rfl (h) ⟨8, .chain⟩ (by simp) rfl) hi)⟩)
      refine Rg.ex_call x rfl rfl (Rg.enter (args := #[.int .i64 W, .int .i64 P]) rfl rfl (by simp [da0, da1]) EP.out) (Calls.mono (PW.out _) ?_)
      rintro e w2 ⟨rfl, rfl⟩
      exact ⟨rfl, (hW.keep (by decide))⟩
    | 9, ho, hi, hdep =>
      cases ho
      have da0 : ac.eval (.tmp 26) = .int .i64 V1 := hF.2.2.2 4 26 _ rfl (hdep ⟨4, .data⟩ (by simp) rfl)
      have da1 : ac.eval (.tmp 30) = .int .i64 V2 := hF.2.2.2 8 30 _ rfl (hdep ⟨8, .data⟩ (by simp) rfl)
      exact Ord.ex_value x rfl rfl (min_ da0 da1 rfl (by simp [go_sem])) rfl (hW.keep (by decide))
    | 10, ho, hi, hdep =>
      cases ho
      have hA := hW.at (k := 0) rfl hi (.inl rfl)
      have al := alI w'
      rw [hA.2.1 rfl] at al
      exact Ord.ex_value x rfl rfl (Rg.alo rfl al) rfl (hW.next (k := 0) rfl (by decide) hi (.inl rfl) ⟨(hA.1.alloc _ _).sub (by simp), fun h => absurd h (by decide), fun _ => by have q := hA.1.alloc #[.int .i64 0] 3; rw [hA.2.1 rfl] at q; exact q, fun h => absurd h (by decide)⟩)
    | 11, ho, hi, hdep =>
      cases ho
      have da0 : ac.eval (.tmp 9) = .pointer (some ⟨w1.heap.size, 0, none⟩) := hF.2.2.2 10 9 _ rfl (hdep ⟨10, .data⟩ (by simp) rfl)
      have da1 : ac.eval (.tmp 31) = .int .i64 (min V1 V2) := hF.2.2.2 9 31 _ rfl (hdep ⟨9, .data⟩ (by simp) rfl)
      have hA := hW.at (k := 1) rfl hi (.inr ⟨10, rfl, (hdep ⟨10, .data⟩ (by simp) rfl)⟩)
      have hO := hA.2.2.1 rfl
      have k0 := hO.cell (.head _) 0 rfl
      have f0 := hO.frozen (.head _) 0
      have hR := hO.set 0 (.int .i64 (min V1 V2)) (by simp; omega)
      exact Rg.ex_skip x rfl rfl (Rg.sto da0 da1 rfl (by simp [go_sem, k0, f0])) rfl (hW.next (k := 1) rfl (by decide) hi (.inr ⟨10, rfl, (hdep ⟨10, .data⟩ (by simp) rfl)⟩) ⟨hR.sub (by simp), fun h => absurd h (by decide), fun h => absurd h (by decide), fun _ => hR⟩)
  case refine_2 =>
    intro x w8 hW
    have O8 := hidden (hW.last.2.2.2 rfl)
    have b8 := O8.out.lt (.head _)
    obtain ⟨w9, h1, h2, h3, h4⟩ := make_any n h8 w8
    have O9 := hidden (O8.out.later h3)
    have b9 := O9.out.lt (.head _)
    have H2 := hidden (h2 w.heap.size O8.out.below.size)
    have HS := hidden h4
    clear hW O1 PA PW EP h2 h3 h4
    simp only [Ord.puts, Ord.prs]
    go_simp
    go_wp2_with fail
    have LB : Hid (Lb w (w9.alloc (.cells #[.slice (some ⟨w8.heap.size, 0, none⟩) 0 n] 24)) w9.heap.size w1.heap.size (min V1 V2) 0 []) := by
      have e := HS.out
      exact ⟨w8.heap.size, n, by omega, by omega, by omega, H2.out.alloc _, (O9.out.alloc _ _).sub (by simp)⟩
    refine Calls.mono (EM.out _ _ _ LB.out) ?_
    rintro e w10 ⟨rfl, hL⟩
    obtain ⟨g, c, _, _, _, hown, hO⟩ := hL
    have c0 := hO.cell (.head _) 0 rfl
    obtain ⟨a', cap', ev, hnu⟩ := Nu.own hown (fun x hx => wf_in (by have := LI.out x hx; omega)) (by omega)
    cases ev
    have NU := hidden hnu
    have HB := hidden hO.below
    clear hown hO LB EM O9 O8 hnu
    go_wp2
    go_ret2
    exact ⟨_, _, _, rfl, NU.out, HB.out⟩
  case refine_3 => exact Rg.StM.first ⟨O1.out.drew, fun _ => rfl, fun h => absurd h (by decide), fun h => absurd h (by decide)⟩
theorem left (h : Nu w a n ys) (B P M W : Int) : Calls Try.prog 10 #[.agg #[.int .i64 B, .int .i64 P, .int .i64 M], .int .i64 W, .slice a n cap] w fun e w' => RowO w w' e (lV B P M W ys) (lE B P M W ys) := by
  by_cases hc : chk B P M ys = 0
  · by_cases hW : byt W
    · exact left_ok h hc hW
    · exact left_out h hc hW
  · exact left_no h hc W
theorem clone {b off : Nat} (h : Nu w (some ⟨b, off, none⟩) n ys) (h8 : n ≤ 8) :
    Calls Try.prog 32 #[.slice (some ⟨b, off, none⟩) n cap] w fun e w' => ∃ v, e = .returned v ∧ w'.ownsRow w.heap.size 3 1 v n (lc ys) ∧ Below w.heap.size w w' := by
  obtain ⟨i0, hi, hz0, hz1, hz2⟩ := info_parts infoI
  have hen : ∀ (x : Option Addr) (n c : Nat) (w : World), (binOp .eql 24 (.slice x n c) (.slice none 0 0)).run Try.prog w = .ok (.bool x.isNone) w := fun x n c w => Lib.run_eql_slice_nil w 24 3 x n c 0 0 Try.underlying24
  have hb := (Below.refl _ w).alloc (Nat.le_refl _) (.cells #[] 3)
  have HNW := hidden (Nu.news (h.later hb))
  have HO := hidden (show (w.alloc (.cells #[] 3)).ownsRow w.heap.size 3 1 (.slice (some ⟨w.heap.size, 0, none⟩) 0 0) 0 [] from World.ownsRow_lit w #[] 0 (Nat.le_refl _) (Nat.zero_le _) rfl)
  have HB := hidden hb
  have HL : Hid ((lc ys).length = n * 1) := by
    show (lc ys).length = n * 1
    rw [lc_len, h.len, Nat.mul_one]
  have H1 := hidden (lc_one ys)
  clear h hb
  go_enter Try.func32, Try.ntmps32
  go_wp2_with (first | (at_builtin; refine wpList_append_own _ rfl (.tmp 5) _ 24 rfl w.heap.size 3 i0 (.int .i64 0) 1 8 Try.underlying24 hi hz0 hz1 hz2 rfl (by decide) _ _ _ rfl HO.out ⟨b, off, none⟩ n cap (lc ys) rfl HL.out HNW.out H1.out ?c3 ?c4 (by simp) ?_) | go_in)
  case c3 => unfold maxLen; omega
  case c4 => omega
  intro v' w1 hown1 hgrow _
  try simp only [Nat.zero_add, List.nil_append] at hown1
  have HOW := hidden hown1
  have HBF := hidden (HB.out.grown hgrow (by simp) (fun q hq => by cases hq; exact Nat.le_refl _))
  clear hown1 hgrow
  go_wp2
  go_ret
  exact ⟨v', rfl, HOW.out, HBF.out⟩
end
/-- what is outstanding behind a chunk -/
def pE (B P M : Int) (ys : List Int) (p z : Int) : Int := bif decide (mE B P M ys p = 0) then (bif decide (1 ≤ z ∧ z ≤ M) then (bif mV B P M ys p then 0 else 141) else 5) else mE B P M ys p
def pV (B P M : Int) (ys : List Int) (p z : Int) : List Int := bif decide (mE B P M ys p = 0) && decide (1 ≤ z ∧ z ≤ M) && mV B P M ys p then ys.set p.toNat (ys.getD p.toNat 0 + z) else []
section
variable {B P M p z : Int} {ys : List Int}
theorem p_no (h : ¬ mE B P M ys p = 0) (z : Int) : pE B P M ys p z = mE B P M ys p ∧ pV B P M ys p z = [] := by unfold pE pV; rw [decide_eq_false h]; exact ⟨rfl, rfl⟩
theorem p_out (h : mE B P M ys p = 0) (hz : ¬ (1 ≤ z ∧ z ≤ M)) : pE B P M ys p z = 5 ∧ pV B P M ys p z = [] := by unfold pE pV; rw [decide_eq_true h, decide_eq_false hz]; exact ⟨rfl, rfl⟩
theorem p_full (h : mE B P M ys p = 0) (hz : 1 ≤ z ∧ z ≤ M) (hv : mV B P M ys p = false) : pE B P M ys p z = 141 ∧ pV B P M ys p z = [] := by unfold pE pV; rw [decide_eq_true h, decide_eq_true hz, hv]; exact ⟨rfl, rfl⟩
theorem p_ok (h : mE B P M ys p = 0) (hz : 1 ≤ z ∧ z ≤ M) (hv : mV B P M ys p = true) : pE B P M ys p z = 0 ∧ pV B P M ys p z = ys.set p.toNat (ys.getD p.toNat 0 + z) := by unfold pE pV; rw [decide_eq_true h, decide_eq_true hz, hv]; exact ⟨rfl, rfl⟩
theorem m_0 (h : mE B P M ys p = 0) : okS B P M ∧ (ys.length : Int) = P ∧ (∀ y ∈ ys, byt y) ∧ (0 ≤ p ∧ p < P) ∧ mV B P M ys p = decide (ys.getD p.toNat 0 < part B P) := by
  by_cases hc : chk B P M ys = 0
  · by_cases hp : 0 ≤ p ∧ p < P
    · obtain ⟨h1, h2, h3⟩ := chk_0 hc
      exact ⟨h1, h2, h3, hp, (m_ok hc hp).2⟩
    · rw [(m_out hc hp).1] at h
      cases h
  · rw [(m_no hc p).1] at h
    exact absurd h hc
theorem set_in (hy : ∀ y ∈ ys, byt y) {j : Nat} {x : Int} (hx : 0 ≤ x ∧ x ≤ 2147483648) : ∀ y ∈ ys.set j x, 0 ≤ y ∧ y ≤ 2147483648 := by
  intro y h
  rcases List.mem_or_eq_of_mem_set h with h | rfl
  · have := hy y h
    omega
  · exact hx
end
section
variable {w : World} {a : Option Addr} {n cap : Nat} {ys : List Int} {B P M p z : Int}
set_option maxHeartbeats 2000000 in
theorem put (h : Nu w a n ys) (hpw : -9223372036854775808 ≤ p ∧ p ≤ 9223372036854775807) : Calls Try.prog 20 #[.agg #[.int .i64 B, .int .i64 P, .int .i64 M], .int .i64 p, .int .i64 z, .slice a n cap] w fun e w' => RowO w w' e (pV B P M ys p z) (pE B P M ys p z) := by
  have O := hidden ((Own.refl w).alloc #[.int .i64 B, .int .i64 P, .int .i64 M] 23)
  have MA := hidden (may (cap := cap) (h.later O.out.below) B P M hpw)
  by_cases hc : mE B P M ys p = 0
  · by_cases hz : 1 ≤ z ∧ z ≤ M
    · have WI := hidden (within_t hz)
      cases hv : mV B P M ys p with
      | true =>
        obtain ⟨hk, hl, hy, hp, _⟩ := m_0 hc
        rw [(p_ok hc hz hv).1, (p_ok hc hz hv).2]
        rw [hv, hc] at MA
        have hpn : p < (n : Int) := by have := h.len; omega
        have h8 : n ≤ 8 := by have := h.len; have := hk.2.1; omega
        obtain ⟨b, off, rfl, hb⟩ := Nu.open h (by omega)
        obtain ⟨y, hy', _⟩ := Nu.get h (q := p.toNat) (by omega)
        have hg : ys.getD p.toNat 0 = y := by rw [List.getD_eq_getElem?_getD, hy']; rfl
        rw [hg]
        have hyb := hy y (List.mem_of_getElem? hy')
        have hM := hk.2.2
        have hw : IntKind.i64.wrap (y + z) = y + z := by rw [IntKind.wrap_i64]; omega
        have SI := hidden (set_in hy (j := p.toNat) (x := y + z) (by omega))
        have CL : Hid (∀ X, Below w.heap.size w X → Calls Try.prog 32 #[.slice (some ⟨b, off, none⟩) n cap] X fun e w' => ∃ v, e = .returned v ∧ w'.ownsRow X.heap.size 3 1 v n (lc ys) ∧ Below X.heap.size X w') := fun X hX => clone (h.later hX) h8
        have HY := hidden hy'
        obtain ⟨hp1, hp2⟩ := hp
        clear h hk hl hy hc hz hv hy' hg hyb hM
        go_enter Try.func20, Try.ntmps20
        go_wp2_with fail
        refine Calls.mono MA.out ?_
        rintro e w1 ⟨rfl, hB⟩
        have O1 := hidden (O.out.later hB)
        obtain ⟨c0, c1, c2⟩ := cells3 O1.out (.head _)
        clear hB O MA
        go_wp2_with fail
        refine Calls.mono (WI.out _) ?_
        rintro e w2 ⟨rfl, rfl⟩
        go_wp2_with fail
        refine Calls.mono (CL.out _ O1.out.below) ?_
        rintro e w3 ⟨v, rfl, hown, hB⟩
        obtain ⟨g, cg, rfl, hg1, hg2, hg3, hg4⟩ := Ba.own_some hown (by omega)
        have O3 := hidden (O1.out.below.trans (hB.mono O1.out.below.size))
        have d0 := hown.cellAt p.toNat (by omega)
        rw [lc_get, HY.out] at d0
        have f0 := hown.frozenAt p.toNat
        have ST := (hown.stored p.toNat (.int .i64 (y + z))).1
        rw [lc_set] at ST
        obtain ⟨a', cap', ev, hnu⟩ := Nu.own ST (fun x hx => wf_in (by have := SI.out x hx; omega)) (by omega)
        cases ev
        have NU := hidden hnu
        have HB := hidden (O3.out.setCell (p := ⟨g, p.toNat, none⟩) (by have := O1.out.below.size; show w.heap.size ≤ g; omega) (.int .i64 (y + z)))
        clear hown hB ST hnu O1 CL WI c0 c1 c2 hg1 hg3 hg4
        go_wp2
        go_ret2
        exact ⟨_, _, _, rfl, NU.out, HB.out⟩
      | false =>
        rw [(p_full hc hz hv).1, (p_full hc hz hv).2]
        rw [hv, hc] at MA
        clear h hc hz hv
        go_enter Try.func20, Try.ntmps20
        go_wp2_with fail
        refine Calls.mono MA.out ?_
        rintro e w1 ⟨rfl, hB⟩
        have O1 := hidden (O.out.later hB)
        obtain ⟨c0, c1, c2⟩ := cells3 O1.out (.head _)
        clear hB O MA
        go_wp2_with fail
        refine Calls.mono (WI.out _) ?_
        rintro e w2 ⟨rfl, rfl⟩
        go_wp2
        go_ret2
        exact RowO.no O1.out.below
    · have WI := hidden (within_f hz)
      rw [(p_out hc hz).1, (p_out hc hz).2]
      rw [hc] at MA
      generalize mV B P M ys p = V at *
      clear h hc hz
      go_enter Try.func20, Try.ntmps20
      go_wp2_with fail
      refine Calls.mono MA.out ?_
      rintro e w1 ⟨rfl, hB⟩
      have O1 := hidden (O.out.later hB)
      obtain ⟨c0, c1, c2⟩ := cells3 O1.out (.head _)
      clear hB O MA
      go_wp2_with fail
      refine Calls.mono (WI.out _) ?_
      rintro e w2 ⟨rfl, rfl⟩
      go_wp2
      go_ret2
      exact RowO.no O1.out.below
  · rw [(p_no hc z).1, (p_no hc z).2]
    generalize mE B P M ys p = C at *
    generalize mV B P M ys p = V at *
    clear h
    go_enter Try.func20, Try.ntmps20
    go_wp2_with fail
    refine Calls.mono MA.out ?_
    rintro e w1 ⟨rfl, hB⟩
    have O1 := hidden (O.out.later hB)
    clear hB O MA
    go_wp2
    go_ret2
    exact RowO.no O1.out.below
end
end Go.Proofs.Ytbnmcjajhcgcnaa.Sh
