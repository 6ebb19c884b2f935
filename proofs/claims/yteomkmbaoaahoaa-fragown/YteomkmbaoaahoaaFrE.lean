/-
  The document's Count, Cut and Same.
  Conditions: as at each lemma.
-/
import Derived.Test.YteomkmbaoaahoaaFrD
namespace Go.Proofs.Yteomkmbaoaahoaa.Fr
open Go.ChangeShapes Go.WideShapes Go.ChangeAt Go.RowKit
open Ba (hidden Has Only cell_lt heap_lt)
open Ow (Own)
set_option linter.unusedVariables false

theorem rcount_arg {N Z : Int} (h : N < 1 ∨ 65536 < N ∨ Z < 1) (w : World) : Calls Try.prog 12 #[.int .i64 Z, .int .i64 N] w fun e w' => e = .returned (.tuple #[.int .i64 0, .int .i64 1]) ∧ w = w' := by
  by_cases h1 : N < 1
  · go_enter Try.func12, Try.ntmps12
    go_wp2
    go_ret2
    exact ⟨rfl, rfl⟩
  · by_cases h2 : 65536 < N
    · go_enter Try.func12, Try.ntmps12
      go_wp2
      go_ret2
      exact ⟨rfl, rfl⟩
    · have h3 : Z < 1 := by omega
      clear h
      go_enter Try.func12, Try.ntmps12
      go_wp2
      go_ret2
      exact ⟨rfl, rfl⟩
theorem rcount_long {N Z : Int} (h1 : 1 ≤ N) (h2 : N ≤ 65536) (h3 : 65536 < Z) (w : World) : Calls Try.prog 12 #[.int .i64 Z, .int .i64 N] w fun e w' => e = .returned (.tuple #[.int .i64 0, .int .i64 2]) ∧ w = w' := by
  have h4 : ¬ N < 1 := by omega
  have h5 : ¬ 65536 < N := by omega
  have h6 : ¬ Z < 1 := by omega
  go_enter Try.func12, Try.ntmps12
  go_wp2
  go_ret2
  exact ⟨rfl, rfl⟩
theorem rcount_ok {n z : Nat} (h1 : 1 ≤ n) (h2 : n ≤ 65536) (h3 : 1 ≤ z) (h4 : z ≤ 65536) (w : World) : Calls Try.prog 12 #[.int .i64 (z : Int), .int .i64 (n : Int)] w fun e w' => e = .returned (.tuple #[.int .i64 ((cnt z n : Nat) : Int), .int .i64 0]) ∧ w = w' := by
  have hd := cnt_int h1 h3
  have hc : cnt z n ≤ 65536 := Nat.le_trans (cnt_le h1) h4
  generalize cnt z n = C at *
  go_enter Try.func12, Try.ntmps12
  go_wp2
  go_ret2
  exact ⟨rfl, rfl⟩
section
variable {w : World} {a : Option Addr} {len cap : Nat} {zs : List Int}
theorem rcut_arg (hl : len ≤ 140737488355328) {N : Int} (h : N < 1 ∨ 65536 < N ∨ (len : Int) < 1) : Calls Try.prog 10 #[.slice a len cap, .int .i64 N] w fun e w' => e = .returned (.tuple #[.slice none 0 0, .int .i64 1]) ∧ w = w' := by
  have CO := hidden (rcount_arg h w)
  clear h
  go_enter Try.func10, Try.ntmps10
  go_wp2_with fail
  refine Calls.mono CO.out ?_
  rintro e w1 ⟨rfl, rfl⟩
  go_wp2
  go_ret2
  exact ⟨rfl, rfl⟩
theorem rcut_long (hl : len ≤ 140737488355328) {N : Int} (h1 : 1 ≤ N) (h2 : N ≤ 65536) (h3 : (65536 : Int) < len) : Calls Try.prog 10 #[.slice a len cap, .int .i64 N] w fun e w' => e = .returned (.tuple #[.slice none 0 0, .int .i64 2]) ∧ w = w' := by
  have CO := hidden (rcount_long h1 h2 h3 w)
  clear h1 h2 h3
  go_enter Try.func10, Try.ntmps10
  go_wp2_with fail
  refine Calls.mono CO.out ?_
  rintro e w1 ⟨rfl, rfl⟩
  go_wp2
  go_ret2
  exact ⟨rfl, rfl⟩
/-- bytes of one's own out of nothing -/
theorem fresh {w : World} {b off len cap : Nat} {zs : List Int} (h : Row w (some ⟨b, off, none⟩) len zs) (hn : 0 < len) : ∃ v w', (Builtin.append_ #[22, 22] 22 #[.slice (some ⟨w.heap.size, 0, none⟩) 0 0, .slice (some ⟨b, off, none⟩) len cap]).run Try.prog (w.alloc (.cells #[] 5)) = .ok v w' ∧ Mine w.heap.size w' v zs ∧ Below w.heap.size w w' := by
  have hB : Below w.heap.size w (w.alloc (.cells #[] 5)) := (Below.refl _ w).alloc (Nat.le_refl _) _
  have hM : Mine w.heap.size (w.alloc (.cells #[] 5)) (.slice (some ⟨w.heap.size, 0, none⟩) 0 0) [] :=
    ⟨⟨rfl, .inr ⟨w.heap.size, 0, #[], rfl, Nat.le_refl _, heap_alloc_new w _, Nat.le_refl _, by decide, rfl, rfl⟩⟩, Bytes.nil, by decide⟩
  obtain ⟨v3, w3, hrun, m3, g3⟩ := app_bytes (c := cap) hM (h.later hB) (.inl hn) (by rw [h.1]; have := h.2.2.1; simpa using this) hB.size
  exact ⟨v3, w3, hrun, m3, hB.grown g3 hB.size (fun j hj => (hM.1.lt j hj).1)⟩
set_option maxHeartbeats 2000000 in
theorem rcut_ok (h : Row w a len zs) (hc : len ≤ cap) {n : Nat} (h1 : 1 ≤ n) (h2 : n ≤ 65536) (h3 : 1 ≤ len) (h4 : len ≤ 65536) : Calls Try.prog 10 #[.slice a len cap, .int .i64 (n : Int)] w fun e w' => CutO w zs n e w' := by
  have CO := hidden (rcount_ok h1 h2 h3 h4 w)
  have H := hidden h
  have hzl : zs.length = len := h.1
  have CL := hidden (fun j => cnt_lt (len := len) h1 j)
  have CE := hidden (cnt_le (len := len) h1)
  obtain ⟨b, off, rfl⟩ := h.open (by omega)
  have hce : cnt len n ≤ 65536 := Nat.le_trans CE.out h4
  obtain ⟨C, hC⟩ : ∃ C, C = cnt len n := ⟨_, rfl⟩
  have HC := hidden hC
  rw [← hC] at CO CE
  rw [← hC] at hce
  clear h hC
  go_enter Try.func10, Try.ntmps10
  go_wp2_with fail
  refine Calls.mono CO.out ?_
  rintro e w1 ⟨rfl, rfl⟩
  clear CO
  go_wp2_with fail
  go_loopw [8, 9] (fun v i wr => ∃ (j : Nat) (ps : List P), j ≤ C ∧ i = .int .i64 j ∧ Hid (LP w.heap.size wr v ps) ∧ Hid (ps.map pval = (cutV zs n).take j) ∧ Hid (Below w.heap.size w wr)) (fun _ i _ => C - (intOf i).toNat)
  case atStart => exact ⟨0, [], Nat.zero_le _, rfl, LP.nil _ _, rfl, Below.refl _ _⟩
  case round =>
    obtain ⟨j, ps, hj, rfl, M, HM, HB⟩ := hrel
    rcases Nat.lt_or_ge j C with hlt | hge
    · have hji : (j : Int) < C := by omega
      obtain ⟨A, hA⟩ : ∃ A, A = j * n := ⟨_, rfl⟩
      have HA := hidden hA
      have hcl := CL.out j
      rw [← HC.out, ← hA] at hcl
      have hAl := hcl.1 hlt
      have hmul : (j : Int) * (n : Int) = (A : Int) := by rw [hA]; exact (Int.natCast_mul j n).symm
      obtain ⟨E, hE⟩ : ∃ E, E = min (A + n) len := ⟨_, rfl⟩
      have hEl : E ≤ len := by omega
      have hAE : A < E := by omega
      have hsl := sl_bytes (b := b) (off := off) hAE hEl hc
      have hR : Row wr (some ⟨b, off + A, none⟩) (E - A) ((zs.drop A).take (E - A)) := (H.out.later HB.out).part A (E - A) (by omega)
      obtain ⟨v, w2, hrun2, hv, b2⟩ := fresh (cap := cap - A) hR (by omega)
      obtain ⟨bg, hbg⟩ : ∃ bg : Bool, ((j : Int) == 0) = bg := ⟨_, rfl⟩
      obtain ⟨en, hen⟩ : ∃ en : Bool, ((j : Int) == (C : Int) - 1) = en := ⟨_, rfl⟩
      have HQ : Hid (∀ v, pval (bg, en, v, (zs.drop A).take (E - A)) = cutJ zs n j) := by
        intro v
        unfold pval cutJ
        rw [hzl, ← HC.out, ← hA]
        have e1 : bg = decide (j = 0) := by
          rw [← hbg, Bool.eq_iff_iff, beq_iff_eq, decide_eq_true_eq]
          omega
        have e2 : en = decide (j + 1 = C) := by
          rw [← hen, Bool.eq_iff_iff, beq_iff_eq, decide_eq_true_eq]
          omega
        have e3 : (zs.drop A).take (E - A) = (zs.drop A).take n := by
          by_cases hx : A + n ≤ len
          · rw [show E - A = n by omega]
          · rw [List.take_of_length_le (by rw [List.length_drop]; omega), List.take_of_length_le (by rw [List.length_drop]; omega)]
        rw [e3, ← e1, ← e2]
      have hdl : ((zs.drop A).take (E - A)).length = E - A := by rw [List.length_take, List.length_drop]; omega
      obtain ⟨ga, gc, rfl, _⟩ := hv.row
      have hB3 : Below w2.heap.size w2 (w2.alloc (.cells #[.bool bg, .bool en, .slice ga ((zs.drop A).take (E - A)).length gc] 48)) := (Below.refl _ w2).alloc (Nat.le_refl _) _
      have hbs := HB.out.size
      have hb2s := b2.size
      obtain ⟨v4, w4, hrun, m4, g4⟩ := app_pieces (c := 1) (m := 1) (qs := [(bg, en, .slice ga ((zs.drop A).take (E - A)).length gc, (zs.drop A).take (E - A))]) ((M.out.later b2).later hB3) (fun p hp => by
        obtain rfl := List.mem_singleton.1 hp
        exact (hv.later hB3).le hbs) rfl (cells_new w2 #[.bool bg, .bool en, .slice ga ((zs.drop A).take (E - A)).length gc] 48) (.inl (by decide)) (by
          have := congrArg List.length HM.out
          rw [List.length_map, List.length_take, cutV_len, hzl, ← HC.out] at this
          simp only [List.length_cons, List.length_nil]
          omega) (Nat.le_trans hbs (Nat.le_trans hb2s hB3.size))
      have HB4 := hidden (((HB.out.trans (b2.mono hbs)).trans (hB3.mono (Nat.le_trans hbs hb2s))).grown g4 (Nat.le_trans hbs (Nat.le_trans hb2s hB3.size)) (fun j hj => (M.out.1.lt j hj).1))
      have HM4 := hidden m4
      have HMS := hidden (cut_step (w := w) (wr := wr) (w2 := w2) (v := .slice none 0 0) (by rw [hzl, ← HC.out]; exact hlt) HM.out (HQ.out _) m4)
      have HR := hidden hrun
      have HR2 := hidden hrun2
      clear hrun m4 g4 hv b2 hB3 M HQ HM HB hrun2 hA hcl
      rw [hdl] at HR HM4 HMS HR2
      have FIN : Hid (∃ (j' : Nat) (ps' : List P), j' ≤ C ∧ Value.int .i64 ((j : Int) + 1) = .int .i64 j' ∧ Hid (LP w.heap.size w4 v4 ps') ∧ Hid (ps'.map pval = (cutV zs n).take j') ∧ Hid (Below w.heap.size w w4)) := ⟨j + 1, _, by omega, by go_num, HM4.out, HMS.out, HB4.out⟩
      clear HM4 HMS HB4
      by_cases hx : A + n ≤ len
      · have hEx : E = A + n := by omega
        have hgt : ¬ (len : Int) < (A : Int) + n := by omega
        clear hE
        subst hEx
        rw [show ((A + n : Nat) : Int) = (A : Int) + n by omega, Nat.add_sub_cancel_left] at hsl
        rw [Nat.add_sub_cancel_left] at HR HR2
        go_wp2_with (at_builtin; first | (refine Rg.wpList_app rfl _ _ _ rfl rfl rfl HR2.out ?_; clear HR2) | (refine Rg.wpList_app rfl _ _ _ rfl rfl rfl HR.out ?_; clear HR))
        go_wp2
        go_roundw
        case rel => exact FIN.out
        case measure => simp [intOf]; omega
      · have hEx : E = len := by omega
        have hgt : (len : Int) < (A : Int) + n := by omega
        clear hE
        subst hEx
        go_wp2_with (at_builtin; first | (refine Rg.wpList_app rfl _ _ _ rfl rfl rfl HR2.out ?_; clear HR2) | (refine Rg.wpList_app rfl _ _ _ rfl rfl rfl HR.out ?_; clear HR))
        go_wp2
        go_roundw
        case rel => exact FIN.out
        case measure => simp [intOf]; omega
    · obtain rfl : j = C := by omega
      have HO : Hid (CutO w zs n (.returned (.tuple #[u8, .int .i64 0])) wr) := by
        refine ⟨_, ps, rfl, M.out, ?_, HB.out⟩
        rw [HM.out, List.take_of_length_le (by rw [cutV_len, hzl, ← HC.out]; omega)]
      clear M HM HB
      go_wp2
      go_ret2
      exact HO.out
end
theorem str_beq (xs : List Int) : ((strOfNums xs).toList == (strOfNums xs).toList) = true := beq_self_eq_true _
section
variable {w : World} {pa qa : Option Addr} {n pcap qcap : Nat} {vs : List V}
set_option maxHeartbeats 2000000 in
theorem rsame (hp : Pcs w pa n vs) (hq : Pcs w qa n vs) : Calls Try.prog 13 #[.slice pa n pcap, .slice qa n qcap] w fun e w' => e = .returned (.bool true) ∧ Below w.heap.size w w' := by
  have HP := hidden hp
  have HQ := hidden hq
  have hnl := hp.2.1
  clear hp hq
  go_enter Try.func13, Try.ntmps13
  go_wp2_with fail
  go_loopw [5] (fun i wr => ∃ k : Nat, k ≤ n ∧ i = .int .i64 k ∧ Below w.heap.size w wr) (fun i _ => n - (intOf i).toNat)
  case atStart => exact ⟨0, Nat.zero_le _, rfl, Below.refl _ _⟩
  case round =>
    obtain ⟨k, hk, rfl, hbl⟩ := hrel
    rcases Nat.lt_or_ge k n with hlt | hge
    · obtain ⟨b, off, bg, en, zs, a, cap, rfl, hpk, c0, c1, c2, hr⟩ := (HP.out.later hbl).get hlt
      obtain ⟨b', off', bg', en', zs', a', cap', rfl, hqk, d0, d1, d2, hr'⟩ := (HQ.out.later hbl).get hlt
      rw [hpk] at hqk
      cases hqk
      have hcv : ∀ j, (convert 22 9 (.slice a zs.length cap)).run Try.prog (wr.drewN j) = .ok (.string (strOfNums zs)) (wr.drewN j) := fun j => (hr.drewN j).conv cap
      have hcv' : ∀ j, (convert 22 9 (.slice a' zs.length cap')).run Try.prog (wr.drewN j) = .ok (.string (strOfNums zs)) (wr.drewN j) := fun j => (hr'.drewN j).conv cap'
      have HB := hidden hbl
      have hne : (bg != bg) = false := by simp
      have hne2 : (en != en) = false := by simp
      clear hpk hbl hr hr'
      go_wp2
      go_quiet (fail)
      have B2 : Below w.heap.size w (wr.drewN nq) := ⟨HB.out.os, HB.out.tape, HB.out.output, HB.out.size, HB.out.block⟩
      go_wp2
      go_roundw
      case rel => exact ⟨k + 1, by omega, by go_num, B2⟩
      case measure => simp [intOf]; omega
    · obtain rfl : k = n := by omega
      go_wp2
      go_ret
      exact ⟨rfl, hbl⟩
end
end Go.Proofs.Yteomkmbaoaahoaa.Fr
