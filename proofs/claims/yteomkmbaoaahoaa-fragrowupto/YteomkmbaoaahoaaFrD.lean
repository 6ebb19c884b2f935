/-
  Cut of package frag, and the document's.
  Conditions: as at each lemma.
-/
import Derived.Test.YteomkmbaoaahoaaFrC
namespace Go.Proofs.Yteomkmbaoaahoaa.Fr
open Go.ChangeShapes Go.WideShapes Go.ChangeAt Go.RowKit
open Ba (hidden Has Only cell_lt heap_lt)
open Ow (Own)
set_option linter.unusedVariables false

theorem sl_bytes {b off len cap A E : Nat} (h1 : A < E) (h2 : E ≤ len) (h3 : len ≤ cap) (w : World) : (Instr.sliceAt 22 (.slice (some ⟨b, off, none⟩) len cap) (some (.int .i64 (A : Int))) (some (.int .i64 (E : Int))) none).run Try.prog w = .ok (.slice (some ⟨b, off + A, none⟩) (E - A) (cap - A)) w := by
  have h4 : ¬ cap = A := by omega
  simp [go_sem, h4, add_at]
  rw [if_pos (by omega), if_pos (by omega)]
/-- what Cut tells -/
def CutO (w : World) (zs : List Int) (n : Nat) (e : Ending) (w' : World) : Prop := ∃ v ps, e = .returned (.tuple #[v, .int .i64 0]) ∧ LP w.heap.size w' v ps ∧ ps.map pval = cutV zs n ∧ Below w.heap.size w w'
section
variable {w : World} {a : Option Addr} {len cap : Nat} {zs : List Int}
theorem cut_arg (hl : len ≤ 140737488355328) {N : Int} (h : N < 1 ∨ 65536 < N ∨ (len : Int) < 1) : Calls Try.prog 9 #[.slice a len cap, .int .i64 N] w fun e w' => e = .returned (.tuple #[.slice none 0 0, .int .i64 1]) ∧ w = w' := by
  have CO := hidden (count_arg h w)
  clear h
  go_enter Try.func9, Try.ntmps9
  go_wp2_with fail
  refine Calls.mono CO.out ?_
  rintro e w1 ⟨rfl, rfl⟩
  go_wp2
  go_ret2
  exact ⟨rfl, rfl⟩
theorem cut_long (hl : len ≤ 140737488355328) {N : Int} (h1 : 1 ≤ N) (h2 : N ≤ 65536) (h3 : (65536 : Int) < len) : Calls Try.prog 9 #[.slice a len cap, .int .i64 N] w fun e w' => e = .returned (.tuple #[.slice none 0 0, .int .i64 2]) ∧ w = w' := by
  have CO := hidden (count_long h1 h2 h3 w)
  clear h1 h2 h3
  go_enter Try.func9, Try.ntmps9
  go_wp2_with fail
  refine Calls.mono CO.out ?_
  rintro e w1 ⟨rfl, rfl⟩
  go_wp2
  go_ret2
  exact ⟨rfl, rfl⟩
/-- one piece more -/
theorem cut_step {w wr w2 w4 : World} {v v4 : Value} {ps : List P} {q : P} {zs : List Int} {n j : Nat} (hj : j < cnt zs.length n) (hm : ps.map pval = (cutV zs n).take j) (hq : pval q = cutJ zs n j) (h4 : LP w.heap.size w4 v4 (ps ++ [q])) : (ps ++ [q]).map pval = (cutV zs n).take (j + 1) := by
  rw [List.map_append, hm, take_next (cutV_at hj), List.map_singleton, hq]
set_option maxHeartbeats 2000000 in
theorem cut_ok (h : Row w a len zs) (hc : len ≤ cap) {n : Nat} (h1 : 1 ≤ n) (h2 : n ≤ 65536) (h3 : 1 ≤ len) (h4 : len ≤ 65536) : Calls Try.prog 9 #[.slice a len cap, .int .i64 (n : Int)] w fun e w' => CutO w zs n e w' := by
  have CO := hidden (count_ok h1 h2 h3 h4 w)
  have H := hidden h
  have hzl : zs.length = len := h.1
  have CL := hidden (fun j => cnt_lt (len := len) h1 j)
  have CE := hidden (cnt_le (len := len) h1)
  obtain ⟨b, off, rfl⟩ := h.open (by omega)
  have hce : cnt len n ≤ 65536 := Nat.le_trans CE.out h4
  obtain ⟨C, hC⟩ : ∃ C, C = cnt len n := ⟨_, rfl⟩
  have HC := hidden hC
  rw [← hC] at CO CE
  rw [← hC] at hce
  clear h hC
  go_enter Try.func9, Try.ntmps9
  go_wp2_with fail
  refine Calls.mono CO.out ?_
  rintro e w1 ⟨rfl, rfl⟩
  obtain ⟨w2, mk, mine, b2, hs2⟩ := make_pieces C (by omega) w
  have M0 := hidden (mine w.heap.size (Nat.le_refl _))
  have B2 := hidden b2
  clear b2 mine CO
  go_wp2_with fail
  go_loopw [8, 9] (fun v i wr => ∃ (j A : Nat) (ps : List P), j ≤ C ∧ Hid (A = j * n) ∧ A ≤ 131072 ∧ i = .int .i64 A ∧ Hid (LP w.heap.size wr v ps) ∧ Hid (ps.map pval = (cutV zs n).take j) ∧ Hid (Below w.heap.size w wr)) (fun _ i _ => len - (intOf i).toNat)
  case atStart => exact ⟨0, 0, [], Nat.zero_le _, show 0 = 0 * n by omega, by omega, rfl, M0.out, rfl, B2.out⟩
  case round =>
    clear M0 B2 mk
    obtain ⟨j, A, ps, hj, HA, hA, rfl, M, HM, HB⟩ := hrel
    have hcl := CL.out j
    rw [← HC.out, ← HA.out] at hcl
    rcases Nat.lt_or_ge A len with hlt | hge
    · have hjc := hcl.2 hlt
      have hAi : (A : Int) < len := by omega
      obtain ⟨E, hE⟩ : ∃ E, E = min (A + n) len := ⟨_, rfl⟩
      have hmin : min ((A : Int) + (n : Int)) (len : Int) = (E : Int) := by omega
      have hEl : E ≤ len := by omega
      have hAE : A < E := by omega
      have hsl := sl_bytes (b := b) (off := off) hAE hEl hc
      have hR : Row wr (some ⟨b, off + A, none⟩) (E - A) ((zs.drop A).take (E - A)) := (H.out.later HB.out).part A (E - A) (by omega)
      have CLO := hidden (clone (cap := cap - A) hR (by omega))
      obtain ⟨bg, hbg⟩ : ∃ bg : Bool, ((A : Int) == 0) = bg := ⟨_, rfl⟩
      obtain ⟨en, hen⟩ : ∃ en : Bool, ((E : Int) == (len : Int)) = en := ⟨_, rfl⟩
      have hcl1 := CL.out (j + 1)
      rw [← HC.out, Nat.add_mul, Nat.one_mul, ← HA.out] at hcl1
      have HQ : Hid (∀ v, pval (bg, en, v, (zs.drop A).take (E - A)) = cutJ zs n j) := by
        intro v
        unfold pval cutJ
        rw [hzl, ← HC.out, ← HA.out]
        have e1 : bg = decide (j = 0) := by
          rw [← hbg, Bool.eq_iff_iff, beq_iff_eq, decide_eq_true_eq]
          have := HA.out
          constructor
          · intro h0
            rcases Nat.eq_zero_or_pos j with hj0 | hj0
            · exact hj0
            · have : 1 * 1 ≤ j * n := Nat.mul_le_mul hj0 h1
              omega
          · intro h0
            subst h0
            rw [Nat.zero_mul] at this
            omega
        have e2 : en = decide (j + 1 = C) := by
          rw [← hen, Bool.eq_iff_iff, beq_iff_eq, decide_eq_true_eq]
          omega
        have e3 : (zs.drop A).take (E - A) = (zs.drop A).take n := by
          by_cases hx : A + n ≤ len
          · rw [show E - A = n by omega]
          · rw [List.take_of_length_le (by rw [List.length_drop]; omega), List.take_of_length_le (by rw [List.length_drop]; omega)]
        rw [e3, ← e1, ← e2]
      clear hcl hcl1 hE
      go_wp2_with fail
      refine Calls.mono CLO.out ?_
      rintro e w2 ⟨v, rfl, hv, b2⟩
      obtain ⟨ga, gc, rfl, _⟩ := hv.row
      have hdl : ((zs.drop A).take (E - A)).length = E - A := by rw [List.length_take, List.length_drop]; omega
      have hB3 : Below w2.heap.size w2 (w2.alloc (.cells #[.bool bg, .bool en, .slice ga ((zs.drop A).take (E - A)).length gc] 48)) := (Below.refl _ w2).alloc (Nat.le_refl _) _
      have hbs := HB.out.size
      have hb2s := b2.size
      obtain ⟨v4, w4, hrun, m4, g4⟩ := app_pieces (c := 1) (m := 1) (qs := [(bg, en, .slice ga ((zs.drop A).take (E - A)).length gc, (zs.drop A).take (E - A))]) ((M.out.later b2).later hB3) (fun p hp => by
        obtain rfl := List.mem_singleton.1 hp
        exact (hv.later hB3).le hbs) rfl (cells_new w2 #[.bool bg, .bool en, .slice ga ((zs.drop A).take (E - A)).length gc] 48) (.inl (by decide)) (by
          have := congrArg List.length HM.out
          rw [List.length_map, List.length_take, cutV_len, hzl, ← HC.out] at this
          simp only [List.length_cons, List.length_nil]
          omega) (Nat.le_trans hbs (Nat.le_trans hb2s hB3.size))
      have HB4 := hidden (((HB.out.trans (b2.mono hbs)).trans (hB3.mono (Nat.le_trans hbs hb2s))).grown g4 (Nat.le_trans hbs (Nat.le_trans hb2s hB3.size)) (fun j hj => (M.out.1.lt j hj).1))
      have HM4 := hidden m4
      have HMS := hidden (cut_step (w := w) (wr := wr) (w2 := w2) (v := .slice none 0 0) (by rw [hzl, ← HC.out]; exact hjc) HM.out (HQ.out _) m4)
      have HR := hidden hrun
      clear hrun m4 g4 hv b2 hB3 M CLO HQ HM HB
      rw [hdl] at HR HM4 HMS ⊢
      go_wp2_with (at_builtin; refine Rg.wpList_app rfl _ _ _ rfl rfl rfl HR.out ?_; clear HR)
      go_wp2
      go_roundw
      case rel => exact ⟨j + 1, A + n, _, by omega, show A + n = (j + 1) * n by rw [Nat.add_mul, Nat.one_mul, ← HA.out], by omega, by go_num, HM4.out, HMS.out, HB4.out⟩
      case measure => simp [intOf]; omega
    · have hnl : ¬ (A : Int) < len := by omega
      have e : j = C := by
        rcases Nat.lt_or_ge j C with h | h
        · have := hcl.1 h; omega
        · omega
      have HO : Hid (CutO w zs n (.returned (.tuple #[u8, .int .i64 0])) wr) := by
        refine ⟨_, ps, rfl, M.out, ?_, HB.out⟩
        rw [HM.out, List.take_of_length_le (by rw [cutV_len, hzl, ← HC.out]; omega)]
      clear M HM HB hcl
      go_wp2
      go_ret2
      exact HO.out
end
end Go.Proofs.Yteomkmbaoaahoaa.Fr
