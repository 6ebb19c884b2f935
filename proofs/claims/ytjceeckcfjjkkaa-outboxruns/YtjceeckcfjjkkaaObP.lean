/-
  slices.Repeat of one number, up to eight times.
  Conditions: as at each lemma.
-/
import Derived.Test.YtjceeckcfjjkkaaObN
import Derived.Laws.IdiomCopy
namespace Go.Proofs.Ytjceeckcfjjkkaa.Ob
open Go.ChangeShapes Go.WideShapes Go.ChangeAt Go.RowKit Go.Shelf
open Ba (hidden Has cell_lt heap_lt)
set_option linter.unusedVariables false

theorem cpy {P : Program} {a : Act} {o : Oper} {w w' : World} {x y : Operand} {t t' : TypeId} {u v r : Value} (h0 : a.eval x = u) (h1 : a.eval y = v) (ho : o.op = .call { callee := .builtin .copy, args := #[x, y], argTypes := #[t, t'] }) (hr : (Builtin.copy_ #[t, t'] o.type #[u, v]).run P w = .ok r w') : (execOp a.eval o).run P w = .ok (.value r) w' := by
  have e : execOp a.eval o = (do pure (.value (← Builtin.copy_ #[t, t'] o.type #[a.eval x, a.eval y]))) := by
    unfold execOp
    rw [ho]
    simp [resolve, invoke, builtin]
  rw [e, h0, h1]
  exact Ord.run_v hr
theorem mul64 {w : World} (n : Nat) (h1 : 1 ≤ n) (h8 : n ≤ 8) : Calls Try.prog 94 #[.int .u64 1, .int .u64 (n : Int)] w fun e w' => e = .returned (.tuple #[.int .u64 0, .int .u64 (n : Int)]) ∧ w = w' := by
  have hc : n = 1 ∨ n = 2 ∨ n = 3 ∨ n = 4 ∨ n = 5 ∨ n = 6 ∨ n = 7 ∨ n = 8 := by omega
  rcases hc with rfl | rfl | rfl | rfl | rfl | rfl | rfl | rfl <;>
  · go_enter Try.func94, Try.ntmps94
    go_wp2
    go_ret2
    exact ⟨rfl, rfl⟩
theorem mul {w : World} (n : Nat) (h1 : 1 ≤ n) (h8 : n ≤ 8) : Calls Try.prog 92 #[.int .u64 1, .int .u64 (n : Int)] w fun e w' => e = .returned (.tuple #[.int .u64 0, .int .u64 (n : Int)]) ∧ w = w' := by
  have M := hidden (mul64 (w := w) n h1 h8)
  go_enter Try.func92, Try.ntmps92
  go_wp2_with fail
  refine Calls.mono M.out ?_
  rintro e w' ⟨rfl, rfl⟩
  go_wp2
  go_ret2
  exact ⟨rfl, rfl⟩
theorem Iw.fill {w : World} {b n o k : Nat} {f : Nat → Int} (h : Iw w b n f) (hk : o + k ≤ n) (z : Int) : Iw (w.setCells b o (List.replicate k (.int .i64 z))) b n (fun j => if o ≤ j ∧ j < o + k then z else f j) := by
  induction k generalizing o w f with
  | zero => exact h.congr (fun i _ => by rw [if_neg (by omega)])
  | succ k ih =>
    rw [List.replicate_succ]
    have h2 := ih (h.set (j := o) (by omega) z) (o := o + 1) (by omega)
    refine Iw.congr (f := _) (show Iw ((w.setCell ⟨b, o, none⟩ (.int .i64 z)).setCells b (o + 1) (List.replicate k (.int .i64 z))) b n _ from h2) (fun i _ => ?_)
    by_cases e : i = o
    · subst e
      rw [if_neg (by omega), if_pos rfl, if_pos (by omega)]
    · by_cases e2 : o ≤ i ∧ i < o + (k + 1)
      · rw [if_pos (by omega), if_pos e2]
      · rw [if_neg (by omega), if_neg e, if_neg e2]
set_option maxHeartbeats 1000000 in
theorem repeat_ {w : World} {g : Nat} (N : Nat) (h1 : 1 ≤ N) (h8 : N ≤ 8) (hg : Has w g #[.int .i64 (-1)] 3) : Calls Try.prog 90 #[.slice (some ⟨g, 0, none⟩) 1 1, .int .i64 (N : Int)] w fun e w' => e = .returned (.slice (some ⟨w.heap.size, 0, none⟩) N N) ∧ Iw w' w.heap.size N (fun _ => -1) ∧ Below w.heap.size w w' := by
  have M := hidden (mul (w := w) N h1 h8)
  obtain ⟨mi, i1, i2, i3, i4⟩ := make_wide (P := Try.prog) Try.underlying78 info_int N (by omega) (by omega)
  have hJ := Iw.made (i2 w)
  obtain ⟨B, hB⟩ : ∃ B, B = w.heap.size := ⟨_, rfl⟩
  have hgm := hg.later (i3 w)
  have hcp : ∀ ty : TypeId, (Builtin.copy_ #[78, 78] ty #[.slice (some ⟨w.heap.size, 0, none⟩) N N, .slice (some ⟨g, 0, none⟩) 1 1]).run Try.prog (mi w) = .ok (.int .i64 1) ((mi w).setCells w.heap.size 0 [.int .i64 (-1)]) := fun ty =>
    run_copy_cells (P := Try.prog) (mi w) 78 78 ty 3 w.heap.size 0 N N ⟨g, 0, none⟩ 1 1 (List.replicate 1 (.int .i64 (-1))) Try.underlying78 (by kernel_rfl) (by simp only [List.length_replicate]; show 1 = min 1 N; omega)
      (fun j v hj => by
        have hl := (List.getElem?_eq_some_iff.1 hj).1
        simp only [List.length_replicate] at hl
        obtain rfl : j = 0 := by omega
        have : v = .int .i64 (-1) := by simpa using hj.symm
        subst this
        exact hgm.cell 0 rfl)
      (fun j hj => by
        simp only [List.length_replicate] at hj
        rw [Nat.zero_add, hJ.cell (j := j) (by omega)]; rfl)
      (fun j hj => by rw [Nat.zero_add]; exact hJ.frozen j)
      (fun v hv => by rw [List.eq_of_mem_replicate hv]; rfl)
  have HJ1 : Hid (Iw ((mi w).setCells w.heap.size 0 [.int .i64 (-1)]) w.heap.size N (fun j => if j < 1 then -1 else 0)) := (hJ.fill (o := 0) (k := 1) (by omega) (-1)).congr (fun i _ => by by_cases e : i < 1 <;> simp [e])
  have HB1 : Hid (Below w.heap.size w ((mi w).setCells w.heap.size 0 [.int .i64 (-1)])) := (i3 w).trans ((mod_cells (fun k => k = w.heap.size) w.heap.size rfl _ _ _).below (i3 w).size (fun k hk => by omega))
  have hw1 : IntKind.u64.wrap (N : Int) = (N : Int) := by rw [IntKind.wrap_u64]; omega
  have hw2 : IntKind.i64.wrap (N : Int) = (N : Int) := by rw [IntKind.wrap_i64]; omega
  have hn0 : ¬ ((N : Int) < 0) := by omega
  have hn1 : ¬ ((9223372036854775807 : Int) < (N : Int)) := by omega
  have H18 := hidden (And.intro h1 h8)
  clear hg i2 i3 i4 hgm hJ h1 h8
  go_enter Try.func90, Try.ntmps90
  go_wp2_with fail
  refine Calls.mono M.out ?_
  rintro e w' ⟨rfl, rfl⟩
  go_wp2_with fail
  clear hcp i1 M
  have HBE := hidden hB
  rw [← hB]
  rw [← hB] at HJ1 HB1
  generalize (mi w).setCells B 0 [Value.int .i64 (-1)] = W0 at *
  clear hw1 hw2 hn0 hn1 hB
  go_loopw [8] (fun i wr => ∃ c : Nat, 1 ≤ c ∧ c ≤ N ∧ i = .int .i64 c ∧ Below B w wr ∧ Iw wr B N (fun j => if j < c then -1 else 0)) (fun i _ => N - (intOf i).toNat)
  case atStart => exact ⟨1, Nat.le_refl _, H18.out.1, rfl, HB1.out, HJ1.out⟩
  case round =>
    obtain ⟨c, hc1, hcN, rfl, hb, hI⟩ := hrel
    rcases Nat.lt_or_ge c N with hlt | hge
    · obtain ⟨k, hk⟩ : ∃ k, k = min c (N - c) := ⟨_, rfl⟩
      obtain ⟨d, hd⟩ : ∃ d, d = c + k := ⟨_, rfl⟩
      obtain ⟨W, hW⟩ : ∃ W, W = wr := ⟨_, rfl⟩
      have HW2 : Hid (IntKind.i64.wrap ((c : Int) + (k : Int)) = (d : Int)) := by show _ = _; rw [IntKind.wrap_i64]; have := H18.out; omega
      have HFR : Hid (∀ w, (Instr.sliceAt 78 (.slice (some ⟨B, 0, none⟩) N N) (some (.int .i64 (c : Int))) none none).run Try.prog w = .ok (.slice (some ⟨B, c, none⟩) (N - c) (N - c)) w) := fun w => by
        have e1 : (c : Int) ≤ (N : Int) := by omega
        have e2 : ¬ N = c := by omega
        simp [go_sem, e1, e2]
      have HTO : Hid (∀ w, (Instr.sliceAt 78 (.slice (some ⟨B, 0, none⟩) N N) none (some (.int .i64 (c : Int))) none).run Try.prog w = .ok (.slice (some ⟨B, 0, none⟩) c N) w) := fun w => by
        have e1 : (c : Int) ≤ (N : Int) := by omega
        simp [go_sem, e1]
      have CP : Hid (∀ ty : TypeId, (Builtin.copy_ #[78, 78] ty #[.slice (some ⟨B, c, none⟩) (N - c) (N - c), .slice (some ⟨B, 0, none⟩) c N]).run Try.prog W.drew = .ok (.int .i64 (k : Int)) (W.drew.setCells B c (List.replicate k (.int .i64 (-1))))) := fun ty => by
        have := run_copy_cells (P := Try.prog) W.drew 78 78 ty 3 B c (N - c) (N - c) ⟨B, 0, none⟩ c N (List.replicate k (.int .i64 (-1))) Try.underlying78 (by kernel_rfl) (by simp only [List.length_replicate]; exact hk)
          (fun j v hj => by
            have hl := (List.getElem?_eq_some_iff.1 hj).1
            rw [List.getElem?_replicate, if_pos (by simpa using hl)] at hj
            simp only [List.length_replicate] at hl
            cases hj
            have := hI.cell (j := j) (by omega)
            rw [if_pos (by omega), ← hW] at this
            have ea : (⟨B, 0, none⟩ : Addr).add j = ⟨B, j, none⟩ := by simp only [Addr.add]; split <;> simp_all
            rw [ea]; exact this)
          (fun j hj => by
            simp only [List.length_replicate] at hj
            have := hI.cell (j := c + j) (by omega)
            rw [← hW] at this
            show (W.cell? ⟨B, c + j, none⟩).isSome = true
            rw [this]; rfl)
          (fun j hj => by have := hI.frozen (c + j); rw [← hW] at this; exact this)
          (fun v hv => by rw [List.eq_of_mem_replicate hv]; rfl)
        rw [List.length_replicate] at this
        exact this
      have HI2 : Hid (Iw (W.drew.setCells B c (List.replicate k (.int .i64 (-1)))) B N (fun j => if j < d then -1 else 0)) := by
        have h0 : Iw W.drew B N (fun j => if j < c then -1 else 0) := by rw [hW]; exact hI.later ⟨rfl, rfl, rfl, Nat.le_refl _, fun _ _ => rfl⟩
        refine (h0.fill (o := c) (k := k) (by omega) (-1)).congr (fun i _ => ?_)
        by_cases e : i < c
        · rw [if_neg (by omega), if_pos e, if_pos (by omega)]
        · by_cases e2 : i < d
          · rw [if_pos (by omega), if_pos e2]
          · rw [if_neg (by omega), if_neg e, if_neg e2]
      have HB2 : Hid (Below B w (W.drew.setCells B c (List.replicate k (.int .i64 (-1))))) := by
        have h0 : Below B w W.drew := by rw [hW]; exact hb.trans ⟨rfl, rfl, rfl, Nat.le_refl _, fun _ _ => rfl⟩
        exact h0.trans ((mod_cells (fun k => k = B) B rfl _ _ _).below (by have := HBE.out; have := h0.size; omega) (fun k hk => by omega))
      have HK := hidden (And.intro hk hd)
      have hlt2 : (c : Int) < (N : Int) := by omega
      have HL := hidden hlt
      clear hb hI hk hd
      go_upto_region 9 with fail
      rw [← hW]
      clear hW
      refine Ord.wp_region_ex0 (X := Unit) (by kernel_rfl) 48 (fun x => [(some 38, .int .i64 (c : Int)), (some 39, .slice (some ⟨B, 0, none⟩) N N), (some 40, .int .i64 (c : Int)), (some 41, .slice (some ⟨B, c, none⟩) (N - c) (N - c)), (some 42, .slice (some ⟨B, 0, none⟩) N N), (some 43, .int .i64 (c : Int)), (some 44, .slice (some ⟨B, 0, none⟩) c N), (some 45, .int .i64 (k : Int)), (some 46, .int .i64 (d : Int)), (some 8, .int .i64 (d : Int))]) [some 38, some 39, some 40, some 41, some 42, some 43, some 44, some 45, some 46, some 8] rfl (fun listed hsz hr => Ord.all_listedC (rank := [0, 1, 2, 3, 4, 5, 6, 7, 8, 9]) (by kernel_rfl) hsz hr) (by rfl) (fun _ => rfl) (by kernel_rfl) (Rg.StM [7] (fun k' x w' => (k' = 0 → w' = W.drew) ∧ (k' = 1 → w' = W.drew.setCells B c (List.replicate k (.int .i64 (-1)))))) (fun _ _ _ _ hL h => h.ext (n := 10) (by decide) hL) ?_ ?_ () ?_
      case refine_1 =>
        intro x Lq iq oq ac w' ho hi hcl hdep hF hW
        have f1 : ac.tmps.size = 48 := hF.1
        match iq, ho, hi, hdep with
        | 0, ho, hi, hdep =>
          cases ho
          have da0 : ac.eval (.tmp 8) = .int .i64 (c : Int) := hF.yet 8 9 (by rfl) (Rg.no_of (fun h => hcl 9 _ rfl (h) ⟨0, .phase⟩ (by simp) rfl) hi)
          exact Ord.ex_value x rfl rfl (Rg.mv da0 rfl) rfl (hW.keep (by decide))
        | 1, ho, hi, hdep =>
          cases ho
          have da0 : ac.eval (.tmp 7) = .slice (some ⟨B, 0, none⟩) N N := hF.old 7 rfl
          exact Ord.ex_value x rfl rfl (Rg.mv da0 rfl) rfl (hW.keep (by decide))
        | 2, ho, hi, hdep =>
          cases ho
          have da0 : ac.eval (.tmp 8) = .int .i64 (c : Int) := hF.yet 8 9 (by rfl) (Rg.no_of (fun h => hcl 9 _ rfl (h) ⟨2, .phase⟩ (by simp) rfl) hi)
          exact Ord.ex_value x rfl rfl (Rg.mv da0 rfl) rfl (hW.keep (by decide))
        | 3, ho, hi, hdep =>
          cases ho
          have da0 : ac.eval (.tmp 39) = .slice (some ⟨B, 0, none⟩) N N := hF.2.2.2 1 39 _ rfl (hdep ⟨1, .data⟩ (by simp) rfl)
          have da1 : ac.eval (.tmp 40) = .int .i64 (c : Int) := hF.2.2.2 2 40 _ rfl (hdep ⟨2, .data⟩ (by simp) rfl)
          exact Ord.ex_value x rfl rfl (Rg.slc (lo := some (.tmp 40)) (hi := none) (mx := none) da0 (congrArg some da1) rfl rfl rfl (HFR.out _)) rfl (hW.keep (by decide))
        | 4, ho, hi, hdep =>
          cases ho
          have da0 : ac.eval (.tmp 7) = .slice (some ⟨B, 0, none⟩) N N := hF.old 7 rfl
          exact Ord.ex_value x rfl rfl (Rg.mv da0 rfl) rfl (hW.keep (by decide))
        | 5, ho, hi, hdep =>
          cases ho
          have da0 : ac.eval (.tmp 8) = .int .i64 (c : Int) := hF.yet 8 9 (by rfl) (Rg.no_of (fun h => hcl 9 _ rfl (h) ⟨5, .phase⟩ (by simp) rfl) hi)
          exact Ord.ex_value x rfl rfl (Rg.mv da0 rfl) rfl (hW.keep (by decide))
        | 6, ho, hi, hdep =>
          cases ho
          have da0 : ac.eval (.tmp 42) = .slice (some ⟨B, 0, none⟩) N N := hF.2.2.2 4 42 _ rfl (hdep ⟨4, .data⟩ (by simp) rfl)
          have da1 : ac.eval (.tmp 43) = .int .i64 (c : Int) := hF.2.2.2 5 43 _ rfl (hdep ⟨5, .data⟩ (by simp) rfl)
          exact Ord.ex_value x rfl rfl (Rg.slc (lo := none) (hi := some (.tmp 43)) (mx := none) da0 rfl (congrArg some da1) rfl rfl (HTO.out _)) rfl (hW.keep (by decide))
        | 7, ho, hi, hdep =>
          cases ho
          have da0 : ac.eval (.tmp 41) = .slice (some ⟨B, c, none⟩) (N - c) (N - c) := hF.2.2.2 3 41 _ rfl (hdep ⟨3, .data⟩ (by simp) rfl)
          have da1 : ac.eval (.tmp 44) = .slice (some ⟨B, 0, none⟩) c N := hF.2.2.2 6 44 _ rfl (hdep ⟨6, .data⟩ (by simp) rfl)
          have hA := hW.at (k := 0) rfl hi (.inl rfl)
          have hw := hA.1 rfl
          subst hw
          exact Ord.ex_value x rfl rfl (cpy da0 da1 rfl (CP.out _)) rfl (hW.next (k := 0) rfl (by decide) hi (.inl rfl) ⟨fun e => absurd e (by decide), fun _ => rfl⟩)
        | 8, ho, hi, hdep =>
          cases ho
          have da0 : ac.eval (.tmp 38) = .int .i64 (c : Int) := hF.2.2.2 0 38 _ rfl (hdep ⟨0, .data⟩ (by simp) rfl)
          have da1 : ac.eval (.tmp 45) = .int .i64 (k : Int) := hF.2.2.2 7 45 _ rfl (hdep ⟨7, .data⟩ (by simp) rfl)
          exact Ord.ex_value x rfl rfl (Rg.bin da0 da1 rfl (by simp [go_sem, HW2.out])) rfl (hW.keep (by decide))
        | 9, ho, hi, hdep =>
          cases ho
          have da0 : ac.eval (.tmp 46) = .int .i64 (d : Int) := hF.2.2.2 8 46 _ rfl (hdep ⟨8, .data⟩ (by simp) rfl)
          exact Ord.ex_value x rfl rfl (Rg.asg da0 rfl) rfl (hW.keep (by decide))
      case refine_3 => exact Rg.StM.first ⟨fun _ => rfl, fun e => absurd e (by decide)⟩
      case refine_2 =>
        intro v' w2 hW
        have hA := hW.last
        have hw2 := hA.2 rfl
        subst hw2
        clear hW hA
        simp only [Ord.puts, Ord.prs]
        go_simp
        go_wp2
        go_roundw
        case rel => exact ⟨d, by have := HK.out; omega, by have := HK.out; omega, rfl, HB2.out, HI2.out⟩
        case measure => simp [intOf]; have := HK.out; have := HL.out; omega
    · obtain rfl : N = c := by omega
      have G : Hid (Iw wr B N (fun _ => -1) ∧ Below B w wr) := ⟨hI.congr (fun i hi => by rw [if_pos hi]), hb⟩
      clear hI hb
      go_wp2
      go_ret
      have hbe := HBE.out
      subst hbe
      exact ⟨rfl, G.out⟩
end Go.Proofs.Ytjceeckcfjjkkaa.Ob
