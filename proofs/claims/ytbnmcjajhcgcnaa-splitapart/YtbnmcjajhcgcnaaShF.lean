/-
  Shares of a send buffer: the document's answers of paths, and the shares that the statements begin with.
  Conditions: as at each lemma.
-/
import Derived.Test.YtbnmcjajhcgcnaaShE
namespace Go.Proofs.Ytbnmcjajhcgcnaa.Sh
open Go.ChangeShapes Go.WideShapes Go.ChangeAt Go.RowKit
open Ba (hidden Has Only)
open Ow (Own)
set_option linter.unusedVariables false

section
variable {w : World} {a : Option Addr} {n cap : Nat} {ys : List Int}
set_option maxHeartbeats 2000000 in
theorem rMay (h : Nu w a n ys) (B P M p : Int) : Calls Try.prog 19 #[.agg #[.int .i64 B, .int .i64 P, .int .i64 M], .int .i64 p, .slice a n cap] w fun e w' => e = .returned (.tuple #[.bool (mV B P M ys p), .int .i64 (mE B P M ys p)]) ∧ Below w.heap.size w w' := by
  have O := hidden ((Own.refl w).alloc #[.int .i64 B, .int .i64 P, .int .i64 M] 23)
  have CK := hidden (rCheck (cap := cap) (h.later O.out.below) B P M)
  by_cases hc : chk B P M ys = 0
  · obtain ⟨hk, hl, hy⟩ := chk_0 hc
    by_cases hp : 0 ≤ p ∧ p < P
    · rw [(m_ok hc hp).1, (m_ok hc hp).2]
      rw [hc] at CK
      have PA := hidden (rpart (n := B) (p := P) ⟨by have := hk.1; omega, hk.1.2⟩ hk.2.1)
      have hpn : p < (n : Int) := by have := h.len; omega
      obtain ⟨b, off, rfl, hb⟩ := Nu.open h (by omega)
      obtain ⟨y, hy', d⟩ := Nu.get h (q := p.toNat) (by omega)
      have hg : ys.getD p.toNat 0 = y := by rw [List.getD_eq_getElem?_getD, hy']; rfl
      rw [hg]
      have D := hidden d
      generalize part B P = V at *
      obtain ⟨hp1, hp2⟩ := hp
      clear h hk hl hy hc hy' hg d
      go_enter Try.func19, Try.ntmps19
      go_wp2_with fail
      refine Calls.mono CK.out ?_
      rintro e w1 ⟨rfl, hB⟩
      have O1 := hidden (O.out.later hB)
      obtain ⟨c0, c1, c2⟩ := cells3 O1.out (.head _)
      clear hB O CK
      have d1 := keep_cell O1.out.below D.out
      have HH : Hid (∀ X : World, Below w1.heap.size w1 X → X.cell? ⟨w.heap.size, 0, none⟩ = some (.int .i64 B) ∧ X.cell? ⟨w.heap.size, 1, none⟩ = some (.int .i64 P) ∧ X.cell? ⟨b, off + p.toNat, none⟩ = some (.int .i64 y) ∧ Below w1.heap.size w1 X) := fun X hX => ⟨keep_cell hX c0, keep_cell hX c1, keep_cell hX d1, hX⟩
      have PX : Hid (∀ X : World, Below w1.heap.size w1 X → Calls Try.prog 25 #[.int .i64 B, .int .i64 P] X fun e w' => e = .returned (.int .i64 V) ∧ Below w1.heap.size w1 w') := fun X hX => (PA.out X).mono (by rintro e w' ⟨rfl, rfl⟩; exact ⟨rfl, hX⟩)
      clear D PA
      go_wp2_with fail
      go_region_held3 (fun X => X.cell? ⟨w.heap.size, 0, none⟩ = some (.int .i64 B) ∧ X.cell? ⟨w.heap.size, 1, none⟩ = some (.int .i64 P) ∧ X.cell? ⟨b, off + p.toNat, none⟩ = some (.int .i64 y) ∧ Below w1.heap.size w1 X)
        (first | (exact HH.out _ (below_drew (Below.refl _ _))) | (exact HH.out _ (by assumption)) | (trace_state; fail))
        (first
          | (go_at_call 25; refine Calls.mono (PX.out _ ?_) ?_; (first | assumption | exact below_drew (Below.refl _ _)); rintro e X ⟨rfl, hX⟩))
      go_wp2
      go_ret2
      exact ⟨rfl, O1.out.below.trans (hX.mono O1.out.below.size)⟩
    · rw [(m_out hc hp).1, (m_out hc hp).2]
      rw [hc] at CK
      have hp' : p < 0 ∨ (¬ p < 0 ∧ P ≤ p) := by omega
      clear h hk hl hy hc hp
      rcases hp' with hp | ⟨hp, hq⟩
      · go_enter Try.func19, Try.ntmps19
        go_wp2_with fail
        refine Calls.mono CK.out ?_
        rintro e w1 ⟨rfl, hB⟩
        have O1 := hidden (O.out.later hB)
        obtain ⟨c0, c1, c2⟩ := cells3 O1.out (.head _)
        clear hB O CK
        go_wp2
        go_ret2
        exact ⟨rfl, O1.out.below⟩
      · go_enter Try.func19, Try.ntmps19
        go_wp2_with fail
        refine Calls.mono CK.out ?_
        rintro e w1 ⟨rfl, hB⟩
        have O1 := hidden (O.out.later hB)
        obtain ⟨c0, c1, c2⟩ := cells3 O1.out (.head _)
        clear hB O CK
        go_wp2
        go_ret2
        exact ⟨rfl, O1.out.below⟩
  · rw [(m_no hc p).1, (m_no hc p).2]
    generalize chk B P M ys = C at *
    clear h
    go_enter Try.func19, Try.ntmps19
    go_wp2_with fail
    refine Calls.mono CK.out ?_
    rintro e w1 ⟨rfl, hB⟩
    have O1 := hidden (O.out.later hB)
    clear hB O CK
    go_wp2
    go_ret2
    exact ⟨rfl, O1.out.below⟩
/-- a row with one number more -/
theorem rows_next {w0 w1 w2 : World} {v v' : Value} {q : Nat} {xs : List Int} {x : Int} (h : w2.ownsRow w0.heap.size 3 1 v' (q + 1) (lc xs ++ [.int .i64 x])) : w2.ownsRow w0.heap.size 3 1 v' (q + 1) (lc (xs ++ [x])) := by
  rw [lc_app]
  exact h
set_option maxHeartbeats 4000000 in
theorem rLeft (h : Nu w a n ys) (B P M W : Int) : Calls Try.prog 11 #[.agg #[.int .i64 B, .int .i64 P, .int .i64 M], .int .i64 W, .slice a n cap] w fun e w' => RowO w w' e (lV B P M W ys) (lE B P M W ys) := by
  have O := hidden ((Own.refl w).alloc #[.int .i64 B, .int .i64 P, .int .i64 M] 23)
  have CK := hidden (rCheck (cap := cap) (h.later O.out.below) B P M)
  by_cases hc : chk B P M ys = 0
  case neg =>
    rw [(l_no hc W).1, (l_no hc W).2]
    generalize chk B P M ys = C at *
    clear h
    go_enter Try.func11, Try.ntmps11
    go_wp2_with fail
    refine Calls.mono CK.out ?_
    rintro e w1 ⟨rfl, hB⟩
    have O1 := hidden (O.out.later hB)
    clear hB O CK
    go_wp2
    go_ret2
    exact RowO.no O1.out.below
  by_cases hW : byt W
  case neg =>
    rw [(l_out hc hW).1, (l_out hc hW).2]
    rw [hc] at CK
    have hW' : W < 0 ∨ (¬ W < 0 ∧ 1073741824 < W) := by omega
    clear h hc hW
    rcases hW' with hW | ⟨hW, hV⟩
    · go_enter Try.func11, Try.ntmps11
      go_wp2_with fail
      refine Calls.mono CK.out ?_
      rintro e w1 ⟨rfl, hB⟩
      have O1 := hidden (O.out.later hB)
      clear hB O CK
      go_wp2
      go_ret2
      exact RowO.no O1.out.below
    · go_enter Try.func11, Try.ntmps11
      go_wp2_with fail
      refine Calls.mono CK.out ?_
      rintro e w1 ⟨rfl, hB⟩
      have O1 := hidden (O.out.later hB)
      clear hB O CK
      go_wp2
      go_ret2
      exact RowO.no O1.out.below
  obtain ⟨hk, hl, hy⟩ := chk_0 hc
  have h8 : n ≤ 8 := by have := h.len; have := hk.2.1; omega
  have hBB : byt B := ⟨by have := hk.1; omega, hk.1.2⟩
  have PA := hidden (rpart (n := B) (p := P) hBB hk.2.1)
  have PW := hidden (rpart (n := W) (p := P) hW hk.2.1)
  have LI := hidden (lv_in hBB hk.2.1 hW hy)
  have LG : Hid (∀ q y, ys[q]? = some y → (lv B P W ys)[q]? = some (max 0 (min (part B P) (part W P) - y))) := fun q y h => lv_get h B P W
  have LN := hidden ((lv_len B P W ys).trans h.len)
  have hV1 := part_in hBB hk.2.1
  have hV2 := part_in hW hk.2.1
  obtain ⟨i0, hi, hz0, hz1, hz2⟩ := info_parts infoI
  have H := hidden h
  have HY := hidden hy
  rw [(l_ok hc hW).1, (l_ok hc hW).2]
  rw [hc] at CK
  generalize lv B P W ys = L at *
  obtain ⟨f, hf⟩ : ∃ f : Int → Int, f = fun z => part z P := ⟨_, rfl⟩
  have e1 : part B P = f B := by rw [hf]
  have e2 : part W P = f W := by rw [hf]
  rw [e1] at PA hV1
  rw [e2] at PW hV2
  rw [e1, e2] at LG
  clear hf e1 e2
  obtain ⟨hW1, hW2⟩ := hW
  clear h hk hl hy hc
  go_enter Try.func11, Try.ntmps11
  go_wp2_with fail
  refine Calls.mono CK.out ?_
  rintro e w1 ⟨rfl, hB⟩
  have O1 := hidden (O.out.later hB)
  clear hB O CK
  go_wp2_with fail
  go_loopw [9, 10] (fun v i wr => ∃ q : Int, 0 ≤ q ∧ q ≤ (n : Int) ∧ i = .int .i64 q ∧ Hid (wr.ownsRow (w.heap.size + 1) 3 1 v q.toNat (lc (L.take q.toNat))) ∧ Hid (Own w wr [(w.heap.size, #[.int .i64 B, .int .i64 P, .int .i64 M], 23)])) (fun _ i _ => n - (intOf i).toNat)
  case atStart => exact ⟨0, by omega, by omega, rfl, World.ownsRow_nil _ _ _ _, O1.out⟩
  case round =>
    clear O1
    obtain ⟨q, j1, j2, rfl, OW, O⟩ := hrel
    by_cases hq : q < (n : Int)
    · obtain ⟨b, off, rfl, hb⟩ := Nu.open H.out (by omega)
      obtain ⟨y, hy, d0⟩ := Nu.get (H.out.later O.out.below) (q := q.toNat) (by omega)
      have hyb := HY.out y (List.mem_of_getElem? hy)
      have HT : Hid (L.take (q + 1).toNat = L.take q.toNat ++ [max (min (f B) (f W) - y) 0]) := by
        show L.take (q + 1).toNat = L.take q.toNat ++ [max (min (f B) (f W) - y) 0]
        rw [show (q + 1).toNat = q.toNat + 1 by omega, take_next (LG.out _ _ hy), show max 0 (min (f B) (f W) - y) = max (min (f B) (f W) - y) 0 by omega]
      have hw : IntKind.i64.wrap (min (f B) (f W) - y) = min (f B) (f W) - y := by rw [IntKind.wrap_i64]; omega
      obtain ⟨c0, c1, c2⟩ := cells3 O.out (.head _)
      have HH : Hid (∀ X : World, Below wr.heap.size wr X → X.cell? ⟨w.heap.size, 0, none⟩ = some (.int .i64 B) ∧ X.cell? ⟨w.heap.size, 1, none⟩ = some (.int .i64 P) ∧ X.cell? ⟨b, off + q.toNat, none⟩ = some (.int .i64 y) ∧ Below wr.heap.size wr X) := fun X hX => ⟨keep_cell hX c0, keep_cell hX c1, keep_cell hX d0, hX⟩
      have PX : Hid (∀ X : World, Below wr.heap.size wr X → ∀ z, (z = B ∨ z = W) → Calls Try.prog 25 #[.int .i64 z, .int .i64 P] X fun e w' => e = .returned (.int .i64 (f z)) ∧ Below wr.heap.size wr w') := fun X hX z hz => by
        rcases hz with rfl | rfl
        · exact (PA.out X).mono (by rintro e w' ⟨rfl, rfl⟩; exact ⟨rfl, hX⟩)
        · exact (PW.out X).mono (by rintro e w' ⟨rfl, rfl⟩; exact ⟨rfl, hX⟩)
      clear hy hyb
      go_wp2_with fail
      go_region_held3 (fun X => X.cell? ⟨w.heap.size, 0, none⟩ = some (.int .i64 B) ∧ X.cell? ⟨w.heap.size, 1, none⟩ = some (.int .i64 P) ∧ X.cell? ⟨b, off + q.toNat, none⟩ = some (.int .i64 y) ∧ Below wr.heap.size wr X)
        (first | (exact HH.out _ (below_drew (Below.refl _ _))) | (exact HH.out _ (by assumption)) | (trace_state; fail))
        (first
          | (go_at_call 25; refine Calls.mono (PX.out _ ?_ _ ?_) ?_; (first | assumption | exact below_drew (Below.refl _ _)); (first | exact .inl rfl | exact .inr rfl); rintro e X ⟨rfl, hX⟩))
      have OX := hidden (O.out.later hX)
      have OWX := hidden (row_below OW.out hX)
      have hsX := OX.out.lt (.head _)
      clear hX d0 c0 c1 c2 HH PX
      go_wp2_with (first | (at_builtin; refine wpList_append_own _ rfl _ _ 24 rfl (w.heap.size + 1) 3 i0 (.int .i64 0) 1 8 Try.underlying24 hi hz0 hz1 hz2 rfl (by decide) _ _ _ rfl (OWX.out.alloc _) ⟨X.heap.size, 0, none⟩ 1 1 (lc [max (min (f B) (f W) - y) 0]) rfl rfl (cell1 X _) (lc_one _) ?c3 ?c4 ?c5 ?_) | go_in)
      case c3 => unfold maxLen; omega
      case c4 => omega
      case c5 => simp; omega
      intro v' w9 ho9 hg9 _
      have OW9 : Hid (w9.ownsRow (w.heap.size + 1) 3 1 v' (q + 1).toNat (lc (L.take (q + 1).toNat))) := by
        show w9.ownsRow (w.heap.size + 1) 3 1 v' (q + 1).toNat (lc (L.take (q + 1).toNat))
        rw [HT.out, lc_app, show (q + 1).toNat = q.toNat + 1 by omega]
        exact ho9
      have O9 : Hid (Own w w9 [(w.heap.size, #[.int .i64 B, .int .i64 P, .int .i64 M], 23)]) := own_grown ((OX.out.alloc #[.int .i64 (max (min (f B) (f W) - y) 0)] 3).sub (by simp)) hg9 (fun k hk => by
        have := (OWX.out.lt k hk).1
        exact ⟨by omega, by simp; omega⟩)
      clear ho9 hg9 OX OWX
      go_wp2
      go_roundw
      case rel => exact ⟨q + 1, by omega, by omega, rfl, OW9.out, O9.out⟩
      case measure => simp [intOf]; omega
    · obtain rfl : q = (n : Int) := by omega
      obtain ⟨a', cap', ev, hnu⟩ := Nu.own OW.out (fun x hx => wf_in (by have := LI.out x (List.mem_of_mem_take hx); omega)) (by omega)
      have NU : Hid (Nu wr a' n L) := by
        rw [List.take_of_length_le (by rw [LN.out]; omega), show (n : Int).toNat = n by omega] at hnu
        exact hnu
      subst ev
      clear hnu
      go_wp2
      go_ret2
      exact ⟨_, _, _, rfl, NU.out, O.out.below⟩
end
section
variable {w : World} {a : Option Addr} {n cap : Nat} {ys : List Int} {B P M p z : Int}
set_option maxHeartbeats 2000000 in
theorem rPut (h : Nu w a n ys) : Calls Try.prog 21 #[.agg #[.int .i64 B, .int .i64 P, .int .i64 M], .int .i64 p, .int .i64 z, .slice a n cap] w fun e w' => RowO w w' e (pV B P M ys p z) (pE B P M ys p z) := by
  have O := hidden ((Own.refl w).alloc #[.int .i64 B, .int .i64 P, .int .i64 M] 23)
  have MA := hidden (rMay (cap := cap) (h.later O.out.below) B P M p)
  by_cases hc : mE B P M ys p = 0
  case neg =>
    rw [(p_no hc z).1, (p_no hc z).2]
    generalize mE B P M ys p = C at *
    generalize mV B P M ys p = V at *
    clear h
    go_enter Try.func21, Try.ntmps21
    go_wp2_with fail
    refine Calls.mono MA.out ?_
    rintro e w1 ⟨rfl, hB⟩
    have O1 := hidden (O.out.later hB)
    clear hB O MA
    go_wp2
    go_ret2
    exact RowO.no O1.out.below
  by_cases hz : 1 ≤ z ∧ z ≤ M
  case neg =>
    rw [(p_out hc hz).1, (p_out hc hz).2]
    rw [hc] at MA
    generalize mV B P M ys p = V at *
    have hz' : z < 1 ∨ (¬ z < 1 ∧ M < z) := by omega
    clear h hc hz
    rcases hz' with hz | ⟨hz, hM⟩
    · go_enter Try.func21, Try.ntmps21
      go_wp2_with fail
      refine Calls.mono MA.out ?_
      rintro e w1 ⟨rfl, hB⟩
      have O1 := hidden (O.out.later hB)
      obtain ⟨c0, c1, c2⟩ := cells3 O1.out (.head _)
      clear hB O MA
      go_wp2
      go_ret2
      exact RowO.no O1.out.below
    · go_enter Try.func21, Try.ntmps21
      go_wp2_with fail
      refine Calls.mono MA.out ?_
      rintro e w1 ⟨rfl, hB⟩
      have O1 := hidden (O.out.later hB)
      obtain ⟨c0, c1, c2⟩ := cells3 O1.out (.head _)
      clear hB O MA
      go_wp2
      go_ret2
      exact RowO.no O1.out.below
  have hz' : ¬ z < 1 := by omega
  have hM' : ¬ M < z := by omega
  cases hv : mV B P M ys p with
  | false =>
    rw [(p_full hc hz hv).1, (p_full hc hz hv).2]
    rw [hv, hc] at MA
    clear h hc hz hv
    go_enter Try.func21, Try.ntmps21
    go_wp2_with fail
    refine Calls.mono MA.out ?_
    rintro e w1 ⟨rfl, hB⟩
    have O1 := hidden (O.out.later hB)
    obtain ⟨c0, c1, c2⟩ := cells3 O1.out (.head _)
    clear hB O MA
    go_wp2
    go_ret2
    exact RowO.no O1.out.below
  | true =>
    obtain ⟨hk, hl, hy, hp, _⟩ := m_0 hc
    rw [(p_ok hc hz hv).1, (p_ok hc hz hv).2]
    rw [hv, hc] at MA
    have hpn : p < (n : Int) := by have := h.len; omega
    have h8 : n ≤ 8 := by have := h.len; have := hk.2.1; omega
    obtain ⟨b, off, rfl, hb⟩ := Nu.open h (by omega)
    obtain ⟨y, hy', _⟩ := Nu.get h (q := p.toNat) (by omega)
    have hg : ys.getD p.toNat 0 = y := by rw [List.getD_eq_getElem?_getD, hy']; rfl
    rw [hg]
    have hyb := hy y (List.mem_of_getElem? hy')
    have hM := hk.2.2
    have hw : IntKind.i64.wrap (y + z) = y + z := by rw [IntKind.wrap_i64]; omega
    have SI := hidden (set_in hy (j := p.toNat) (x := y + z) (by omega))
    obtain ⟨i0, hi, hz0, hz1, hz2⟩ := info_parts infoI
    have H := hidden h
    have HY := hidden hy'
    obtain ⟨hp1, hp2⟩ := hp
    have HL : Hid ((lc ys).length = n * 1) := by
      show (lc ys).length = n * 1
      rw [lc_len, h.len, Nat.mul_one]
    clear h hk hl hy hc hz hv hy' hg hyb hM
    go_enter Try.func21, Try.ntmps21
    go_wp2_with fail
    refine Calls.mono MA.out ?_
    rintro e w1 ⟨rfl, hB⟩
    have O1 := hidden (O.out.later hB)
    obtain ⟨c0, c1, c2⟩ := cells3 O1.out (.head _)
    clear hB O MA
    have hb1 := (Below.refl _ w1).alloc (Nat.le_refl _) (.cells #[] 3)
    have HNW := hidden (Nu.news ((H.out.later O1.out.below).later hb1))
    have HO := hidden (show (w1.alloc (.cells #[] 3)).ownsRow w1.heap.size 3 1 (.slice (some ⟨w1.heap.size, 0, none⟩) 0 0) 0 [] from World.ownsRow_lit w1 #[] 0 (Nat.le_refl _) (Nat.zero_le _) rfl)
    have HB1 := hidden hb1
    clear hb1
    go_wp2_with (first | (at_builtin; refine wpList_append_own _ rfl _ _ 24 rfl w1.heap.size 3 i0 (.int .i64 0) 1 8 Try.underlying24 hi hz0 hz1 hz2 rfl (by decide) _ _ _ rfl HO.out ⟨b, off, none⟩ n cap (lc ys) rfl HL.out HNW.out (lc_one _) ?c3 ?c4 (by simp) ?_) | go_in)
    case c3 => unfold maxLen; omega
    case c4 => omega
    intro v' w3 hown hgrow _
    have hB3 := HB1.out.grown hgrow (by simp) (fun q hq => by cases hq; exact Nat.le_refl _)
    try simp only [Nat.zero_add, List.nil_append] at hown
    obtain ⟨g, cg, rfl, hg1, hg2, hg3, hg4⟩ := Ba.own_some hown (by omega)
    have O3 := hidden (O1.out.below.trans (hB3.mono O1.out.below.size))
    have d0 := hown.cellAt p.toNat (by omega)
    rw [lc_get, HY.out] at d0
    have f0 := hown.frozenAt p.toNat
    have ST := (hown.stored p.toNat (.int .i64 (y + z))).1
    rw [lc_set] at ST
    obtain ⟨a', cap', ev, hnu⟩ := Nu.own ST (fun x hx => wf_in (by have := SI.out x hx; omega)) (by omega)
    cases ev
    have NU := hidden hnu
    have HB := hidden (O3.out.setCell (p := ⟨g, p.toNat, none⟩) (by have := O1.out.below.size; show w.heap.size ≤ g; omega) (.int .i64 (y + z)))
    clear hown hB3 ST hnu hgrow O1 HO HNW HB1 c0 c1 c2 hg1 hg3 hg4
    go_wp2
    go_ret2
    exact ⟨_, _, _, rfl, NU.out, HB.out⟩
end
/-- three numbers -/
theorem three (w : World) (x y z : Int) (hx : (Lit.int .i64 x).wf = true) (hy : (Lit.int .i64 y).wf = true) (hz : (Lit.int .i64 z).wf = true) : Nu (w.alloc (.cells #[.int .i64 x, .int .i64 y, .int .i64 z] 3)) (some ⟨w.heap.size, 0, none⟩) 3 [x, y, z] := by
  have h := Has.new w #[.int .i64 x, .int .i64 y, .int .i64 z] 3
  refine ⟨rfl, by simp [hx, hy, hz], by decide, .inr ⟨w.heap.size, 0, rfl, by simp, fun j u hj c v hv => ?_⟩⟩
  match j, c with
  | 0, 0 => simp at hj; subst hj; simp at hv; subst hv; exact h.cell 0 rfl
  | 1, 0 => simp at hj; subst hj; simp at hv; subst hv; exact h.cell 1 rfl
  | 2, 0 => simp at hj; subst hj; simp at hv; subst hv; exact h.cell 2 rfl
  | _, c + 1 => simp at hv
  | j + 3, _ => simp at hj
theorem awake (w : World) : Calls Try.prog 17 #[] w fun e w' => e = .returned (.bool true) ∧ Below w.heap.size w w' := by
  have O := hidden ((Own.refl w).alloc #[.int .i64 10000, .int .i64 3, .int .i64 1500] 23)
  have S : Hid (∀ X, Calls Try.prog 8 #[.agg #[.int .i64 10000, .int .i64 3, .int .i64 1500]] X fun e w' => e = .returned (.tuple #[.int .i64 3334, .int .i64 0]) ∧ Below X.heap.size X w') := fun X => share 10000 3 1500 X
  have C : Hid (∀ X : World, Calls Try.prog 10 #[.agg #[.int .i64 10000, .int .i64 3, .int .i64 1500], .int .i64 6000, .slice (some ⟨X.heap.size, 0, none⟩) 3 3] (X.alloc (.cells #[.int .i64 0, .int .i64 2500, .int .i64 0] 3)) fun e w' => RowO (X.alloc (.cells #[.int .i64 0, .int .i64 2500, .int .i64 0] 3)) w' e [2000, 0, 2000] 0) := fun X => left (cap := 3) (three X 0 2500 0 rfl rfl rfl) 10000 3 1500 6000
  go_enter Try.func17, Try.ntmps17
  go_wp2_with fail
  refine Calls.mono (S.out _) ?_
  rintro e w1 ⟨rfl, hB⟩
  have O1 := hidden (O.out.later hB)
  obtain ⟨c0, c1, c2⟩ := cells3 O1.out (.head _)
  have hlt := O1.out.lt (.head _)
  clear hB O
  go_wp2_with fail
  refine Calls.mono (C.out _) ?_
  rintro e w2 ⟨a, k, cap, rfl, hnu, hB⟩
  have HB2 := hidden (O1.out.below.trans (((Below.refl _ w1).alloc (Nat.le_refl _) (.cells #[.int .i64 0, .int .i64 2500, .int .i64 0] 3)).trans (hB.mono (by simp)) |>.mono O1.out.below.size))
  have SA := hidden (same (cap := cap) (cap2 := 3) (hnu.later ((Below.refl _ w2).alloc (Nat.le_refl _) (.cells #[.int .i64 2000, .int .i64 0, .int .i64 2000] 3))) (three w2 2000 0 2000 rfl rfl rfl))
  rw [decide_eq_true rfl] at SA
  clear hB hnu O1 c0 c1 c2 C S
  go_wp2_with fail
  refine Calls.mono SA.out ?_
  rintro e w3 ⟨rfl, hB⟩
  have HB3 := hidden (HB2.out.trans (((Below.refl _ w2).alloc (Nat.le_refl _) (.cells #[.int .i64 2000, .int .i64 0, .int .i64 2000] 3)).trans (hB.mono (by simp)) |>.mono HB2.out.size))
  clear hB SA
  go_wp2
  go_ret
  exact ⟨rfl, HB3.out⟩
end Go.Proofs.Ytbnmcjajhcgcnaa.Sh
