/-
  The document's Stop, Set and Due of timers.
  Conditions: the list lies in memory, at most 4096 timers.
-/
import Derived.Test.YtinhhfnknlmdgaaTmR
namespace Go.Proofs.Ytinhhfnknlmdgaa.Tm
open Go.RowKit Go.Sort Go.ChangeShapes Go.WideShapes Go.ChangeAt
open Ba (hidden Only In Has own_ne own_stay own_len own_some own_mono cell_lt heap_lt)
set_option linter.unusedVariables false

theorem rm_step {k : Int} {S : List D} {n : Nat} (hn : n < S.length) : rm k (S.take (n + 1)) = if (at_ S n).1 = k then rm k (S.take n) else rm k (S.take n) ++ [at_ S n] := by
  rw [List.take_add_one, at_get hn]
  unfold rm
  rw [List.filter_append]
  by_cases h : (at_ S n).1 = k
  · rw [if_pos h]
    have : (!((at_ S n).1 == k)) = false := by simp [h]
    simp [this]
  · rw [if_neg h]
    have : (!((at_ S n).1 == k)) = true := by simp [h]
    simp [this]
theorem rm_le (k : Int) (S : List D) : (rm k S).length ≤ S.length := List.length_filter_le _ _
theorem rm_less (k : Int) (S : List D) : decide ((rm k S).length < S.length) = (look k S).isSome := by
  rw [Bool.eq_iff_iff]
  simp only [decide_eq_true_eq]
  unfold look rm
  rw [List.find?_isSome, List.length_filter_lt_length_iff_exists]
  constructor
  · rintro ⟨x, hx, h⟩; exact ⟨x, hx, by simpa using h⟩
  · rintro ⟨x, hx, h⟩; exact ⟨x, hx, by simpa using h⟩
theorem RT.put {w w' : World} {r : Nat} {S S' : List D} {now now' : Int} {v v' : Value} (h1 : Has w r #[v, .int .i64 now] 28) (hB : Below w.heap.size w w') (ho : w'.ownsRow w.heap.size 43 2 v' S'.length (dcs S')) (hl : S'.length ≤ 4096) :
    RTO w (w'.setCell ⟨r, 0, none⟩ v') r S' now (r :: v.ownBlock.toList) := by
  have h1' := h1.later hB
  refine ⟨_, ⟨v', rfl, h1'.set 0 _, ?_, hl⟩, (Only.of_below hB).then (Only.setCell w' (p := ⟨r, 0, none⟩) (by simp) _), ?_⟩
  · exact own_stay (own_mono ho (fun k _ => Nat.zero_le _)) (Only.setCell (F := [r]) w' (p := ⟨r, 0, none⟩) (by simp) _) (fun k hk => by simp; exact fun e => own_ne ho h1' (by decide) k hk e.symm)
  · intro k hk
    rcases List.mem_cons.1 hk with rfl | hk
    · exact .inl (by simp)
    · exact .inr (ho.lt k (by simpa using hk)).1
set_option maxHeartbeats 1000000 in
set_option maxRecDepth 20000 in
theorem rstop {w : World} {r : Nat} {S : List D} {now : Int} {F : List Nat} (h : RT w r S now F) (id : Int) : Calls Try.prog 26 #[.pointer (some ⟨r, 0, none⟩), .int .i64 id] w fun e w' => e = .returned (.tuple #[.bool (stopB id S), .int .i64 (stopE id)]) ∧ RTO w w' r (stopS id S) now F := by
  have N := hidden (rID id w)
  have same : Hid (RTO w w r S now F) := ⟨_, h, Only.refl _ _, In.refl _ _⟩
  cases hid : okId id with
  | false =>
    rw [show stopE id = 1 by unfold stopE; rw [hid]; rfl, show stopS id S = S by unfold stopS; rw [hid]; rfl, show stopB id S = false by unfold stopB; rw [hid]; rfl]
    rw [hid] at N
    clear h hid
    go_enter Try.func26, Try.ntmps26
    go_wp2_with fail
    refine Calls.mono N.out ?_
    rintro e w' ⟨rfl, rfl⟩
    go_wp2
    go_ret2
    exact ⟨rfl, same.out⟩
  | true =>
    obtain ⟨v, rfl, h1, h2, h3⟩ := h
    obtain ⟨a, cap, hv⟩ := own_len h2
    rw [show stopE id = 0 by unfold stopE; rw [hid]; rfl, show stopS id S = rm id S by unfold stopS; rw [hid]; rfl, show stopB id S = decide ((rm id S).length < S.length) by unfold stopB; rw [hid, rm_less]; rfl]
    rw [hid] at N
    have hr := h1.lt
    have c0 := h1.cell 0 rfl
    have H1 := hidden h1
    have H2 := hidden h2
    obtain ⟨l, hl⟩ : ∃ l, l = S.length := ⟨_, rfl⟩
    have HL := hidden hl
    have c0' : w.cell? ⟨r, 0, none⟩ = some (.slice a l cap) := by rw [hl]; rw [← hv]; exact c0
    have HV := hidden hv
    have i1 : (l : Int) ≤ 4096 := by omega
    have FIN : Hid (∀ w' v', Below w.heap.size w w' → w'.ownsRow w.heap.size 43 2 v' (rm id S).length (dcs (rm id S)) → RTO w (w'.setCell ⟨r, 0, none⟩ v') r (rm id S) now (r :: v.ownBlock.toList)) := fun w' v' hB ho => RT.put (S := S) (now' := now) h1 hB ho (Nat.le_trans (rm_le _ _) h3)
    rw [← hl]
    clear h1 h2 h3 hl hid c0 same hv
    go_enter Try.func26, Try.ntmps26
    go_wp2_with fail
    refine Calls.mono N.out ?_
    rintro e w' ⟨rfl, rfl⟩
    go_wp2_with fail
    go_loopw [6, 7] (fun tv i wr => ∃ (q : Int) (qn : Nat), i = .int .i64 q ∧ Hid (q = qn ∧ wr.ownsRow w.heap.size 43 2 tv (rm id (S.take qn)).length (dcs (rm id (S.take qn))) ∧ Below w.heap.size w wr) ∧ 0 ≤ q ∧ q ≤ (l : Int)) (fun _ i _ => l - (intOf i).toNat)
    case atStart => exact ⟨0, 0, rfl, ⟨rfl, World.ownsRow_nil _ _ _ _, Below.refl _ _⟩, by omega, by omega⟩
    case round =>
      obtain ⟨q, qn, rfl, HR, j1, j2⟩ := hrel
      obtain ⟨r1, r2, r3⟩ := HR.out
      have c0r := (r3.cell (p := ⟨r, 0, none⟩) hr).trans c0'
      obtain ⟨ta, tc, rfl⟩ := own_len r2
      by_cases hlt : q < (l : Int)
      · have hqn : qn < S.length := by have := HL.out; omega
        obtain ⟨g, cap', e, hg, _⟩ := H2.out.get hqn
        have hgv := e
        rw [HV.out] at e
        cases e
        rw [hgv] at H2
        obtain ⟨k1, k2, _⟩ := H2.out.cell hqn
        have eq : qn = q.toNat := by omega
        rw [eq] at k1 k2
        have k1 := (r3.cell (p := ⟨g, q.toNat * 2, none⟩) hg).trans k1
        have k2 := (r3.cell (p := ⟨g, q.toNat * 2 + 1, none⟩) hg).trans k2
        have hst := rm_step (k := id) hqn
        rw [eq] at hst
        by_cases hd : (at_ S q.toNat).1 = id
        · rw [if_pos hd, ← eq] at hst
          have HN : Hid (wr.ownsRow w.heap.size 43 2 (.slice ta (rm id (S.take qn)).length tc) (rm id (S.take (qn + 1))).length (dcs (rm id (S.take (qn + 1)))) ∧ Below w.heap.size w wr) := by rw [hst]; exact ⟨r2, r3⟩
          have HQ := hidden r1
          rw [hd] at k1
          generalize (at_ S q.toNat).2 = tm at k2
          generalize hgl : (rm id (S.take qn)).length = ln at HN
          clear r1 r2 r3 hqn eq hd HR hst hgl
          go_wp2
          go_roundw
          case rel => exact ⟨_, qn + 1, rfl, ⟨by have := HQ.out; omega, HN.out⟩, by omega, by omega⟩
          case measure => simp [intOf]; omega
        · have hd' : ((at_ S q.toNat).1 == id) = false := beq_eq_false_iff_ne.2 hd
          rw [if_neg hd, ← eq] at hst
          obtain ⟨v', w3, hrn, p1, p2, p3, p4⟩ := push_own (at_ S q.toNat) r2 r3.size (Nat.le_trans (rm_le _ _) (by rw [List.length_take]; have := HL.out; omega))
          have HN : Hid (w3.ownsRow w.heap.size 43 2 v' (rm id (S.take (qn + 1))).length (dcs (rm id (S.take (qn + 1)))) ∧ Below w.heap.size w w3) := by
            rw [hst, eq]
            rw [eq] at p1
            refine ⟨p1, ?_⟩
            have := p2.below (n := w.heap.size) r3.size (fun k hk => (r2.lt k (by simpa using hk)).1)
            exact r3.trans this
          have HQ := hidden r1
          have HR3 := hidden hrn
          generalize (at_ S q.toNat).1 = dd at k1 hd' HR3
          generalize (at_ S q.toNat).2 = tm at k2 HR3
          generalize hgl : (rm id (S.take qn)).length = ln at HR3
          clear r1 r2 r3 hqn eq hd HR hst hgl p1 p2 p3 hrn
          go_wp2_with (at_builtin; refine Rg.wpList_app rfl _ _ 26 rfl rfl rfl HR3.out ?_)
          go_roundw
          case rel => exact ⟨_, qn + 1, rfl, ⟨by have := HQ.out; omega, HN.out⟩, by omega, by omega⟩
          case measure => simp [intOf]; omega
      · have hq : S.take qn = S := List.take_of_length_le (by have := HL.out; omega)
        rw [hq] at r2
        have HF := hidden (FIN.out _ _ r3 r2)
        have f0 := (H1.out.later r3).frozen 0
        obtain ⟨ln, hln⟩ : ∃ ln, ln = (rm id (S.take qn)).length := ⟨_, rfl⟩
        have hln' : ln = (rm id S).length := by rw [hln, hq]
        rw [← hln'] at HF
        rw [← hln]
        have HLN := hidden hln'
        clear r1 r2 r3 hq HR hln hln'
        go_wp2
        go_ret2
        refine ⟨?_, HF.out⟩
        rw [← HLN.out]
        simp

theorem info_due_parts : ∃ i, Try.prog.info? 43 = some i := by
  obtain ⟨i, hi, _⟩ := info_parts info_due
  exact ⟨i, hi⟩
/-- rows one behind the other -/
theorem app_rows {w : World} {base : Nat} {v : Value} {T Y : List D} {g off c : Nat} (h : w.ownsRow base 43 2 v T.length (dcs T)) (hb : base ≤ w.heap.size) (hv : v.ownBlock ≠ none) (hl : T.length + Y.length ≤ 1000000)
    (hc : ∀ j, j < Y.length → w.cell? ⟨g, off + j * 2, none⟩ = some (.int .i64 (at_ Y j).1) ∧ w.cell? ⟨g, off + j * 2 + 1, none⟩ = some (.int .i64 (at_ Y j).2)) :
    ∃ v' w', (Builtin.append_ #[26, 26] 26 #[v, .slice (some ⟨g, off, none⟩) Y.length c]).run Try.prog w = .ok v' w' ∧ w'.ownsRow base 43 2 v' (T ++ Y).length (dcs (T ++ Y)) ∧ Only v.ownBlock.toList w w' ∧ (v'.ownBlock = v.ownBlock ∨ v'.ownBlock = some w.heap.size) ∧ v'.ownBlock ≠ none := by
  obtain ⟨v', w', hr, g1, g2, g3⟩ := Ba.append_at (P := Try.prog) (ty := 26) (m := Y.length) (c := c) (ad := ⟨g, off, none⟩) (news := dcs Y) Try.underlying26 info_due rfl (by decide) h (dcs_len Y)
    (fun j u hj => by
      have hjl : j < Y.length * 2 := by rw [← dcs_len]; exact (List.getElem?_eq_some_iff.1 hj).1
      have e : (⟨g, off, none⟩ : Addr).add j = ⟨g, off + j, none⟩ := by unfold Addr.add; split <;> simp_all
      rw [e]
      obtain ⟨q1, q2⟩ := dcs_at Y (j / 2) (by omega)
      obtain ⟨c1, c2⟩ := hc (j / 2) (by omega)
      rcases Nat.mod_two_eq_zero_or_one j with em | em
      · rw [show j = j / 2 * 2 by omega] at hj ⊢
        rw [q1] at hj
        exact c1.trans hj
      · rw [show j = j / 2 * 2 + 1 by omega] at hj ⊢
        rw [q2] at hj
        rw [← Nat.add_assoc]
        exact c2.trans hj)
    (by
      intro u hu
      obtain ⟨d, _, hm⟩ := List.mem_flatMap.1 hu
      simp only [dc, List.mem_cons, List.not_mem_nil, or_false] at hm
      rcases hm with rfl | rfl <;> rfl) (.inr hv) (by unfold maxLen; omega) (by omega) hb
  refine ⟨v', w', hr, by rw [dcs_app, List.length_append]; exact g1, Only.grown g2 (by intro k hk; simp [hk]), g3, ?_⟩
  rcases g3 with e | e
  · rw [e]; exact hv
  · rw [e]; simp
theorem at_drop {X : List D} {n j : Nat} : at_ (X.drop n) j = at_ X (n + j) := by
  unfold at_
  rw [List.getD_eq_getElem?_getD, List.getD_eq_getElem?_getD, List.getElem?_drop]
theorem new_row (w : World) (base : Nat) (hb : base ≤ w.heap.size) : (w.alloc (.cells #[] 43)).ownsRow base 43 2 (.slice (some ⟨w.heap.size, 0, none⟩) 0 0) ([] : List D).length (dcs []) := World.ownsRow_made w #[] 0 hb (by unfold maxLen; omega) rfl
/-- all of the first ones are due -/
def DueYet (now : Int) (S : List D) (n : Nat) : Prop := ∀ j, j < n → (at_ S j).2 ≤ now
theorem due_split {now : Int} {S : List D} {n : Nat} (h : DueYet now S n) (hn : n ≤ S.length) (he : n = S.length ∨ ¬ (at_ S n).2 ≤ now) : told now S = S.take n ∧ rest now S = S.drop n := by
  have := split_due (now := now) (T := S.take n) (S := S.drop n) (fun x hx => by
    obtain ⟨j, hj, rfl⟩ := List.mem_iff_getElem.1 hx
    rw [List.length_take] at hj
    have h1 := h j (by omega)
    unfold at_ at h1
    rw [List.getD_eq_getElem?_getD, List.getElem?_eq_getElem (by omega)] at h1
    rw [List.getElem_take]
    exact h1) (fun x hx => by
    rw [List.getElem?_drop, Nat.add_zero] at hx
    rcases he with e | e
    · rw [List.getElem?_eq_none (by omega)] at hx; cases hx
    · have hl := (List.getElem?_eq_some_iff.1 hx).1
      rw [at_get hl] at hx
      cases hx
      exact e)
  rw [List.take_append_drop] at this
  exact this
/-- what the document's Due leaves -/
def RDueO (w : World) (r : Nat) (S : List D) (last now : Int) (F : List Nat) (e : Ending) (w' : World) : Prop :=
  ∃ tv T, e = .returned (.tuple #[tv, .int .i64 (dueE now last)]) ∧ w'.ownsRow w.heap.size 43 2 tv T.length (dcs T) ∧ ∃ F', (∀ k, tv.ownBlock = some k → k ∉ F') ∧
    ((dueE now last = 80 ∧ T = [] ∧ RT w' r S last F') ∨ (dueE now last = 0 ∧ T = told now S ∧ RT w' r (rest now S) now F')) ∧ Only F w w' ∧ In F F' w
end Go.Proofs.Ytinhhfnknlmdgaa.Tm
