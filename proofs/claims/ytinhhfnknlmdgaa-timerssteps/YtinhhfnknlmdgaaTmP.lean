/-
  The document's Due and Set of timers.
  Conditions: the list lies in memory, at most 4096 timers.
-/
import Derived.Test.YtinhhfnknlmdgaaTmQ
namespace Go.Proofs.Ytinhhfnknlmdgaa.Tm
open Go.RowKit Go.Sort Go.ChangeShapes Go.WideShapes Go.ChangeAt
open Ba (hidden Only In Has own_ne own_stay own_len own_some own_mono cell_lt heap_lt)
set_option linter.unusedVariables false

theorem RT.setNow {w : World} {r : Nat} {S : List D} {now now' : Int} {v : Value} (h1 : Has w r #[v, .int .i64 now] 28) (h2 : Own w v S) : Has (w.setCell ⟨r, 1, none⟩ (.int .i64 now')) r #[v, .int .i64 now'] 28 ∧ Own (w.setCell ⟨r, 1, none⟩ (.int .i64 now')) v S ∧ Only [r] w (w.setCell ⟨r, 1, none⟩ (.int .i64 now')) := by
  have ho : Only [r] w (w.setCell ⟨r, 1, none⟩ (.int .i64 now')) := Only.setCell w (p := ⟨r, 1, none⟩) (by simp) _
  exact ⟨h1.set 1 _, own_stay h2 ho (fun k hk => by simp; exact fun e => own_ne h2 h1 (by decide) k hk e.symm), ho⟩
/-- both rows made, the list set -/
theorem rdue_fin {w w1 w2 w3 : World} {r : Nat} {S : List D} {last now : Int} {v tv v2 : Value} {n : Nat} (h1 : Has w1 r #[v, .int .i64 now] 28) (ho : Only [r] w w1) (hsz : w1.heap.size = w.heap.size) (hl : S.length ≤ 4096)
    (p1 : w2.ownsRow w.heap.size 43 2 tv (S.take n).length (dcs (S.take n))) (b1 : Below w1.heap.size w1 w2) (p2 : w3.ownsRow w2.heap.size 43 2 v2 (S.drop n).length (dcs (S.drop n))) (b2 : Below w2.heap.size w2 w3) (he : dueE now last = 0) (ht : told now S = S.take n) (hr : rest now S = S.drop n) :
    RDueO w r S last now (r :: v.ownBlock.toList) (.returned (.tuple #[tv, .int .i64 0])) (w3.setCell ⟨r, 0, none⟩ v2) := by
  have hB : Below w1.heap.size w1 w3 := b1.trans (b2.mono b1.size)
  have h3 := h1.later hB
  have oS : Only [r] w3 (w3.setCell ⟨r, 0, none⟩ v2) := Only.setCell w3 (p := ⟨r, 0, none⟩) (by simp) _
  have p1' := own_stay p1 (Only.of_below (F := []) b2) (by simp)
  refine ⟨tv, S.take n, by rw [he], own_stay p1' oS (fun k hk => by simp; exact fun e => own_ne p1' h3 (by decide) k hk e.symm), r :: v2.ownBlock.toList, ?_, .inr ⟨he, ht.symm, v2, rfl, h3.set 0 _, ?_, ?_⟩, ?_, ?_⟩
  · intro k hk hf
    rcases List.mem_cons.1 hf with e | hf
    · exact own_ne p1' h3 (by decide) k hk e.symm
    · have a1 := (p1.lt k hk).2
      have a2 := (p2.lt k (by simpa using hf)).1
      omega
  · rw [hr]
    exact own_stay (own_mono p2 (fun k _ => Nat.zero_le _)) oS (fun k hk => by simp; exact fun e => own_ne p2 h3 (by decide) k hk e.symm)
  · rw [hr, List.length_drop]; omega
  · exact ((ho.mono (by simp)).then (Only.of_below hB)).then (oS.mono (by simp))
  · intro k hk
    rcases List.mem_cons.1 hk with rfl | hk
    · exact .inl (by simp)
    · have := (p2.lt k (by simpa using hk)).1
      have := b1.size
      exact .inr (by omega)
set_option maxHeartbeats 2000000 in
set_option maxRecDepth 20000 in
theorem rdue {w : World} {r : Nat} {S : List D} {last : Int} {F : List Nat} (h : RT w r S last F) (now : Int) : Calls Try.prog 27 #[.pointer (some ⟨r, 0, none⟩), .int .i64 now] w fun e w' => RDueO w r S last now F e w' := by
  have N := hidden (rTime now w)
  have HRT := hidden h
  obtain ⟨v, rfl, h1, h2, h3⟩ := h
  have c0 := h1.cell 0 rfl
  have c1 := h1.cell 1 rfl
  have f1 := h1.frozen 1
  have bad : Hid (dueE now last = 80 → RDueO w r S last now (r :: v.ownBlock.toList) (.returned (.tuple #[.slice none 0 0, .int .i64 80])) w) := fun he => ⟨_, [], by rw [he], World.ownsRow_nil _ _ _ _, _, fun k hk => (by cases hk), .inl ⟨he, rfl, HRT.out⟩, Only.refl _ _, In.refl _ _⟩
  cases htm : okTime now with
  | false =>
    have HE : Hid (dueE now last = 80) := by unfold Hid dueE; rw [htm]; rfl
    rw [htm] at N
    clear h1 h2 h3 htm
    go_enter Try.func27, Try.ntmps27
    go_wp2_with fail
    refine Calls.mono N.out ?_
    rintro e w' ⟨rfl, rfl⟩
    go_wp2
    go_ret2
    exact bad.out HE.out
  | true =>
    rw [htm] at N
    by_cases hlt : now < last
    · have HE : Hid (dueE now last = 80) := by unfold Hid dueE; rw [htm, decide_eq_false (by omega)]; rfl
      clear h1 h2 h3 htm
      go_enter Try.func27, Try.ntmps27
      go_wp2_with fail
      refine Calls.mono N.out ?_
      rintro e w' ⟨rfl, rfl⟩
      go_wp2
      go_ret2
      exact bad.out HE.out
    · have HE : Hid (dueE now last = 0) := by unfold Hid dueE; rw [htm, decide_eq_true (by omega)]; rfl
      obtain ⟨g1, g2, g3⟩ := RT.setNow (now' := now) h1 h2
      obtain ⟨a, cap, hv⟩ := own_len h2
      have H1 := hidden g1
      have H2 := hidden g2
      have H3 := hidden g3
      have HV := hidden hv
      have hr := h1.lt
      obtain ⟨l, hl⟩ : ∃ l, l = S.length := ⟨_, rfl⟩
      have HL := hidden hl
      have i1 : (l : Int) ≤ 4096 := by omega
      obtain ⟨W1, hW1⟩ : ∃ W1, W1 = w.setCell ⟨r, 1, none⟩ (.int .i64 now) := ⟨_, rfl⟩
      have HW1 := hidden hW1
      have hs1 : W1.heap.size = w.heap.size := by rw [hW1]; simp [World.setCell]
      rw [← hW1] at H1 H2 H3
      have c0' : W1.cell? ⟨r, 0, none⟩ = some (.slice a l cap) := by rw [hl, ← hv]; exact H1.out.cell 0 rfl
      have HS1 := hidden hs1
      clear h1 h2 h3 htm g1 g2 g3 hv hl hW1 hs1 bad
      go_enter Try.func27, Try.ntmps27
      go_wp2_with fail
      refine Calls.mono N.out ?_
      rintro e w' ⟨rfl, rfl⟩
      go_wp2_with fail
      rw [← HW1.out]
      clear c0 c1 f1
      go_loopw [6] (fun i wr => ∃ (q : Int) (qn : Nat), i = .int .i64 q ∧ Hid (q = qn ∧ DueYet now S qn) ∧ 0 ≤ q ∧ q ≤ (l : Int) ∧ wr = W1) (fun i _ => l - (intOf i).toNat)
      case atStart => exact ⟨0, 0, rfl, ⟨rfl, fun j hj => by omega⟩, by omega, by omega, rfl⟩
      case round =>
        obtain ⟨q, qn, rfl, HR, j1, j2, rfl⟩ := hrel
        obtain ⟨r1, r2⟩ := HR.out
        have tail : Hid (told now S = S.take qn → rest now S = S.drop qn → True) := fun _ _ => trivial
        by_cases hql : q < (l : Int)
        · have hqn : qn < S.length := by have := HL.out; omega
          obtain ⟨g, cap', e, hg, hcap, _⟩ := H2.out.get hqn
          have hgv := e
          rw [HV.out] at e
          cases e
          rw [hgv] at H2
          obtain ⟨k1, k2, _⟩ := H2.out.cell hqn
          have eq : qn = q.toNat := by omega
          rw [eq] at k1 k2
          by_cases hd : (at_ S q.toNat).2 ≤ now
          · have HN : Hid (DueYet now S (qn + 1)) := fun j hj => by
              by_cases e : j = qn
              · rw [e, eq]; exact hd
              · exact r2 j (by omega)
            have HQ := hidden r1
            generalize (at_ S q.toNat).1 = dd at k1
            generalize (at_ S q.toNat).2 = tm at k2 hd
            clear r1 r2 hqn eq HR
            go_wp2
            go_roundw
            case rel => exact ⟨_, qn + 1, rfl, ⟨by have := HQ.out; omega, HN.out⟩, by omega, by omega, by trivial⟩
            case measure => simp [intOf]; omega
          · have hqn' := hqn
            have hcap' : l ≤ cap := by rw [HL.out]; exact hcap
            have hTk := (due_split r2 (by have := HL.out; omega) (.inr (by rw [eq]; exact hd))).1
            have hDr := (due_split r2 (by have := HL.out; omega) (.inr (by rw [eq]; exact hd))).2
            have hlt1 : (S.take qn).length = q.toNat := by rw [List.length_take]; have := HL.out; omega
            have hld1 : (S.drop qn).length = l - q.toNat := by rw [List.length_drop, HL.out]; omega
            have hb1 : w.heap.size ≤ wr.heap.size := by rw [HS1.out]; exact Nat.le_refl _
            have hBa : Below wr.heap.size wr (wr.alloc (.cells #[] 43)) := (Below.refl _ wr).alloc (Nat.le_refl _) _
            obtain ⟨tv, w2, hr1, p1, p2, p3, p4⟩ := app_rows (T := []) (Y := S.take qn) (g := g) (off := 0) (c := cap) (new_row wr w.heap.size hb1) (by simp; omega) (by simp [Value.ownBlock]) (by rw [hlt1]; simp; omega) (fun j hj => by
              rw [hlt1] at hj
              obtain ⟨m1, m2, _⟩ := H2.out.cell (i := j) (by have := HL.out; omega)
              rw [at_take (by omega), Nat.zero_add]
              exact ⟨(hBa.cell (p := ⟨g, j * 2, none⟩) hg).trans m1, (hBa.cell (p := ⟨g, j * 2 + 1, none⟩) hg).trans m2⟩)
            rw [hlt1] at hr1
            rw [List.nil_append] at p1
            have hB2 : Below wr.heap.size wr w2 := hBa.trans (p2.below (n := wr.heap.size) (by simp) (fun k hk => by simp [Value.ownBlock] at hk; omega))
            have c2 := (hB2.cell (p := ⟨r, 0, none⟩) (by rw [HS1.out]; exact hr)).trans c0'
            have hBb : Below w2.heap.size w2 (w2.alloc (.cells #[] 43)) := (Below.refl _ w2).alloc (Nat.le_refl _) _
            obtain ⟨o9, ho9⟩ : ∃ o9, o9 = if cap = q.toNat then 0 else q.toNat * 2 := ⟨_, rfl⟩
            have hif := trivial
            have hg2 : g < w2.heap.size := Nat.lt_of_lt_of_le hg hB2.size
            obtain ⟨v2, w3, hr2, q1, q2, q3, q4⟩ := app_rows (T := []) (Y := S.drop qn) (g := g) (off := o9) (c := cap - q.toNat) (new_row w2 w2.heap.size (Nat.le_refl _)) (by simp) (by simp [Value.ownBlock]) (by rw [hld1]; simp; omega) (fun j hj => by
              rw [hld1] at hj
              obtain ⟨m1, m2, _⟩ := H2.out.cell (i := qn + j) (by have := HL.out; omega)
              rw [at_drop, ho9, if_neg (by omega), show q.toNat * 2 + j * 2 = (qn + j) * 2 by omega]
              exact ⟨(hBb.cell (p := ⟨g, (qn + j) * 2, none⟩) hg2).trans ((hB2.cell (p := ⟨g, (qn + j) * 2, none⟩) hg).trans m1), (hBb.cell (p := ⟨g, (qn + j) * 2 + 1, none⟩) hg2).trans ((hB2.cell (p := ⟨g, (qn + j) * 2 + 1, none⟩) hg).trans m2)⟩)
            rw [hld1] at hr2
            rw [List.nil_append] at q1
            have hB3 : Below w2.heap.size w2 w3 := hBb.trans (q2.below (n := w2.heap.size) (by simp) (fun k hk => by simp [Value.ownBlock] at hk; omega))
            have HFIN := hidden (rdue_fin (last := last) (v := v) (n := qn) H1.out H3.out HS1.out (by have := HL.out; omega) p1 hB2 q1 hB3 HE.out hTk hDr)
            have hx := H1.out.later (hB2.trans (hB3.mono hB2.size))
            have cs0 := hx.cell 0 rfl
            rw [show (#[v, .int .i64 now] : Array Value)[0] = .slice (some ⟨g, 0, none⟩) l cap by rw [HL.out]; exact HV.out] at cs0
            have fs0 := hx.frozen 0
            obtain ⟨va2, vc2, hv2⟩ := own_len q1
            have HRA := hidden hr1
            rw [ho9, if_neg (by omega)] at hr2
            have HRB := hidden hr2
            have i4 : q ≤ (cap : Int) := by omega
            obtain ⟨ln2, hln2⟩ : ∃ ln2, ln2 = (S.drop qn).length := ⟨_, rfl⟩
            rw [← hln2] at hv2
            subst hv2
            have hx3 := hB3.size
            have hrw : r < wr.heap.size := by rw [HS1.out]; exact hr
            have hrw2 : r < w2.heap.size := Nat.lt_of_lt_of_le hrw hB2.size
            clear r1 r2 HR hTk hDr hlt1 hld1 hb1 hBa hr1 p1 p2 p3 p4 hB2 hBb ho9 hr2 q1 q2 q3 q4 hB3 hx hln2 H1 H2 H3 hg2
            generalize (at_ S q.toNat).1 = dd at k1
            generalize (at_ S q.toNat).2 = tm at k2 hd
            clear eq hqn hgv
            go_upto_region 7 with fail
            go_upto_region 8 with (at_builtin; refine Rg.wpList_app rfl _ _ 26 rfl rfl rfl HRA.out ?_; clear HRA)
            go_wp2_with (at_builtin; refine Rg.wpList_app rfl _ _ 26 rfl rfl rfl HRB.out ?_; clear HRB)
            go_ret2
            exact HFIN.out
        · rcases H2.out.2 with ⟨hgv, hl0⟩ | ⟨g, cap', cur, hgv, _, hgg, hcap, _⟩
          · have e := hgv
            rw [HV.out] at e
            simp only [Value.slice.injEq] at e
            obtain ⟨rfl, _, rfl⟩ := e
            have hTk := (due_split r2 (by have := HL.out; omega) (.inl (by have := HL.out; omega))).1
            have hDr := (due_split r2 (by have := HL.out; omega) (.inl (by have := HL.out; omega))).2
            have hlt1 : (S.take qn).length = q.toNat := by rw [List.length_take]; have := HL.out; omega
            have hld1 : (S.drop qn).length = l - q.toNat := by rw [List.length_drop, HL.out]; omega
            have hb1 : w.heap.size ≤ wr.heap.size := by rw [HS1.out]; exact Nat.le_refl _
            have hS0 : S = [] := List.eq_nil_of_length_eq_zero hl0
            have hl0' : l = 0 := by rw [HL.out]; exact hl0
            have hq0 : q = 0 := by omega
            have hBa : Below wr.heap.size wr (wr.alloc (.cells #[] 43)) := (Below.refl _ wr).alloc (Nat.le_refl _) _
            have n1 := new_row wr w.heap.size hb1
            have hBb : Below (wr.alloc (.cells #[] 43)).heap.size (wr.alloc (.cells #[] 43)) ((wr.alloc (.cells #[] 43)).alloc (.cells #[] 43)) := (Below.refl _ _).alloc (Nat.le_refl _) _
            have n2 := new_row (wr.alloc (.cells #[] 43)) (wr.alloc (.cells #[] 43)).heap.size (Nat.le_refl _)
            obtain ⟨i0, hi0⟩ := info_due_parts
            have HRA := hidden (run_append_owned_none (P := Try.prog) (w := _) w.heap.size 26 26 43 i0 2 Try.underlying26 hi0 _ _ _ n1)
            have HRB := hidden (run_append_owned_none (P := Try.prog) (w := _) (wr.alloc (.cells #[] 43)).heap.size 26 26 43 i0 2 Try.underlying26 hi0 _ _ _ n2)
            have HFIN := hidden (rdue_fin (last := last) (v := v) (n := qn) (S := S) H1.out H3.out HS1.out (by have := HL.out; omega) (by rw [hS0, List.take_nil]; exact n1) hBa (by rw [hS0, List.drop_nil]; exact n2) hBb HE.out hTk hDr)
            have hx := H1.out.later (hBa.trans (hBb.mono hBa.size))
            have cs0 := H1.out.cell 0 rfl
            rw [show (#[v, .int .i64 now] : Array Value)[0] = .slice none 0 0 from hgv] at cs0
            have fs0 := H1.out.frozen 0
            have hrw : r < wr.heap.size := by rw [HS1.out]; exact hr
            simp only [World.size_alloc] at HRB HFIN
            rw [World.setCell_alloc_past _ _ _ _ (by simp; omega), World.setCell_alloc_past _ _ _ _ hrw] at HFIN
            subst hq0
            subst hl0'
            clear cs0
            clear r1 r2 HR hTk hDr hlt1 hld1 hb1 hBa hBb n1 n2 hx H1 H2 H3 hgv hS0 hi0 hl0
            go_upto_region 7 with fail
            go_upto_region 8 with (at_builtin; refine Rg.wpList_app rfl _ _ 26 rfl rfl rfl HRA.out ?_; clear HRA)
            go_wp2_with (at_builtin; refine Rg.wpList_app rfl _ _ 26 rfl rfl rfl HRB.out ?_; clear HRB)
            go_ret2
            exact HFIN.out
          · have e := hgv
            rw [HV.out] at e
            cases e
            rw [hgv] at H2
            have hg := heap_lt hgg
            have hcap' : l ≤ cap := by rw [HL.out]; exact hcap
            have hTk := (due_split r2 (by have := HL.out; omega) (.inl (by have := HL.out; omega))).1
            have hDr := (due_split r2 (by have := HL.out; omega) (.inl (by have := HL.out; omega))).2
            have hlt1 : (S.take qn).length = q.toNat := by rw [List.length_take]; have := HL.out; omega
            have hld1 : (S.drop qn).length = l - q.toNat := by rw [List.length_drop, HL.out]; omega
            have hb1 : w.heap.size ≤ wr.heap.size := by rw [HS1.out]; exact Nat.le_refl _
            have hBa : Below wr.heap.size wr (wr.alloc (.cells #[] 43)) := (Below.refl _ wr).alloc (Nat.le_refl _) _
            obtain ⟨tv, w2, hr1, p1, p2, p3, p4⟩ := app_rows (T := []) (Y := S.take qn) (g := g) (off := 0) (c := cap) (new_row wr w.heap.size hb1) (by simp; omega) (by simp [Value.ownBlock]) (by rw [hlt1]; simp; omega) (fun j hj => by
              rw [hlt1] at hj
              obtain ⟨m1, m2, _⟩ := H2.out.cell (i := j) (by have := HL.out; omega)
              rw [at_take (by omega), Nat.zero_add]
              exact ⟨(hBa.cell (p := ⟨g, j * 2, none⟩) hg).trans m1, (hBa.cell (p := ⟨g, j * 2 + 1, none⟩) hg).trans m2⟩)
            rw [hlt1] at hr1
            rw [List.nil_append] at p1
            have hB2 : Below wr.heap.size wr w2 := hBa.trans (p2.below (n := wr.heap.size) (by simp) (fun k hk => by simp [Value.ownBlock] at hk; omega))
            have c2 := (hB2.cell (p := ⟨r, 0, none⟩) (by rw [HS1.out]; exact hr)).trans c0'
            have hBb : Below w2.heap.size w2 (w2.alloc (.cells #[] 43)) := (Below.refl _ w2).alloc (Nat.le_refl _) _
            obtain ⟨o9, ho9⟩ : ∃ o9, o9 = if cap = q.toNat then 0 else q.toNat * 2 := ⟨_, rfl⟩
            have hif : (if cap = q.toNat then some (⟨g, 0, none⟩ : Addr) else some ⟨g, q.toNat * 2, none⟩) = some ⟨g, o9, none⟩ := by rw [ho9]; split <;> rfl
            have hg2 : g < w2.heap.size := Nat.lt_of_lt_of_le hg hB2.size
            obtain ⟨v2, w3, hr2, q1, q2, q3, q4⟩ := app_rows (T := []) (Y := S.drop qn) (g := g) (off := o9) (c := cap - q.toNat) (new_row w2 w2.heap.size (Nat.le_refl _)) (by simp) (by simp [Value.ownBlock]) (by rw [hld1]; simp; omega) (fun j hj => by
              rw [hld1] at hj
              obtain ⟨m1, m2, _⟩ := H2.out.cell (i := qn + j) (by have := HL.out; omega)
              rw [at_drop, ho9, if_neg (by omega), show q.toNat * 2 + j * 2 = (qn + j) * 2 by omega]
              exact ⟨(hBb.cell (p := ⟨g, (qn + j) * 2, none⟩) hg2).trans ((hB2.cell (p := ⟨g, (qn + j) * 2, none⟩) hg).trans m1), (hBb.cell (p := ⟨g, (qn + j) * 2 + 1, none⟩) hg2).trans ((hB2.cell (p := ⟨g, (qn + j) * 2 + 1, none⟩) hg).trans m2)⟩)
            rw [hld1] at hr2
            rw [List.nil_append] at q1
            have hB3 : Below w2.heap.size w2 w3 := hBb.trans (q2.below (n := w2.heap.size) (by simp) (fun k hk => by simp [Value.ownBlock] at hk; omega))
            have HFIN := hidden (rdue_fin (last := last) (v := v) (n := qn) H1.out H3.out HS1.out (by have := HL.out; omega) p1 hB2 q1 hB3 HE.out hTk hDr)
            have hx := H1.out.later (hB2.trans (hB3.mono hB2.size))
            have cs0 := hx.cell 0 rfl
            rw [show (#[v, .int .i64 now] : Array Value)[0] = .slice (some ⟨g, 0, none⟩) l cap by rw [HL.out]; exact HV.out] at cs0
            have fs0 := hx.frozen 0
            obtain ⟨va2, vc2, hv2⟩ := own_len q1
            have HRA := hidden hr1
            have HRB := hidden hr2
            have i4 : q ≤ (cap : Int) := by omega
            obtain ⟨ln2, hln2⟩ : ∃ ln2, ln2 = (S.drop qn).length := ⟨_, rfl⟩
            rw [← hln2] at hv2
            subst hv2
            have hx3 := hB3.size
            have hrw : r < wr.heap.size := by rw [HS1.out]; exact hr
            have hrw2 : r < w2.heap.size := Nat.lt_of_lt_of_le hrw hB2.size
            clear r1 r2 HR hTk hDr hlt1 hld1 hb1 hBa hr1 p1 p2 p3 p4 hB2 hBb ho9 hr2 q1 q2 q3 q4 hB3 hx hln2 H1 H2 H3 hg2
            clear hgv
            go_upto_region 7 with fail
            go_upto_region 8 with (at_builtin; refine Rg.wpList_app rfl _ _ 26 rfl rfl rfl HRA.out ?_; clear HRA)
            go_wp2_with (at_builtin; refine Rg.wpList_app rfl _ _ 26 rfl rfl rfl HRB.out ?_; clear HRB)
            go_ret2
            exact HFIN.out
end Go.Proofs.Ytinhhfnknlmdgaa.Tm
