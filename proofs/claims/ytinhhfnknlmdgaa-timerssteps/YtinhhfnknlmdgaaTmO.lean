/-
  The document's Set of timers.
  Conditions: the list lies in memory, at most 4096 timers.
-/
import Derived.Test.YtinhhfnknlmdgaaTmP
namespace Go.Proofs.Ytinhhfnknlmdgaa.Tm
open Go.RowKit Go.Sort Go.ChangeShapes Go.WideShapes Go.ChangeAt
open Ba (hidden Only In Has own_ne own_stay own_len own_some own_mono cell_lt heap_lt)
set_option linter.unusedVariables false

/-- the first ones stand ahead of it -/
def KeyYet (d : D) (S : List D) (n : Nat) : Prop := ∀ j, j < n → key (at_ S j) < key d
theorem ins_split {d : D} {S : List D} {n : Nat} (h : KeyYet d S n) (hn : n ≤ S.length) (he : n = S.length ∨ ¬ key (at_ S n) < key d) : ins d S = S.take n ++ d :: S.drop n := by
  have key2 : ∀ (T U : List D), (∀ x ∈ T, key x < key d) → (∀ x, U[0]? = some x → ¬ key x < key d) → ins d (T ++ U) = T ++ d :: U := by
    intro T
    induction T with
    | nil =>
      intro U _ h2
      cases U with
      | nil => rfl
      | cons x U =>
        have := h2 x rfl
        unfold ins
        rw [List.nil_append, List.takeWhile_cons_of_neg (by simpa using this), List.dropWhile_cons_of_neg (by simpa using this)]
    | cons y T ih =>
      intro U h1 h2
      have hy := h1 y (by simp)
      have := ih U (fun x hx => h1 x (List.mem_cons_of_mem _ hx)) h2
      unfold ins at this ⊢
      rw [List.cons_append, List.takeWhile_cons_of_pos (by simpa using hy), List.dropWhile_cons_of_pos (by simpa using hy), List.cons_append, this]; rfl
  have := key2 (S.take n) (S.drop n) (fun x hx => by
    obtain ⟨j, hj, rfl⟩ := List.mem_iff_getElem.1 hx
    rw [List.length_take] at hj
    have h1 := h j (by omega)
    unfold at_ at h1
    rw [List.getD_eq_getElem?_getD, List.getElem?_eq_getElem (by omega)] at h1
    rw [List.getElem_take]
    exact h1) (fun x hx => by
    rw [List.getElem?_drop, Nat.add_zero] at hx
    rcases he with e | e
    · rw [List.getElem?_eq_none (by omega)] at hx; cases hx
    · have hl := (List.getElem?_eq_some_iff.1 hx).1
      rw [at_get hl] at hx
      cases hx
      exact e)
  rw [List.take_append_drop] at this
  exact this
theorem key_of {x : D} {id due : Int} (h : (0 ≤ x.1 ∧ x.1 < 4096)) (hi : 0 ≤ id ∧ id < 4096) : key x < key (id, due) ↔ x.2 < due ∨ (x.2 = due ∧ x.1 < id) := by
  unfold key
  simp only
  omega
-- the document's Set
set_option maxHeartbeats 2000000 in
set_option maxRecDepth 20000 in
theorem rset {w : World} {r : Nat} {S : List D} {now : Int} {F : List Nat} (h : RT w r S now F) (id due : Int) (hk : ∀ d ∈ S, Ok d) (hln : (setS id due S).length ≤ 4096) : Calls Try.prog 25 #[.pointer (some ⟨r, 0, none⟩), .int .i64 id, .int .i64 due] w fun e w' => e = .returned (.int .i64 (setE id due)) ∧ RTO w w' r (setS id due S) now F := by
  have N := hidden (rID id w)
  have T := hidden (rTime due w)
  have same : Hid (RTO w w r S now F) := ⟨_, h, Only.refl _ _, In.refl _ _⟩
  cases hid : okId id with
  | false =>
    rw [show setE id due = 1 by unfold setE; rw [hid]; rfl, show setS id due S = S by unfold setS; rw [hid]; rfl]
    rw [hid] at N
    clear h hid hk hln
    go_enter Try.func25, Try.ntmps25
    go_wp2_with fail
    refine Calls.mono N.out ?_
    rintro e w' ⟨rfl, rfl⟩
    go_wp2
    go_ret
    exact ⟨rfl, same.out⟩
  | true =>
    rw [hid] at N
    cases htm : okTime due with
    | false =>
      rw [show setE id due = 80 by unfold setE; rw [hid, htm]; rfl, show setS id due S = S by unfold setS; rw [hid, htm]; rfl]
      rw [htm] at T
      clear h hid htm hk hln
      go_enter Try.func25, Try.ntmps25
      go_wp2_with fail
      refine Calls.mono N.out ?_
      rintro e w' ⟨rfl, rfl⟩
      go_wp2_with fail
      refine Calls.mono T.out ?_
      rintro e w' ⟨rfl, rfl⟩
      go_wp2
      go_ret
      exact ⟨rfl, same.out⟩
    | true =>
      have hse : setS id due S = ins (id, due) (rm id S) := by unfold setS; rw [hid, htm]; rfl
      rw [show setE id due = 0 by unfold setE; rw [hid, htm]; rfl, hse]
      rw [hse] at hln
      rw [htm] at T
      have hidr : 0 ≤ id ∧ id < 4096 := of_decide_eq_true hid
      have ST := hidden (rstop h id)
      rw [show stopS id S = rm id S by unfold stopS; rw [hid]; rfl] at ST
      generalize stopB id S = was at ST
      generalize stopE id = code at ST
      have HK2 : Hid (∀ d ∈ rm id S, Ok d) := fun d hd => hk d (mem_rm.1 hd).1
      obtain ⟨S2, hS2⟩ : ∃ S2, S2 = rm id S := ⟨_, rfl⟩
      rw [← hS2] at hln HK2 ST ⊢
      have HLN := hidden hln
      clear h hid htm hk hln hse same hS2
      go_enter Try.func25, Try.ntmps25
      go_wp2_with fail
      refine Calls.mono N.out ?_
      rintro e w' ⟨rfl, rfl⟩
      go_wp2_with fail
      refine Calls.mono T.out ?_
      rintro e w' ⟨rfl, rfl⟩
      go_wp2_with fail
      refine Calls.mono ST.out ?_
      rintro e w1 ⟨rfl, F1, ⟨v, rfl, h1, h2, h3⟩, o1, in1⟩
      have FIN : Hid (∀ w', RTO w1 w' r (ins (id, due) S2) now (r :: v.ownBlock.toList) → RTO w w' r (ins (id, due) S2) now F) := fun w' hh => by
        obtain ⟨F2, g1, g2, g3⟩ := hh
        exact ⟨F2, g1, o1.trans g2 in1, in1.trans g3 o1.size⟩
      obtain ⟨a, cap, hv⟩ := own_len h2
      have H1 := hidden h1
      have H2 := hidden h2
      have HV := hidden hv
      have hrw0 := h1.lt
      obtain ⟨l, hl⟩ : ∃ l, l = S2.length := ⟨_, rfl⟩
      have HL := hidden hl
      have i1 : (l : Int) ≤ 4096 := by omega
      have c0 : w1.cell? ⟨r, 0, none⟩ = some (.slice a l cap) := by rw [hl, ← hv]; exact h1.cell 0 rfl
      clear h1 h2 h3 o1 in1 hv hl ST N T
      go_wp2_with fail
      go_loopw [7] (fun i wr => ∃ (q : Int) (qn : Nat), i = .int .i64 q ∧ Hid (q = qn ∧ KeyYet (id, due) S2 qn) ∧ 0 ≤ q ∧ q ≤ (l : Int) ∧ wr = w1) (fun i _ => l - (intOf i).toNat)
      case atStart => exact ⟨0, 0, rfl, ⟨rfl, fun j hj => by omega⟩, by omega, by omega, rfl⟩
      case round =>
        obtain ⟨q, qn, rfl, HR, j1, j2, rfl⟩ := hrel
        obtain ⟨r1, r2⟩ := HR.out
        have c0' := c0
        have hrw := hrw0
        clear c0 hrw0
        by_cases hql : q < (l : Int)
        · have hqn : qn < S2.length := by have := HL.out; omega
          obtain ⟨g, cap', e, hg, hcap, _⟩ := H2.out.get hqn
          have hgv := e
          rw [HV.out] at e
          cases e
          rw [hgv] at H2
          obtain ⟨k1, k2, _⟩ := H2.out.cell hqn
          have eq : qn = q.toNat := by omega
          rw [eq] at k1 k2
          have hcap' : l ≤ cap := by rw [HL.out]; exact hcap
          have hky := key_of (due := due) (HK2.out _ (at_mem hqn)).1 hidr
          rw [eq] at hky
          by_cases ha : (at_ S2 q.toNat).2 < due
          · have hd : key (at_ S2 q.toNat) < key (id, due) := hky.2 (.inl ha)
            clear hky
            have HN : Hid (KeyYet (id, due) S2 (qn + 1)) := fun j hj => by
              by_cases e : j = qn
              · rw [e, eq]; exact hd
              · exact r2 j (by omega)
            have HQ := hidden r1
            generalize (at_ S2 q.toNat).1 = dd at *
            generalize (at_ S2 q.toNat).2 = tm at *
            clear r1 r2 hqn eq HR hgv hd
            go_wp2
            go_roundw
            case rel => exact ⟨_, qn + 1, rfl, ⟨by have := HQ.out; omega, HN.out⟩, by omega, by omega, by trivial⟩
            case measure => simp [intOf]; omega
          · by_cases hb : (at_ S2 q.toNat).2 = due
            · by_cases hc : (at_ S2 q.toNat).1 < id
              · have hd : key (at_ S2 q.toNat) < key (id, due) := hky.2 (.inr ⟨hb, hc⟩)
                have hb' : ((at_ S2 q.toNat).2 == due) = true := beq_iff_eq.2 hb
                clear hky hb
                have HN : Hid (KeyYet (id, due) S2 (qn + 1)) := fun j hj => by
                  by_cases e : j = qn
                  · rw [e, eq]; exact hd
                  · exact r2 j (by omega)
                have HQ := hidden r1
                generalize (at_ S2 q.toNat).1 = dd at *
                generalize (at_ S2 q.toNat).2 = tm at *
                clear r1 r2 hqn eq HR hgv hd
                go_wp2
                go_roundw
                case rel => exact ⟨_, qn + 1, rfl, ⟨by have := HQ.out; omega, HN.out⟩, by omega, by omega, by trivial⟩
                case measure => simp [intOf]; omega
              · have hd : ¬ key (at_ S2 q.toNat) < key (id, due) := fun h => by rcases hky.1 h with h | h; exact ha h; exact hc h.2
                have hb' : ((at_ S2 q.toNat).2 == due) = true := beq_iff_eq.2 hb
                clear hky hb
                have hIns := ins_split r2 (by have := HL.out; omega) (.inr (by rw [eq]; exact hd))
                have hlt1 : (S2.take qn).length = q.toNat := by rw [List.length_take]; have := HL.out; omega
                have hld1 : (S2.drop qn).length = l - q.toNat := by rw [List.length_drop, HL.out]; omega
                have hBa : Below wr.heap.size wr (wr.alloc (.cells #[] 43)) := (Below.refl _ wr).alloc (Nat.le_refl _) _
                obtain ⟨tv, w2, hr1, p1, p2, p3, p4⟩ := app_rows (T := []) (Y := S2.take qn) (g := g) (off := 0) (c := cap) (new_row wr wr.heap.size (Nat.le_refl _)) (by simp) (by simp [Value.ownBlock]) (by rw [hlt1]; simp; omega) (fun j hj => by
                  rw [hlt1] at hj
                  obtain ⟨m1, m2, _⟩ := H2.out.cell (i := j) (by have := HL.out; omega)
                  rw [at_take (by omega), Nat.zero_add]
                  exact ⟨(hBa.cell (p := ⟨g, j * 2, none⟩) hg).trans m1, (hBa.cell (p := ⟨g, j * 2 + 1, none⟩) hg).trans m2⟩)
                rw [hlt1] at hr1
                rw [List.nil_append] at p1
                have hB2 : Below wr.heap.size wr w2 := hBa.trans (p2.below (n := wr.heap.size) (by simp) (fun k hk => by simp [Value.ownBlock] at hk; omega))
                obtain ⟨tv3, w3, hr3, s1, s2, s3, s4⟩ := push_own (id, due) p1 hB2.size (by rw [hlt1]; omega)
                have hB3 : Below wr.heap.size wr w3 := hB2.trans (s2.below (n := wr.heap.size) hB2.size (fun k hk => (p1.lt k (by simpa using hk)).1))
                have htv3 : tv3.ownBlock ≠ none := by
                  rcases s3 with e | e
                  · rw [e]; exact p4
                  · rw [e]; simp
                obtain ⟨o9, ho9⟩ : ∃ o9, o9 = if cap = q.toNat then 0 else q.toNat * 2 := ⟨_, rfl⟩
                have hif := trivial
                obtain ⟨v4, w4, hr4, q1, q2, q3, q4⟩ := app_rows (T := S2.take qn ++ [(id, due)]) (Y := S2.drop qn) (g := g) (off := o9) (c := cap - q.toNat) s1 hB3.size htv3 (by rw [hld1, List.length_append, hlt1]; simp; omega) (fun j hj => by
                  rw [hld1] at hj
                  obtain ⟨m1, m2, _⟩ := H2.out.cell (i := qn + j) (by have := HL.out; omega)
                  rw [at_drop, ho9, if_neg (by omega), show q.toNat * 2 + j * 2 = (qn + j) * 2 by omega]
                  exact ⟨(hB3.cell (p := ⟨g, (qn + j) * 2, none⟩) hg).trans m1, (hB3.cell (p := ⟨g, (qn + j) * 2 + 1, none⟩) hg).trans m2⟩)
                rw [hld1] at hr4
                rw [List.append_assoc, List.singleton_append, ← hIns] at q1
                have hB4 : Below wr.heap.size wr w4 := hB3.trans (q2.below (n := wr.heap.size) hB3.size (fun k hk => (s1.lt k (by simpa using hk)).1))
                have c2 := (hB2.cell (p := ⟨r, 0, none⟩) hrw).trans c0'
                have c3 := (hB3.cell (p := ⟨r, 0, none⟩) hrw).trans c0'
                obtain ⟨va4, vc4, hv4⟩ := own_len q1
                obtain ⟨ln4, hln4⟩ : ∃ ln4, ln4 = (ins (id, due) S2).length := ⟨_, rfl⟩
                rw [← hln4] at hv4
                have HFIN := hidden (RT.put (S := S2) (now' := now) H1.out hB4 q1 HLN.out)
                have hx := H1.out.later hB4
                have cs0 := hx.cell 0 rfl
                rw [show (#[v, .int .i64 now] : Array Value)[0] = .slice (some ⟨g, 0, none⟩) l cap from by rw [HL.out]; exact HV.out] at cs0
                have fs0 := hx.frozen 0
                rw [hv4] at HFIN hr4
                have HRA := hidden hr1
                rw [ho9, if_neg (by omega)] at hr4
                have HRB := hidden hr3
                have HRC := hidden hr4
                have i4 : q ≤ (cap : Int) := by omega
                obtain ⟨va1, vc1, hv1⟩ := own_len p1
                rw [hlt1] at hv1
                rw [hv1] at HRA HRB
                obtain ⟨va3, vc3, hv3⟩ := own_len s1
                obtain ⟨ln3, hln3⟩ : ∃ ln3, ln3 = (S2.take qn ++ [(id, due)]).length := ⟨_, rfl⟩
                rw [← hln3] at hv3
                rw [hv3] at HRB HRC
                have hrw2 : r < w2.heap.size := Nat.lt_of_lt_of_le hrw hB2.size
                have hrw3 : r < w3.heap.size := Nat.lt_of_lt_of_le hrw hB3.size
                clear r1 r2 HR hIns hlt1 hld1 hBa hr1 p1 p2 p3 p4 hB2 hr3 s1 s2 s3 s4 hB3 htv3 ho9 hr4 q1 q2 q3 q4 hB4 hx hln4 hln3 H1 H2 hv1 hv3 hv4
                clear hd
                generalize (at_ S2 q.toNat).1 = dd at *
                generalize (at_ S2 q.toNat).2 = tm at *
                clear eq hqn hgv
                go_upto_region 9 with fail
                go_upto_region 10 with (at_builtin; refine Rg.wpList_app rfl _ _ 26 rfl rfl rfl HRA.out ?_; clear HRA)
                go_upto_region 11 with (at_builtin; refine Rg.wpList_app rfl _ _ 26 rfl rfl rfl HRB.out ?_; clear HRB)
                go_wp2_with (at_builtin; refine Rg.wpList_app rfl _ _ 26 rfl rfl rfl HRC.out ?_; clear HRC)
                go_ret
                exact ⟨rfl, FIN.out _ HFIN.out⟩
            · have hd : ¬ key (at_ S2 q.toNat) < key (id, due) := fun h => by rcases hky.1 h with h | h; exact ha h; exact hb h.1
              have hb' : ((at_ S2 q.toNat).2 == due) = false := beq_eq_false_iff_ne.2 hb
              clear hky hb
              have hIns := ins_split r2 (by have := HL.out; omega) (.inr (by rw [eq]; exact hd))
              have hlt1 : (S2.take qn).length = q.toNat := by rw [List.length_take]; have := HL.out; omega
              have hld1 : (S2.drop qn).length = l - q.toNat := by rw [List.length_drop, HL.out]; omega
              have hBa : Below wr.heap.size wr (wr.alloc (.cells #[] 43)) := (Below.refl _ wr).alloc (Nat.le_refl _) _
              obtain ⟨tv, w2, hr1, p1, p2, p3, p4⟩ := app_rows (T := []) (Y := S2.take qn) (g := g) (off := 0) (c := cap) (new_row wr wr.heap.size (Nat.le_refl _)) (by simp) (by simp [Value.ownBlock]) (by rw [hlt1]; simp; omega) (fun j hj => by
                rw [hlt1] at hj
                obtain ⟨m1, m2, _⟩ := H2.out.cell (i := j) (by have := HL.out; omega)
                rw [at_take (by omega), Nat.zero_add]
                exact ⟨(hBa.cell (p := ⟨g, j * 2, none⟩) hg).trans m1, (hBa.cell (p := ⟨g, j * 2 + 1, none⟩) hg).trans m2⟩)
              rw [hlt1] at hr1
              rw [List.nil_append] at p1
              have hB2 : Below wr.heap.size wr w2 := hBa.trans (p2.below (n := wr.heap.size) (by simp) (fun k hk => by simp [Value.ownBlock] at hk; omega))
              obtain ⟨tv3, w3, hr3, s1, s2, s3, s4⟩ := push_own (id, due) p1 hB2.size (by rw [hlt1]; omega)
              have hB3 : Below wr.heap.size wr w3 := hB2.trans (s2.below (n := wr.heap.size) hB2.size (fun k hk => (p1.lt k (by simpa using hk)).1))
              have htv3 : tv3.ownBlock ≠ none := by
                rcases s3 with e | e
                · rw [e]; exact p4
                · rw [e]; simp
              obtain ⟨o9, ho9⟩ : ∃ o9, o9 = if cap = q.toNat then 0 else q.toNat * 2 := ⟨_, rfl⟩
              have hif := trivial
              obtain ⟨v4, w4, hr4, q1, q2, q3, q4⟩ := app_rows (T := S2.take qn ++ [(id, due)]) (Y := S2.drop qn) (g := g) (off := o9) (c := cap - q.toNat) s1 hB3.size htv3 (by rw [hld1, List.length_append, hlt1]; simp; omega) (fun j hj => by
                rw [hld1] at hj
                obtain ⟨m1, m2, _⟩ := H2.out.cell (i := qn + j) (by have := HL.out; omega)
                rw [at_drop, ho9, if_neg (by omega), show q.toNat * 2 + j * 2 = (qn + j) * 2 by omega]
                exact ⟨(hB3.cell (p := ⟨g, (qn + j) * 2, none⟩) hg).trans m1, (hB3.cell (p := ⟨g, (qn + j) * 2 + 1, none⟩) hg).trans m2⟩)
              rw [hld1] at hr4
              rw [List.append_assoc, List.singleton_append, ← hIns] at q1
              have hB4 : Below wr.heap.size wr w4 := hB3.trans (q2.below (n := wr.heap.size) hB3.size (fun k hk => (s1.lt k (by simpa using hk)).1))
              have c2 := (hB2.cell (p := ⟨r, 0, none⟩) hrw).trans c0'
              have c3 := (hB3.cell (p := ⟨r, 0, none⟩) hrw).trans c0'
              obtain ⟨va4, vc4, hv4⟩ := own_len q1
              obtain ⟨ln4, hln4⟩ : ∃ ln4, ln4 = (ins (id, due) S2).length := ⟨_, rfl⟩
              rw [← hln4] at hv4
              have HFIN := hidden (RT.put (S := S2) (now' := now) H1.out hB4 q1 HLN.out)
              have hx := H1.out.later hB4
              have cs0 := hx.cell 0 rfl
              rw [show (#[v, .int .i64 now] : Array Value)[0] = .slice (some ⟨g, 0, none⟩) l cap from by rw [HL.out]; exact HV.out] at cs0
              have fs0 := hx.frozen 0
              rw [hv4] at HFIN hr4
              have HRA := hidden hr1
              rw [ho9, if_neg (by omega)] at hr4
              have HRB := hidden hr3
              have HRC := hidden hr4
              have i4 : q ≤ (cap : Int) := by omega
              obtain ⟨va1, vc1, hv1⟩ := own_len p1
              rw [hlt1] at hv1
              rw [hv1] at HRA HRB
              obtain ⟨va3, vc3, hv3⟩ := own_len s1
              obtain ⟨ln3, hln3⟩ : ∃ ln3, ln3 = (S2.take qn ++ [(id, due)]).length := ⟨_, rfl⟩
              rw [← hln3] at hv3
              rw [hv3] at HRB HRC
              have hrw2 : r < w2.heap.size := Nat.lt_of_lt_of_le hrw hB2.size
              have hrw3 : r < w3.heap.size := Nat.lt_of_lt_of_le hrw hB3.size
              clear r1 r2 HR hIns hlt1 hld1 hBa hr1 p1 p2 p3 p4 hB2 hr3 s1 s2 s3 s4 hB3 htv3 ho9 hr4 q1 q2 q3 q4 hB4 hx hln4 hln3 H1 H2 hv1 hv3 hv4
              clear hd
              generalize (at_ S2 q.toNat).1 = dd at *
              generalize (at_ S2 q.toNat).2 = tm at *
              clear eq hqn hgv
              go_upto_region 9 with fail
              go_upto_region 10 with (at_builtin; refine Rg.wpList_app rfl _ _ 26 rfl rfl rfl HRA.out ?_; clear HRA)
              go_upto_region 11 with (at_builtin; refine Rg.wpList_app rfl _ _ 26 rfl rfl rfl HRB.out ?_; clear HRB)
              go_wp2_with (at_builtin; refine Rg.wpList_app rfl _ _ 26 rfl rfl rfl HRC.out ?_; clear HRC)
              go_ret
              exact ⟨rfl, FIN.out _ HFIN.out⟩
        · rcases H2.out.2 with ⟨hgv, hl0⟩ | ⟨g, cap', cur, hgv, _, hgg, hcap, _⟩
          · have e := hgv
            rw [HV.out] at e
            simp only [Value.slice.injEq] at e
            obtain ⟨rfl, _, rfl⟩ := e
            have hIns := ins_split r2 (by have := HL.out; omega) (.inl (by have := HL.out; omega))
            have hlt1 : (S2.take qn).length = q.toNat := by rw [List.length_take]; have := HL.out; omega
            have hld1 : (S2.drop qn).length = l - q.toNat := by rw [List.length_drop, HL.out]; omega
            have hS0 : S2 = [] := List.eq_nil_of_length_eq_zero hl0
            have hl0' : l = 0 := by rw [HL.out]; exact hl0
            have hq0 : q = 0 := by omega
            have hBa : Below wr.heap.size wr (wr.alloc (.cells #[] 43)) := (Below.refl _ wr).alloc (Nat.le_refl _) _
            have n1 := new_row wr wr.heap.size (Nat.le_refl _)
            obtain ⟨i0, hi0⟩ := info_due_parts
            have HRA := hidden (run_append_owned_none (P := Try.prog) (w := _) wr.heap.size 26 26 43 i0 2 Try.underlying26 hi0 _ _ _ n1)
            obtain ⟨tv3, w3, hr3, s1, s2, s3, s4⟩ := push_own (id, due) n1 hBa.size (by simp)
            have hB4 : Below wr.heap.size wr w3 := hBa.trans (s2.below (n := wr.heap.size) hBa.size (fun k hk => (n1.lt k (by simpa using hk)).1))
            have HRC := hidden (run_append_owned_none (P := Try.prog) (w := w3) wr.heap.size 26 26 43 i0 2 Try.underlying26 hi0 _ _ _ s1)
            have q1 : w3.ownsRow wr.heap.size 43 2 tv3 (ins (id, due) S2).length (dcs (ins (id, due) S2)) := by rw [hIns, hS0, List.take_nil, List.drop_nil]; exact s1
            have c3 := (hB4.cell (p := ⟨r, 0, none⟩) hrw).trans c0'
            obtain ⟨va4, vc4, hv4⟩ := own_len q1
            obtain ⟨ln4, hln4⟩ : ∃ ln4, ln4 = (ins (id, due) S2).length := ⟨_, rfl⟩
            rw [← hln4] at hv4
            have HFIN := hidden (RT.put (S := S2) (now' := now) H1.out hB4 q1 HLN.out)
            have hx := H1.out.later hB4
            have cs0 := hx.cell 0 rfl
            rw [show (#[v, .int .i64 now] : Array Value)[0] = .slice none 0 0 from hgv] at cs0
            have fs0 := hx.frozen 0
            rw [hv4] at HFIN
            have HRB := hidden hr3
            rw [hv4] at HRB HRC
            have hrw3 : r < w3.heap.size := Nat.lt_of_lt_of_le hrw hB4.size
            clear cs0
            simp only [World.size_alloc] at HRB
            subst hq0
            subst hl0'
            clear r1 r2 HR hIns hlt1 hld1 hBa n1 hi0 hr3 s1 s2 s3 s4 hB4 q1 hx hln4 H1 H2 hv4 hgv hS0 hl0
            go_upto_region 9 with fail
            go_upto_region 10 with (at_builtin; refine Rg.wpList_app rfl _ _ 26 rfl rfl rfl HRA.out ?_; clear HRA)
            go_upto_region 11 with (at_builtin; refine Rg.wpList_app rfl _ _ 26 rfl rfl rfl HRB.out ?_; clear HRB)
            go_wp2_with (at_builtin; refine Rg.wpList_app rfl _ _ 26 rfl rfl rfl HRC.out ?_; clear HRC)
            go_ret
            exact ⟨rfl, FIN.out _ HFIN.out⟩
          · have e := hgv
            rw [HV.out] at e
            cases e
            rw [hgv] at H2
            have hg := heap_lt hgg
            have hcap' : l ≤ cap := by rw [HL.out]; exact hcap
            have hIns := ins_split r2 (by have := HL.out; omega) (.inl (by have := HL.out; omega))
            have hlt1 : (S2.take qn).length = q.toNat := by rw [List.length_take]; have := HL.out; omega
            have hld1 : (S2.drop qn).length = l - q.toNat := by rw [List.length_drop, HL.out]; omega
            have hBa : Below wr.heap.size wr (wr.alloc (.cells #[] 43)) := (Below.refl _ wr).alloc (Nat.le_refl _) _
            obtain ⟨tv, w2, hr1, p1, p2, p3, p4⟩ := app_rows (T := []) (Y := S2.take qn) (g := g) (off := 0) (c := cap) (new_row wr wr.heap.size (Nat.le_refl _)) (by simp) (by simp [Value.ownBlock]) (by rw [hlt1]; simp; omega) (fun j hj => by
              rw [hlt1] at hj
              obtain ⟨m1, m2, _⟩ := H2.out.cell (i := j) (by have := HL.out; omega)
              rw [at_take (by omega), Nat.zero_add]
              exact ⟨(hBa.cell (p := ⟨g, j * 2, none⟩) hg).trans m1, (hBa.cell (p := ⟨g, j * 2 + 1, none⟩) hg).trans m2⟩)
            rw [hlt1] at hr1
            rw [List.nil_append] at p1
            have hB2 : Below wr.heap.size wr w2 := hBa.trans (p2.below (n := wr.heap.size) (by simp) (fun k hk => by simp [Value.ownBlock] at hk; omega))
            obtain ⟨tv3, w3, hr3, s1, s2, s3, s4⟩ := push_own (id, due) p1 hB2.size (by rw [hlt1]; omega)
            have hB3 : Below wr.heap.size wr w3 := hB2.trans (s2.below (n := wr.heap.size) hB2.size (fun k hk => (p1.lt k (by simpa using hk)).1))
            have htv3 : tv3.ownBlock ≠ none := by
              rcases s3 with e | e
              · rw [e]; exact p4
              · rw [e]; simp
            obtain ⟨o9, ho9⟩ : ∃ o9, o9 = if cap = q.toNat then 0 else q.toNat * 2 := ⟨_, rfl⟩
            have hif : (if cap = q.toNat then some (⟨g, 0, none⟩ : Addr) else some ⟨g, q.toNat * 2, none⟩) = some ⟨g, o9, none⟩ := by rw [ho9]; split <;> rfl
            obtain ⟨v4, w4, hr4, q1, q2, q3, q4⟩ := app_rows (T := S2.take qn ++ [(id, due)]) (Y := S2.drop qn) (g := g) (off := o9) (c := cap - q.toNat) s1 hB3.size htv3 (by rw [hld1, List.length_append, hlt1]; simp; omega) (fun j hj => by
              rw [hld1] at hj
              obtain ⟨m1, m2, _⟩ := H2.out.cell (i := qn + j) (by have := HL.out; omega)
              rw [at_drop, ho9, if_neg (by omega), show q.toNat * 2 + j * 2 = (qn + j) * 2 by omega]
              exact ⟨(hB3.cell (p := ⟨g, (qn + j) * 2, none⟩) hg).trans m1, (hB3.cell (p := ⟨g, (qn + j) * 2 + 1, none⟩) hg).trans m2⟩)
            rw [hld1] at hr4
            rw [List.append_assoc, List.singleton_append, ← hIns] at q1
            have hB4 : Below wr.heap.size wr w4 := hB3.trans (q2.below (n := wr.heap.size) hB3.size (fun k hk => (s1.lt k (by simpa using hk)).1))
            have c2 := (hB2.cell (p := ⟨r, 0, none⟩) hrw).trans c0'
            have c3 := (hB3.cell (p := ⟨r, 0, none⟩) hrw).trans c0'
            obtain ⟨va4, vc4, hv4⟩ := own_len q1
            obtain ⟨ln4, hln4⟩ : ∃ ln4, ln4 = (ins (id, due) S2).length := ⟨_, rfl⟩
            rw [← hln4] at hv4
            have HFIN := hidden (RT.put (S := S2) (now' := now) H1.out hB4 q1 HLN.out)
            have hx := H1.out.later hB4
            have cs0 := hx.cell 0 rfl
            rw [show (#[v, .int .i64 now] : Array Value)[0] = .slice (some ⟨g, 0, none⟩) l cap from by rw [HL.out]; exact HV.out] at cs0
            have fs0 := hx.frozen 0
            rw [hv4] at HFIN hr4
            have HRA := hidden hr1
            skip
            have HRB := hidden hr3
            have HRC := hidden hr4
            have i4 : q ≤ (cap : Int) := by omega
            obtain ⟨va1, vc1, hv1⟩ := own_len p1
            rw [hlt1] at hv1
            rw [hv1] at HRA HRB
            obtain ⟨va3, vc3, hv3⟩ := own_len s1
            obtain ⟨ln3, hln3⟩ : ∃ ln3, ln3 = (S2.take qn ++ [(id, due)]).length := ⟨_, rfl⟩
            rw [← hln3] at hv3
            rw [hv3] at HRB HRC
            have hrw2 : r < w2.heap.size := Nat.lt_of_lt_of_le hrw hB2.size
            have hrw3 : r < w3.heap.size := Nat.lt_of_lt_of_le hrw hB3.size
            clear r1 r2 HR hIns hlt1 hld1 hBa hr1 p1 p2 p3 p4 hB2 hr3 s1 s2 s3 s4 hB3 htv3 ho9 hr4 q1 q2 q3 q4 hB4 hx hln4 hln3 H1 H2 hv1 hv3 hv4
            clear hgv
            go_upto_region 9 with fail
            go_upto_region 10 with (at_builtin; refine Rg.wpList_app rfl _ _ 26 rfl rfl rfl HRA.out ?_; clear HRA)
            go_upto_region 11 with (at_builtin; refine Rg.wpList_app rfl _ _ 26 rfl rfl rfl HRB.out ?_; clear HRB)
            go_wp2_with (at_builtin; refine Rg.wpList_app rfl _ _ 26 rfl rfl rfl HRC.out ?_; clear HRC)
            go_ret
            exact ⟨rfl, FIN.out _ HFIN.out⟩
end Go.Proofs.Ytinhhfnknlmdgaa.Tm
