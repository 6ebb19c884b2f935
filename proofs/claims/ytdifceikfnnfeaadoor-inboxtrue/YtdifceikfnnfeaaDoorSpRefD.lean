/-
  What the document's Gaps does (package ropewalkref03), and two rows of blocks held against one another.
  Conditions: the set's row rises, its numbers lie from 2 to 65535.
-/
import Derived.Test.YtdifceikfnnfeaaDoorSpRefC
namespace Go.Proofs.YtdifceikfnnfeaaDoor.Sp
open Go.RowKit Go.Shelf Go.ChangeShapes Go.WideShapes Go.ChangeAt
set_option linter.unusedVariables false

theorem blk_head : ∀ (B : List Nat), (blk B).head?.map (·.1) = B.head?
  | [] => rfl
  | x :: xs => by rw [blk_cons]; rfl
theorem blk_sep : ∀ (A B : List Nat), (∀ a b, A.getLast? = some a → B.head? = some b → b ≠ a + 1) → blk (A ++ B) = blk A ++ blk B
  | [], B, _ => rfl
  | [a], B, h => by
    show blk (a :: B) = blk [a] ++ blk B
    have hh := blk_head B
    rw [blk]
    cases hb : blk B with
    | nil => simp [blk]
    | cons p r =>
      obtain ⟨s, e⟩ := p
      rw [hb] at hh
      have hs : s ≠ a + 1 := h a s rfl (by rw [← hh]; rfl)
      simp [blk, hs]
  | a :: a' :: A', B, h => by
    have ih := blk_sep (a' :: A') B (fun x y hx hy => h x y (by simpa using hx) hy)
    show blk (a :: (a' :: A' ++ B)) = blk (a :: a' :: A') ++ blk B
    rw [blk, ih, blk.eq_def (a :: a' :: A')]
    simp only
    rw [blk_cons a' A']
    simp only [List.cons_append]
    split <;> simp
theorem blk_join : ∀ (A : List Nat) (a : Nat), A.getLast? = some a → ∃ P s, blk A = P ++ [(s, a)] ∧ blk (A ++ [a + 1]) = P ++ [(s, a + 1)]
  | [], a, h => by simp at h
  | [x], a, h => by simp at h; subst h; exact ⟨[], x, by simp [blk], by simp [blk]⟩
  | x :: y :: A', a, h => by
    obtain ⟨P, s, h1, h2⟩ := blk_join (y :: A') a (by simpa using h)
    show ∃ P s, blk (x :: y :: A') = P ++ [(s, a)] ∧ blk (x :: (y :: A' ++ [a + 1])) = P ++ [(s, a + 1)]
    rw [blk.eq_def (x :: y :: A'), blk.eq_def (x :: (y :: A' ++ [a + 1]))]
    simp only
    rw [h1, h2]
    cases P with
    | nil =>
      simp only [List.nil_append]
      by_cases hs : s = x + 1
      · exact ⟨[], x, by simp [hs], by simp [hs]⟩
      · exact ⟨[(x, x)], s, by simp [hs], by simp [hs]⟩
    | cons p P =>
      obtain ⟨p1, p2⟩ := p
      simp only [List.cons_append]
      by_cases hs : p1 = x + 1
      · exact ⟨(x, p2) :: P, s, by simp [hs], by simp [hs]⟩
      · exact ⟨(x, x) :: (p1, p2) :: P, s, by simp [hs], by simp [hs]⟩
theorem last_take (L : List Nat) (q : Nat) (h0 : 0 < q) (h : q ≤ L.length) : (L.take q).getLast? = some (L.getD (q - 1) 0) := by
  rw [List.getLast?_eq_getElem?, List.length_take, Nat.min_eq_left h, List.getElem?_take, if_pos (by omega), List.getElem?_eq_getElem (by omega), List.getD_eq_getElem?_getD, List.getElem?_eq_getElem (by omega)]; rfl
theorem take_snoc (L : List Nat) (q : Nat) (h : q < L.length) : L.take (q + 1) = L.take q ++ [L.getD q 0] := by
  rw [List.take_add_one, List.getElem?_eq_getElem h, List.getD_eq_getElem?_getD, List.getElem?_eq_getElem h]; rfl
/-- one number more: a new block -/
theorem blk_new {L : List Nat} {q : Nat} (h : q < L.length) (hs : q = 0 ∨ L.getD q 0 ≠ L.getD (q - 1) 0 + 1) : blk (L.take (q + 1)) = blk (L.take q) ++ [(L.getD q 0, L.getD q 0)] ∧ blk L = blk (L.take q) ++ blk (L.drop q) := by
  have sep : ∀ b', b' = L.getD q 0 → ∀ a, (L.take q).getLast? = some a → b' ≠ a + 1 := by
    intro b' hb a ha
    rcases hs with h0 | hs
    · subst h0; simp at ha
    · by_cases h0 : q = 0
      · subst h0; simp at ha
      · rw [last_take L q (by omega) (by omega)] at ha; cases ha; rw [hb]; exact hs
  refine ⟨?_, ?_⟩
  · rw [take_snoc L q h, blk_sep _ _ (fun a b' ha hb => sep b' (by simpa using hb.symm) a ha)]; rfl
  · conv => lhs; rw [← List.take_append_drop q L]
    refine blk_sep _ _ (fun a b' ha hb => sep b' ?_ a ha)
    rw [List.head?_drop, List.getElem?_eq_getElem h] at hb
    rw [List.getD_eq_getElem?_getD, List.getElem?_eq_getElem h]; simpa using hb.symm
/-- one number more: the last block is longer -/
theorem blk_more {L : List Nat} {q : Nat} (h : q < L.length) (h0 : 0 < q) (hs : L.getD q 0 = L.getD (q - 1) 0 + 1) : ∃ P s, blk (L.take q) = P ++ [(s, L.getD (q - 1) 0)] ∧ blk (L.take (q + 1)) = P ++ [(s, L.getD q 0)] := by
  obtain ⟨P, s, h1, h2⟩ := blk_join _ _ (last_take L q h0 (by omega))
  exact ⟨P, s, h1, by rw [take_snoc L q h, hs]; exact h2⟩
def gtake (L : List Nat) (most : Int) : List (Nat × Nat) := (blk L).take most.toNat
theorem gapC_set (P : List (Nat × Nat)) (s e e' : Nat) : (P ++ [(s, e')]).flatMap gapC = ((P ++ [(s, e)]).flatMap gapC).set (P.length * 2 + 1) (.int .u16 (e' : Int)) := by
  rw [List.flatMap_append, List.flatMap_append, List.set_append_right _ _ (by rw [gapC_len]; omega), gapC_len]
  simp [gapC]

theorem own_heap {w w' : World} {base e size n : Nat} {v : Value} {xs : List Value} (h : w.ownsRow base e size v n xs) (hh : w'.heap = w.heap) : w'.ownsRow base e size v n xs := by
  refine ⟨h.1, ?_⟩
  rcases h.2 with h9 | ⟨g9, cap9, cur9, h9, hb9, hg9, r9⟩
  · exact .inl h9
  · exact .inr ⟨g9, cap9, cur9, h9, hb9, by rw [hh]; exact hg9, r9⟩

set_option maxRecDepth 20000 in
set_option maxHeartbeats 4000000 in
theorem rGaps (most : Int) (hmost : -10000 < most ∧ most < 10000) (w : World) {b c : Nat} {L : List Nat} (h : IsRef w b c L) :
    Calls Tryd.prog 73 #[.pointer (some ⟨b, 0, none⟩), .int .i64 most] w fun e w' => ∃ v, e = .returned v ∧ w'.ownsRow w.heap.size 74 2 v (gtake L most).length ((gtake L most).flatMap gapC) ∧ Below w.heap.size w w' := by
  have hc := h.1
  have hg := h.2.1
  have hlen := good_len hg
  have hbl := h.lt
  obtain ⟨i0, hi, hz0, hz1, hz2⟩ := info_parts info76
  obtain ⟨c0, a, cap, c1, hor⟩ := h.read
  have HOR : Hid _ := hor
  clear hor
  go_enter Tryd.func73, Tryd.ntmps73
  go_wp2_with fail
  go_loopw [5, 6] (fun l i wr => ∃ (q : Int) (X : List (Nat × Nat)), 0 ≤ q ∧ q ≤ (L.length : Int) ∧ i = .int .i64 q ∧ Hid (X = blk (L.take q.toNat)) ∧ wr.ownsRow w.heap.size 74 2 l X.length (X.flatMap gapC) ∧ Below w.heap.size w wr ∧ ((X.length : Int) ≤ most ∨ X.length = 0)) (fun l i wr => L.length - (intOf i).toNat)
  case atStart => exact ⟨0, [], by omega, by omega, rfl, rfl, World.ownsRow_nil _ _ _ _, Below.refl _ _, .inr rfl⟩
  case round =>
    obtain ⟨q, X, hq0, hq, rfl, hXX, ho, hB, hm⟩ := hrel
    have hsz := hB.size
    have k0 := (hB.cell (p := ⟨b, 0, none⟩) hbl).trans c0
    have k1 := (hB.cell (p := ⟨b, 1, none⟩) hbl).trans c1
    have hXl : X.length ≤ 65536 := by
      have h9 := blk_len (L.take q.toNat)
      rw [← hXX.out, List.length_take] at h9; omega
    by_cases hlt : q < (L.length : Int)
    · obtain ⟨g, rfl, hgl, hcc⟩ := HOR.out.resolve_left (by omega)
      have k2 := (hB.cell (p := ⟨g, q.toNat, none⟩) hgl).trans (hcc q.toNat (by omega))
      have hzb := hg.2 _ (getD_mem L q.toNat (by omega))
      obtain ⟨zI, hzI⟩ : ∃ zI : Int, Hid ((L.getD q.toNat 0 : Int) = zI) := ⟨_, rfl⟩
      rw [hzI.out] at k2
      have hzb2 : 2 ≤ zI ∧ zI ≤ 65535 := by have := hzI.out; omega
      obtain ⟨va, vc, rfl⟩ := row_len ho
      by_cases hmore : 0 < q ∧ L.getD q.toNat 0 = L.getD (q.toNat - 1) 0 + 1
      · obtain ⟨hq1, hzp⟩ := hmore
        obtain ⟨P, sB, hP1, hP2⟩ := blk_more (L := L) (q := q.toNat) (by omega) (by omega) hzp
        rw [← hXX.out] at hP1
        have k3 := (hB.cell (p := ⟨g, q.toNat - 1, none⟩) hgl).trans (hcc (q.toNat - 1) (by omega))
        obtain ⟨pI, hpI⟩ : ∃ pI : Int, Hid ((L.getD (q.toNat - 1) 0 : Int) = pI) := ⟨_, rfl⟩
        rw [hpI.out] at k3
        have hzpI : zI = pI + 1 := by have := hzI.out; have := hpI.out; omega
        subst hzpI
        have hpb : 0 ≤ pI ∧ pI ≤ 65534 := by have := hpI.out; omega
        have hset : Hid ((P ++ [(sB, L.getD q.toNat 0)]).flatMap gapC = (X.flatMap gapC).set (P.length * 2 + 1) (.int .u16 (pI + 1))) := by
          unfold Hid
          rw [hP1, gapC_set P sB (L.getD (q.toNat - 1) 0) (L.getD q.toNat 0), hzI.out]
        have hXP : X.length = P.length + 1 := by rw [hP1]; simp
        have HP2 : Hid _ := hP2
        have hcE : (X.flatMap gapC)[P.length * 2 + 1]? = some (.int .u16 pI) := by
          rw [hP1, List.flatMap_append, List.getElem?_append_right (by rw [gapC_len]; omega), gapC_len, show P.length * 2 + 1 - P.length * 2 = 1 by omega, ← hpI.out]; rfl
        have hx1 : 1 ≤ X.length := by omega
        have hoff : (X.length - 1) * 2 + 1 = P.length * 2 + 1 := by omega
        obtain ⟨gv, vcap, hve⟩ : ∃ gv vcap, Value.slice va X.length vc = .slice (some ⟨gv, 0, none⟩) X.length vcap := by
          rcases ho.2 with ⟨_, h0⟩ | ⟨g9, cap9, cur9, h9, _⟩
          · omega
          · exact ⟨g9, cap9, h9⟩
        cases hve
        have e1 := ho.cellAt ((X.length - 1) * 2 + 1) (by omega)
        rw [hoff, hcE, ← hoff] at e1
        have f1 := ho.frozenAt ((X.length - 1) * 2 + 1)
        have hst := ho.stored ((X.length - 1) * 2 + 1) (.int .u16 (pI + 1))
        have hgv := (ho.lt gv rfl).1
        have hpw : IntKind.u16.wrap (pI + 1) = pI + 1 := by rw [IntKind.wrap_u16]; omega
        have hpw2 : (pI + 1) % 65536 = pI + 1 := by omega
        have HOFF : Hid _ := hoff
        have HXP : Hid _ := hXP
        clear hcc hcE hP1 hP2 hXP hoff
        go_wp2
        go_quiet (fail)
        go_wp2
        go_roundw
        case rel =>
          refine ⟨q + 1, P ++ [(sB, L.getD q.toNat 0)], by omega, by omega, rfl, ?_, ?_, ?_, ?_⟩
          · show _ = _
            rw [show (q + 1).toNat = q.toNat + 1 by omega, HP2.out]
          · rw [hset.out, ← HOFF.out, show (P ++ [(sB, L.getD q.toNat 0)]).length = X.length by rw [HXP.out]; simp]
            exact own_heap hst.1 rfl
          · exact (show Below w.heap.size w (wr.drewN nq) from ⟨hB.os, hB.tape, hB.output, hB.size, hB.block⟩).setCell (p := ⟨gv, (X.length - 1) * 2 + 1, none⟩) hgv _
          · rw [show (P ++ [(sB, L.getD q.toNat 0)]).length = X.length by rw [HXP.out]; simp]; exact hm
        case measure => simp only [intOf]; omega
      · have hnb : Hid _ := blk_new (L := L) (q := q.toNat) (by omega) (by
          by_cases h0 : q = 0
          · exact .inl (by omega)
          · exact .inr (fun e => hmore ⟨by omega, e⟩))
        have hzw : IntKind.u16.wrap zI = zI := by rw [IntKind.wrap_u16]; omega
        have hzw2 : zI % 65536 = zI := by omega
        have htest : q = 0 ∨ (0 < q ∧ ∃ pI : Int, wr.cell? ⟨g, q.toNat - 1, none⟩ = some (.int .i64 pI) ∧ (zI == pI + 1) = false ∧ 0 ≤ pI ∧ pI ≤ 65535) := by
          by_cases h0 : q = 0
          · exact .inl h0
          · refine .inr ⟨by omega, (L.getD (q.toNat - 1) 0 : Int), (hB.cell (p := ⟨g, q.toNat - 1, none⟩) hgl).trans (hcc (q.toNat - 1) (by omega)), ?_, by omega, ?_⟩
            · have h9 : ¬ (0 < q ∧ L.getD q.toNat 0 = L.getD (q.toNat - 1) 0 + 1) := hmore
              have := hzI.out
              simp only [beq_eq_false_iff_ne, ne_eq]
              intro e; apply h9; exact ⟨by omega, by omega⟩
            · have := hg.2 _ (getD_mem L (q.toNat - 1) (by omega)); omega
        clear hcc hmore
        by_cases hml : most ≤ (X.length : Int)
        · have he : Hid (gtake L most = X) := by
            have h8 : most.toNat ≤ X.length := by clear htest; omega
            have h9 : X.length ≤ most.toNat := by clear htest; omega
            unfold Hid gtake
            rw [hnb.out.2, ← hXX.out, List.take_append_of_le_length h8, List.take_of_length_le h9]
          rcases htest with rfl | ⟨hq1, pI, k3, hne, hp0, hp1⟩
          · have k2' : wr.cell? ⟨g, 0, none⟩ = some (.int .i64 zI) := k2
            clear k2
            go_wp2
            go_quiet (fail)
            go_wp2
            go_ret
            rw [he.out]
            exact ⟨_, rfl, ho, ⟨hB.os, hB.tape, hB.output, hB.size, hB.block⟩⟩
          · go_wp2
            go_quiet (fail)
            go_wp2
            go_ret
            rw [he.out]
            exact ⟨_, rfl, ho, ⟨hB.os, hB.tape, hB.output, hB.size, hB.block⟩⟩
        · rcases htest with rfl | ⟨hq1, pI, k3, hne, hp0, hp1⟩
          · have k2' : wr.cell? ⟨g, 0, none⟩ = some (.int .i64 zI) := k2
            clear k2
            go_wp2
            go_quiet (fail)
            obtain ⟨y2, hy2, hh2⟩ : ∃ y2, wr.drewN nq = y2 ∧ Hid (y2.heap = wr.heap ∧ Below w.heap.size w y2) := ⟨_, rfl, rfl, ⟨hB.os, hB.tape, hB.output, hB.size, hB.block⟩⟩
            rw [hy2]
            clear hy2
            have hoy : y2.ownsRow w.heap.size 74 2 (.slice va X.length vc) X.length (X.flatMap gapC) := own_heap ho hh2.out.1
            have m0 : y2.cell? ⟨b, 0, none⟩ = some (.int .u32 (c : Int)) := (World.cell?_of_block (by rw [hh2.out.1])).trans k0
            have m1 : y2.cell? ⟨b, 1, none⟩ = some (.slice (some ⟨g, 0, none⟩) L.length cap) := (World.cell?_of_block (by rw [hh2.out.1])).trans k1
            have m2 : y2.cell? ⟨g, 0, none⟩ = some (.int .i64 zI) := (World.cell?_of_block (by rw [hh2.out.1])).trans k2'
            have hszy : w.heap.size ≤ y2.heap.size := by rw [hh2.out.1]; exact hsz
            have hob : ∀ x : Nat, x < w.heap.size → some x ≠ (Value.slice va X.length vc).ownBlock := fun x hx e => by have := (ho.lt x e.symm).1; omega
            go_wp2_with fail
            go_region_held3 (fun w' => w'.cell? ⟨b, 0, none⟩ = some (.int .u32 (c : Int)) ∧ w'.cell? ⟨b, 1, none⟩ = some (.slice (some ⟨g, 0, none⟩) L.length cap) ∧ w'.cell? ⟨g, 0, none⟩ = some (.int .i64 zI))
              (first
                | go_keep
                | (go_split_ands
                   refine ⟨?_, ?_, ?_⟩
                   · (rw [hgrow.cell_far _ (by simp; omega) (hob _ hbl)]; assumption)
                   · (rw [hgrow.cell_far _ (by simp; omega) (hob _ hbl)]; assumption)
                   · (rw [hgrow.cell_far _ (by simp; omega) (hob _ hgl)]; assumption)))
              ((refine step_append_lies _ (by rfl) _ _ _ (by rfl) w.heap.size 74 i0 _ 2 4 Tryd.underlying42 hi hz0 hz1 hz2 rfl (by omega) (.slice va X.length vc) X.length _ (by rfl) ((hoy.alloc _).drew) ⟨y2.heap.size, 0, none⟩ 1 1 [.int .u16 zI, .int .u16 zI] (by rfl) (by rfl) (World.news_of_block (cs := #[.int .u16 zI, .int .u16 zI]) (t := 74) (fr := (0, 0)) (heap_alloc_new y2 _)) (by simp [Value.oneCell']) (by omega) (by unfold maxLen; omega) (by omega) (by simp; omega) (y2.heap.size + 1) (by simp) ?_; intro g2 cap2 w1' hown1 hgrow hat hlt1))
            go_wp2
            go_roundw
            case rel =>
              refine ⟨0 + 1, X ++ [(L.getD (0 : Int).toNat 0, L.getD (0 : Int).toNat 0)], by omega, by omega, rfl, ?_, ?_, ((hh2.out.2.alloc hszy _).drew).grown hgrow (by simp; omega) (fun j hj => (ho.lt j hj).1), .inl (by simp; omega)⟩
              · show _ = _
                rw [show ((0 : Int) + 1).toNat = (0 : Int).toNat + 1 by omega, hnb.out.1, ← hXX.out]
              · rw [List.length_append, List.flatMap_append, show [(L.getD (0 : Int).toNat 0, L.getD (0 : Int).toNat 0)].flatMap gapC = [.int .u16 zI, .int .u16 zI] by rw [← hzI.out]; rfl]
                exact hown1
            case measure => simp only [intOf]; omega
          · go_wp2
            go_quiet (fail)
            obtain ⟨y2, hy2, hh2⟩ : ∃ y2, wr.drewN nq = y2 ∧ Hid (y2.heap = wr.heap ∧ Below w.heap.size w y2) := ⟨_, rfl, rfl, ⟨hB.os, hB.tape, hB.output, hB.size, hB.block⟩⟩
            rw [hy2]
            clear hy2
            have hoy : y2.ownsRow w.heap.size 74 2 (.slice va X.length vc) X.length (X.flatMap gapC) := own_heap ho hh2.out.1
            have m0 : y2.cell? ⟨b, 0, none⟩ = some (.int .u32 (c : Int)) := (World.cell?_of_block (by rw [hh2.out.1])).trans k0
            have m1 : y2.cell? ⟨b, 1, none⟩ = some (.slice (some ⟨g, 0, none⟩) L.length cap) := (World.cell?_of_block (by rw [hh2.out.1])).trans k1
            have m2 : y2.cell? ⟨g, q.toNat, none⟩ = some (.int .i64 zI) := (World.cell?_of_block (by rw [hh2.out.1])).trans k2
            have hszy : w.heap.size ≤ y2.heap.size := by rw [hh2.out.1]; exact hsz
            have hob : ∀ x : Nat, x < w.heap.size → some x ≠ (Value.slice va X.length vc).ownBlock := fun x hx e => by have := (ho.lt x e.symm).1; omega
            go_wp2_with fail
            go_region_held3 (fun w' => w'.cell? ⟨b, 0, none⟩ = some (.int .u32 (c : Int)) ∧ w'.cell? ⟨b, 1, none⟩ = some (.slice (some ⟨g, 0, none⟩) L.length cap) ∧ w'.cell? ⟨g, q.toNat, none⟩ = some (.int .i64 zI))
              (first
                | go_keep
                | (go_split_ands
                   refine ⟨?_, ?_, ?_⟩
                   · (rw [hgrow.cell_far _ (by simp; omega) (hob _ hbl)]; assumption)
                   · (rw [hgrow.cell_far _ (by simp; omega) (hob _ hbl)]; assumption)
                   · (rw [hgrow.cell_far _ (by simp; omega) (hob _ hgl)]; assumption)))
              ((refine step_append_lies _ (by rfl) _ _ _ (by rfl) w.heap.size 74 i0 _ 2 4 Tryd.underlying42 hi hz0 hz1 hz2 rfl (by omega) (.slice va X.length vc) X.length _ (by rfl) ((hoy.alloc _).drew) ⟨y2.heap.size, 0, none⟩ 1 1 [.int .u16 zI, .int .u16 zI] (by rfl) (by rfl) (World.news_of_block (cs := #[.int .u16 zI, .int .u16 zI]) (t := 74) (fr := (0, 0)) (heap_alloc_new y2 _)) (by simp [Value.oneCell']) (by omega) (by unfold maxLen; omega) (by omega) (by simp; omega) (y2.heap.size + 1) (by simp) ?_; intro g2 cap2 w1' hown1 hgrow hat hlt1))
            go_wp2
            go_roundw
            case rel =>
              refine ⟨q + 1, X ++ [(L.getD (q : Int).toNat 0, L.getD (q : Int).toNat 0)], by omega, by omega, rfl, ?_, ?_, ((hh2.out.2.alloc hszy _).drew).grown hgrow (by simp; omega) (fun j hj => (ho.lt j hj).1), .inl (by simp; omega)⟩
              · show _ = _
                rw [show ((q : Int) + 1).toNat = (q : Int).toNat + 1 by omega, hnb.out.1, ← hXX.out]
              · rw [List.length_append, List.flatMap_append, show [(L.getD (q : Int).toNat 0, L.getD (q : Int).toNat 0)].flatMap gapC = [.int .u16 zI, .int .u16 zI] by rw [← hzI.out]; rfl]
                exact hown1
            case measure => simp only [intOf]; omega
    · have hqe : q = (L.length : Int) := by omega
      subst hqe
      have hX : Hid (X = blk L) := by have := hXX.out; rw [Int.toNat_natCast, List.take_length] at this; exact this
      go_wp2
      go_ret
      rw [show gtake L most = X by unfold gtake; rw [← hX.out]; exact List.take_of_length_le (by omega)]
      exact ⟨_, rfl, ho, hB⟩
end Go.Proofs.YtdifceikfnnfeaaDoor.Sp
