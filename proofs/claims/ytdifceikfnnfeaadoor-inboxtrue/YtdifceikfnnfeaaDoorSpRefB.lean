/-
  What the document's Del, High, All, Missing do (package ropewalkref03).
  Conditions: the set's row rises, its numbers lie from 2 to 65535.
-/
import Derived.Test.YtdifceikfnnfeaaDoorSpRef
import Derived.Deep.RegionLaw
namespace Go.Proofs.YtdifceikfnnfeaaDoor.Sp
open Go.RowKit Go.Shelf Go.ChangeShapes Go.WideShapes Go.ChangeAt
set_option linter.unusedVariables false

theorem own_zero' {w : World} {base e size n : Nat} {v : Value} {xs : List Value} (h : w.ownsRow base e size v n xs) : w.ownsRow 0 e size v n xs := by
  refine ⟨h.1, ?_⟩
  rcases h.2 with h9 | ⟨g9, cap9, cur9, h9, _, r9⟩
  · exact .inl h9
  · exact .inr ⟨g9, cap9, cur9, h9, Nat.zero_le _, r9⟩
theorem getD_mem (L : List Nat) (q : Nat) (h : q < L.length) : L.getD q 0 ∈ L := by
  rw [List.getD_eq_getElem?_getD, List.getElem?_eq_getElem h]; exact List.getElem_mem _
theorem filter_snoc (p : Nat → Bool) (L : List Nat) (q : Nat) (h : q < L.length) : (L.take (q + 1)).filter p = (L.take q).filter p ++ (if p (L.getD q 0) then [L.getD q 0] else []) := by
  rw [List.take_add_one, List.getElem?_eq_getElem h, List.filter_append, List.getD_eq_getElem?_getD, List.getElem?_eq_getElem h]
  simp [List.filter_cons]

theorem rDel (t : Nat) (ht : t < 4294967296) (w : World) {b c : Nat} {L : List Nat} (h : IsRef w b c L) :
    Calls Tryd.prog 59 #[.pointer (some ⟨b, 0, none⟩), .int .u32 (t : Int)] w fun e w' =>
      e = .returned (.bool (decide ((Ser.dist 4294967296 (c : Int) (t : Int)).toNat ∈ L))) ∧ IsRef w' b c (del (Ser.dist 4294967296 (c : Int) (t : Int)).toNat L) ∧ w.grownBy w' (some b) := by
  have hc := h.1
  have hg := h.2.1
  have hlen := good_len hg
  have hbl := h.lt
  obtain ⟨i0, hi, hz0, hz1, hz2⟩ := info_parts info3
  obtain ⟨c0, a, cap, c1, hor⟩ := h.read
  have hhb : w.heap[b]? = some (.cells #[.int .u32 (c : Int), .slice a L.length cap] 54 (0, 0)) := by
    obtain ⟨_, _, v, h3, _⟩ := h
    have : w.cell? ⟨b, 1, none⟩ = some v := by simp [World.cell?, h3]
    rw [c1] at this; cases this; exact h3
  have HOR : Hid _ := hor
  clear hor
  go_enter Tryd.func59, Tryd.ntmps59
  go_wp2_with fail
  refine (Ser.rdiff (c : Int) (t : Int) (by omega) (by omega) _).mono ?_
  rintro e w' ⟨rfl, rfl⟩
  have hDd : Hid (∀ x ∈ L, ((x : Int) ≠ Ser.dist 4294967296 (c : Int) (t : Int) ↔ x ≠ (Ser.dist 4294967296 (c : Int) (t : Int)).toNat)) := fun x hx => by have := hg.2 x hx; omega
  have hb := Ser.dist32_bounds (c : Int) (t : Int)
  obtain ⟨D, hD⟩ : ∃ D : Int, Hid (Ser.dist 4294967296 (c : Int) (t : Int) = D) := ⟨_, rfl⟩
  rw [hD.out] at hb hDd ⊢
  go_wp2_with fail
  go_loopw [6, 7] (fun l i wr => ∃ q : Int, 0 ≤ q ∧ q ≤ (L.length : Int) ∧ i = .int .i64 q ∧ wr.ownsRow w.heap.size 3 1 l (del D.toNat (L.take q.toNat)).length ((del D.toNat (L.take q.toNat)).map intV) ∧ Below w.heap.size w wr) (fun l i wr => L.length - (intOf i).toNat)
  case atStart => exact ⟨0, by omega, by omega, rfl, World.ownsRow_nil _ _ _ _, Below.refl _ _⟩
  case round =>
    obtain ⟨q, hq0, hq, rfl, ho, hB⟩ := hrel
    have hsz := hB.size
    have hbWA : wr.heap[b]? = some (.cells #[.int .u32 (c : Int), .slice a L.length cap] 54 (0, 0)) := (hB.block b hbl).trans hhb
    have k0 : wr.cell? ⟨b, 0, none⟩ = some (.int .u32 (c : Int)) := by simp [World.cell?, hbWA]
    have k1 : wr.cell? ⟨b, 1, none⟩ = some (.slice a L.length cap) := by simp [World.cell?, hbWA]
    have f1 : wr.frozen? ⟨b, 1, none⟩ = false := by simp [World.frozen?, hbWA]
    have hX : (del D.toNat (L.take q.toNat)).length ≤ L.length := by
      unfold del; refine Nat.le_trans (List.length_filter_le _ _) ?_; rw [List.length_take]; omega
    by_cases hlt : q < (L.length : Int)
    · obtain ⟨g, rfl, hgl, hcc⟩ := HOR.out.resolve_left (by omega)
      have k2 := (hB.cell (p := ⟨g, q.toNat, none⟩) hgl).trans (hcc q.toNat (by omega))
      have hsn : Hid (del D.toNat (L.take (q + 1).toNat) = del D.toNat (L.take q.toNat) ++ (if decide (L.getD q.toNat 0 ≠ D.toNat) then [L.getD q.toNat 0] else [])) := by
        unfold Hid del; rw [show (q + 1).toNat = q.toNat + 1 by omega]; exact filter_snoc _ L q.toNat (by omega)
      have hdd := hDd.out _ (getD_mem L q.toNat (by omega))
      obtain ⟨zI, hzI⟩ : ∃ zI : Int, Hid ((L.getD q.toNat 0 : Int) = zI) := ⟨_, rfl⟩
      rw [hzI.out] at k2 hdd
      have HDD : Hid _ := hdd
      clear hcc hdd
      generalize del D.toNat (L.take q.toNat) = X at ho hX hsn
      by_cases hne : zI = D
      · subst hne
        go_wp2
        go_roundw
        case rel =>
          refine ⟨q + 1, by omega, by omega, rfl, ?_, hB⟩
          rw [hsn.out, if_neg (by have := HDD.out; simp at this ⊢; exact this), List.append_nil]
          exact ho
        case measure => simp only [intOf]; omega
      · have hne' : (zI != D) = true := by simpa using hne
        go_wp2_with (at_builtin; refine wpList_append_own _ rfl _ _ 52 rfl w.heap.size 3 i0 (.int .i64 0) 1 8 Tryd.underlying52 hi hz0 hz1 hz2 rfl (by decide) _ _ _ rfl (ho.alloc _) ⟨wr.heap.size, 0, none⟩ 1 1 [.int .i64 zI] rfl rfl (cell_one_new _ _ _) (by simp [Value.oneCell']) (by unfold maxLen; omega) (by omega) (by simp; omega) ?_)
        intro v' w2 ho2 hg2 _
        have hB2 : Below w.heap.size w w2 := (hB.alloc hsz _).grown hg2 (by simp; omega) fun k hk => (ho.lt k hk).1
        clear hg2 ho
        have HO2 : Hid _ := ho2
        clear ho2
        go_wp2
        go_roundw
        case rel =>
          refine ⟨q + 1, by omega, by omega, rfl, ?_, hB2⟩
          rw [hsn.out, if_pos (by have := HDD.out; simp only [decide_eq_true_eq]; exact this.1 hne), List.length_append, List.map_append, show [L.getD q.toNat 0].map intV = [Value.int .i64 zI] by rw [← hzI.out]; rfl]
          exact HO2.out
        case measure => simp only [intOf]; omega
    · have hqe : q = (L.length : Int) := by omega
      subst hqe
      have htk : Hid (L.take ((L.length : Int)).toNat = L) := by unfold Hid; rw [Int.toNat_natCast, List.take_length]
      rw [htk.out] at ho hX
      obtain ⟨va, vc, rfl⟩ := row_len ho
      have hwas : Hid (decide ((del D.toNat L).length < L.length) = decide (D.toNat ∈ L)) := by
        unfold Hid
        by_cases hm : D.toNat ∈ L
        · rw [decide_eq_true hm]; have := length_del D.toNat L hg.1 hm; exact decide_eq_true (by omega)
        · rw [decide_eq_false hm, show del D.toNat L = L from List.filter_eq_self.2 fun x hx => by simp; rintro rfl; exact hm hx]
          exact decide_eq_false (by omega)
      go_wp2
      go_ret
      have hgb : (Value.slice va (del D.toNat L).length vc).ownBlock ≠ some b := fun e => by have := (ho.lt b e).1; omega
      refine ⟨?_, ⟨hc, good_del hg, .slice va (del D.toNat L).length vc, ?_, ?_⟩, grownBy_set (a := ⟨b, 1, none⟩) ⟨hB.os, hB.tape, hB.output, hB.size, fun k hk _ => hB.block k hk⟩ rfl _⟩
      · rw [hD.out, ← hwas.out]; rfl
      · rw [heap_set wr b 1 _ hbWA]; rfl
      · rw [hD.out]
        exact own_zero' (ownsRow_setCell_other (a := ⟨b, 1, none⟩) ho hgb _)

theorem ts_snoc (c : Nat) (L : List Nat) (q : Nat) (h : q < L.length) : (L.take (q + 1)).map (tsV c) = (L.take q).map (tsV c) ++ [tsV c (L.getD q 0)] := by
  rw [List.take_add_one, List.getElem?_eq_getElem h, List.map_append, List.getD_eq_getElem?_getD, List.getElem?_eq_getElem h]; rfl

set_option maxHeartbeats 2000000 in
theorem rAll (w : World) {b c : Nat} {L : List Nat} (h : IsRef w b c L) :
    Calls Tryd.prog 18 #[.pointer (some ⟨b, 0, none⟩)] w fun e w' => ∃ v, e = .returned v ∧ w'.ownsRow w.heap.size 22 1 v L.length (L.map (tsV c)) ∧ Below w.heap.size w w' := by
  have hc := h.1
  have hg := h.2.1
  have hlen := good_len hg
  have hbl := h.lt
  obtain ⟨i0, hi, hz0, hz1, hz2⟩ := info_parts info22
  obtain ⟨c0, a, cap, c1, hor⟩ := h.read
  have HOR : Hid _ := hor
  clear hor
  go_enter Tryd.func18, Tryd.ntmps18
  go_wp2_with fail
  go_loopw [3, 4] (fun l i wr => ∃ q : Int, 0 ≤ q ∧ q ≤ (L.length : Int) ∧ i = .int .i64 q ∧ wr.ownsRow w.heap.size 22 1 l q.toNat ((L.take q.toNat).map (tsV c)) ∧ Below w.heap.size w wr) (fun l i wr => L.length - (intOf i).toNat)
  case atStart => exact ⟨0, by omega, by omega, rfl, World.ownsRow_nil _ _ _ _, Below.refl _ _⟩
  case round =>
    obtain ⟨q, hq0, hq, rfl, ho, hB⟩ := hrel
    have hsz := hB.size
    have k0 := (hB.cell (p := ⟨b, 0, none⟩) hbl).trans c0
    have k1 := (hB.cell (p := ⟨b, 1, none⟩) hbl).trans c1
    by_cases hlt : q < (L.length : Int)
    · obtain ⟨g, rfl, hgl, hcc⟩ := HOR.out.resolve_left (by omega)
      have k2 := (hB.cell (p := ⟨g, q.toNat, none⟩) hgl).trans (hcc q.toNat (by omega))
      have hsn : Hid _ := ts_snoc c L q.toNat (by omega)
      have hzb := hg.2 _ (getD_mem L q.toNat (by omega))
      obtain ⟨zI, hzI⟩ : ∃ zI : Int, Hid ((L.getD q.toNat 0 : Int) = zI) := ⟨_, rfl⟩
      rw [hzI.out] at k2
      have hzb2 : 0 ≤ zI ∧ zI < 65536 := by have := hzI.out; omega
      have hz32 : zI % 4294967296 = zI := by omega
      have hz32' : IntKind.u32.wrap zI = zI := by rw [IntKind.wrap_u32']; omega
      obtain ⟨yI, hyI⟩ : ∃ yI : Int, Hid (tsV c (L.getD q.toNat 0) = .int .u32 yI) := ⟨_, rfl⟩
      have C1 : Hid (∀ v : World, Calls Tryd.prog 22 #[.int .u32 (c : Int), .int .u32 zI] v fun e w' => e = .returned (.int .u32 yI) ∧ w' = v) := fun v => by
        refine (Ser.radd (c : Int) zI (by omega) (by omega) v).mono fun e w' hh => ⟨?_, hh.2.symm⟩
        rw [hh.1, ← hyI.out]; unfold tsV; rw [← hzI.out]; congr 2
      obtain ⟨kk, hkk⟩ : ∃ kk, Hid (q.toNat = kk) := ⟨_, rfl⟩
      generalize (L.take q.toNat).map (tsV c) = Y at ho hsn
      rw [hkk.out] at ho k2
      have hkb : kk ≤ 65536 := by have := hkk.out; omega
      have hb2 : b < wr.heap.size := by omega
      have hg2 : g < wr.heap.size := by omega
      have hqk : q.toNat = kk := hkk.out
      clear hcc
      go_wp2_with fail
      have hob : ∀ x : Nat, x < w.heap.size → some x ≠ u3.ownBlock := fun x hx e => by have := (ho.lt x e.symm).1; omega
      go_region_held3 (fun w' => w'.cell? ⟨b, 0, none⟩ = some (.int .u32 (c : Int)) ∧ w'.cell? ⟨b, 1, none⟩ = some (.slice (some ⟨g, 0, none⟩) L.length cap) ∧ w'.cell? ⟨g, kk, none⟩ = some (.int .i64 zI))
        (first
          | go_keep
          | (go_split_ands
             refine ⟨?_, ?_, ?_⟩
             · (rw [hgrow.cell_far _ (by simp; omega) (hob _ hbl)]; assumption)
             · (rw [hgrow.cell_far _ (by simp; omega) (hob _ hbl)]; assumption)
             · (rw [hgrow.cell_far _ (by simp; omega) (hob _ hgl)]; assumption)))
        (first
          | (go_at_call 22; refine Calls.mono (C1.out _) ?_; rintro e w' ⟨rfl, rfl⟩)
          | (refine step_append_lies _ (by rfl) _ _ _ (by rfl) w.heap.size 22 i0 _ 1 4 Tryd.underlying33 hi hz0 hz1 hz2 rfl (by omega) u3 kk _ (by rfl) ((ho.alloc _).drew) ⟨wr.heap.size, 0, none⟩ 1 1 [.int .u32 yI] (by rfl) (by rfl) (World.news_of_block (cs := #[.int .u32 yI]) (t := 22) (fr := (0, 0)) (heap_alloc_new wr _)) (by simp [Value.oneCell']) (by omega) (by unfold maxLen; omega) (by omega) (by simp; omega) (wr.heap.size + 1) (by simp) ?_; intro g2 cap2 w1' hown1 hgrow hat hlt1))
      go_wp2
      go_roundw
      case rel =>
        refine ⟨q + 1, by omega, by omega, rfl, ?_, ((hB.alloc hsz _).drew).grown hgrow (by simp; omega) (fun j hj => (ho.lt j hj).1)⟩
        rw [show (q + 1).toNat = kk + 1 by have := hkk.out; omega]
        have h9 := hsn.out
        rw [hyI.out, hkk.out] at h9
        rw [h9]; exact hown1
      case measure => simp only [intOf]; omega
    · have hqe : q = (L.length : Int) := by omega
      subst hqe
      rw [Int.toNat_natCast, List.take_length] at ho
      go_wp2
      go_ret
      exact ⟨_, rfl, ho, hB⟩

/-- the document's Missing, as far as it has come: element q, distance d -/
theorem mm_take_snoc : ∀ (L : List Nat) (b q : Nat), q < L.length → Up L → (∀ x ∈ L, b ≤ x) →
    mm b (L.take (q + 1)) = mm b (L.take q) ++ List.range' (if q = 0 then b else L.getD (q - 1) 0 + 1) (L.getD q 0 - (if q = 0 then b else L.getD (q - 1) 0 + 1))
  | [], _, _, h, _, _ => by simp at h
  | x :: xs, b, 0, _, _, _ => by simp [mm]
  | x :: xs, b, q + 1, h, hU, hb => by
    obtain ⟨h1, h2⟩ := List.pairwise_cons.1 hU
    have ih := mm_take_snoc xs (x + 1) q (by simpa using h) h2 (fun y hy => h1 y hy)
    rw [List.take_succ_cons, mm, ih, List.take_succ_cons, mm, List.append_assoc]
    congr 2
    cases q with
    | zero => simp
    | succ q => simp
end Go.Proofs.YtdifceikfnnfeaaDoor.Sp
