/-
  What the document's Missing and Gaps do (package ropewalkref03).
  Conditions: the set's row rises, its numbers lie from 2 to 65535.
-/
import Derived.Test.YtllipbkpbopomaaDoorSpRefB
namespace Go.Proofs.YtllipbkpbopomaaDoor.Sp
open Go.RowKit Go.Shelf Go.ChangeShapes Go.WideShapes Go.ChangeAt
set_option linter.unusedVariables false

/-- where the next missing one may stand -/
def nextD (L : List Nat) (q : Nat) : Nat := if q = 0 then 1 else L.getD (q - 1) 0 + 1
theorem mm_pre : ∀ (L : List Nat) (b q : Nat), ∃ t, mm b L = mm b (L.take q) ++ t
  | [], b, q => ⟨[], by simp [mm]⟩
  | x :: xs, b, 0 => ⟨mm b (x :: xs), by simp [mm]⟩
  | x :: xs, b, q + 1 => by
    obtain ⟨t, ht⟩ := mm_pre xs (x + 1) q
    exact ⟨t, by rw [mm, ht, List.take_succ_cons, mm, List.append_assoc]⟩
/-- what has come by distance d is a beginning of all that is missing -/
theorem mm_part {L : List Nat} (hg : Good 2 L) {q : Nat} (hq : q < L.length) (d : Nat) (h1 : nextD L q ≤ d) (h2 : d ≤ L.getD q 0) : ∃ t, mm 1 L = (mm 1 (L.take q) ++ List.range' (nextD L q) (d - nextD L q)) ++ t := by
  obtain ⟨t, ht⟩ := mm_pre L 1 (q + 1)
  have hs := mm_take_snoc L 1 q hq hg.1 (fun x hx => by have := hg.2 x hx; omega)
  refine ⟨List.range' d (L.getD q 0 - d) ++ t, ?_⟩
  rw [ht, hs, List.append_assoc, List.append_assoc]
  congr 1
  rw [← List.append_assoc]
  congr 1
  show List.range' (nextD L q) (L.getD q 0 - nextD L q) = _
  rw [show L.getD q 0 - nextD L q = (d - nextD L q) + (L.getD q 0 - d) by omega, ← List.range'_append_1, show nextD L q + (d - nextD L q) = d by omega]
theorem nextD_le {L : List Nat} (hg : Good 2 L) {q : Nat} (hq : q < L.length) : nextD L q ≤ L.getD q 0 := by
  unfold nextD
  split
  · have := hg.2 _ (getD_mem L q hq); omega
  · have := (List.pairwise_iff_getElem.1 hg.1) (q - 1) q (by omega) hq (by omega)
    rw [List.getD_eq_getElem?_getD, List.getD_eq_getElem?_getD, List.getElem?_eq_getElem (by omega), List.getElem?_eq_getElem hq]
    exact this

/-- the first of the missing ones -/
def mtake (L : List Nat) (most : Int) : List Nat := (mm 1 L).take most.toNat

set_option maxRecDepth 20000 in
set_option maxHeartbeats 4000000 in
theorem rMissing (most : Int) (hmost : -1000 < most ∧ most < 1000) (w : World) {b c : Nat} {L : List Nat} (h : IsRef w b c L) :
    Calls Tryd.prog 23 #[.pointer (some ⟨b, 0, none⟩), .int .i64 most] w fun e w' => ∃ v, e = .returned v ∧ w'.ownsRow w.heap.size 22 1 v (mtake L most).length ((mtake L most).map (tsV c)) ∧ Below w.heap.size w w' := by
  have hc := h.1
  have hg := h.2.1
  have hlen := good_len hg
  have hbl := h.lt
  obtain ⟨i0, hi, hz0, hz1, hz2⟩ := info_parts info22
  obtain ⟨c0, a, cap, c1, hor⟩ := h.read
  have HOR : Hid _ := hor
  clear hor
  have hall : Hid ((mm 1 L).length ≤ 65535) := by have := miss_set hg; unfold Hid; omega
  have hfin : Hid (∀ X t : List Nat, mm 1 L = X ++ t → most ≤ (X.length : Int) → ((X.length : Int) ≤ most ∨ X.length = 0) → mtake L most = X) := by
    intro X t he h1 h2
    unfold mtake
    rw [he, List.take_append_of_le_length (by omega), List.take_of_length_le (by omega)]
  go_enter Tryd.func23, Tryd.ntmps23
  go_wp2_with fail
  go_loopw [5, 6, 7] (fun l d i wr => ∃ (q dI : Int) (X : List Nat), 0 ≤ q ∧ q ≤ (L.length : Int) ∧ i = .int .i64 q ∧ d = .int .i64 dI ∧ Hid (dI = nextD L q.toNat ∧ X = mm 1 (L.take q.toNat)) ∧ wr.ownsRow w.heap.size 22 1 l X.length (X.map (tsV c)) ∧ Below w.heap.size w wr ∧ ((X.length : Int) ≤ most ∨ X.length = 0)) (fun l d i wr => L.length - (intOf i).toNat)
  case atStart => exact ⟨0, 1, [], by omega, by omega, rfl, rfl, ⟨rfl, rfl⟩, World.ownsRow_nil _ _ _ _, Below.refl _ _, .inr rfl⟩
  case round =>
    obtain ⟨q, dI, X, hq0, hq, rfl, rfl, hdX, ho, hB, hm⟩ := hrel
    have hsz := hB.size
    have k0 := (hB.cell (p := ⟨b, 0, none⟩) hbl).trans c0
    have k1 := (hB.cell (p := ⟨b, 1, none⟩) hbl).trans c1
    by_cases hlt : q < (L.length : Int)
    · obtain ⟨g, rfl, hgl, hcc⟩ := HOR.out.resolve_left (by omega)
      have k2 := hcc q.toNat (by omega)
      have hnl : Hid (nextD L q.toNat ≤ L.getD q.toNat 0 ∧ L.getD q.toNat 0 ≤ 65535 ∧ 1 ≤ nextD L q.toNat) := ⟨nextD_le hg (by omega), (hg.2 _ (getD_mem L _ (by omega))).2, by unfold nextD; split <;> omega⟩
      have hprt : Hid (∀ d, nextD L q.toNat ≤ d → d ≤ L.getD q.toNat 0 → ∃ t, mm 1 L = (mm 1 (L.take q.toNat) ++ List.range' (nextD L q.toNat) (d - nextD L q.toNat)) ++ t) := fun d hd1 hd2 => mm_part hg (by omega) d hd1 hd2
      have hend : Hid (mm 1 (L.take (q + 1).toNat) = mm 1 (L.take q.toNat) ++ List.range' (nextD L q.toNat) (L.getD q.toNat 0 - nextD L q.toNat) ∧ nextD L (q + 1).toNat = L.getD q.toNat 0 + 1) := by
        refine ⟨?_, ?_⟩
        · rw [show (q + 1).toNat = q.toNat + 1 by omega]; exact mm_take_snoc L 1 q.toNat (by omega) hg.1 (fun x hx => by have := hg.2 x hx; omega)
        · unfold nextD; rw [if_neg (by omega), show (q + 1).toNat - 1 = q.toNat by omega]
      obtain ⟨zI, hzI⟩ : ∃ zI : Int, Hid ((L.getD q.toNat 0 : Int) = zI) := ⟨_, rfl⟩
      rw [hzI.out] at k2
      clear hcc
      go_wp2_with fail
      go_loopw [5, 6] (fun l d wr => ∃ (dJ : Int) (Y : List Nat), dI ≤ dJ ∧ dJ ≤ zI ∧ d = .int .i64 dJ ∧ Hid (Y = X ++ List.range' (nextD L q.toNat) (dJ.toNat - nextD L q.toNat)) ∧ wr.ownsRow w.heap.size 22 1 l Y.length (Y.map (tsV c)) ∧ Below w.heap.size w wr ∧ ((Y.length : Int) ≤ most ∨ Y.length = 0)) (fun l d wr => (zI - intOf d).toNat)
      case atStart =>
        refine ⟨dI, X, by omega, by have := hdX.out; have := hnl.out; have := hzI.out; omega, rfl, ?_, ho, hB, hm⟩
        show X = _
        rw [show dI.toNat - nextD L q.toNat = 0 by have := hdX.out; omega]; simp
      case round =>
        obtain ⟨dJ, Y, hj1, hj2, rfl, hY, ho1, hB1, hm1⟩ := hrel
        have hsz1 := hB1.size
        have j0 := (hB1.cell (p := ⟨b, 0, none⟩) hbl).trans c0
        have j1 := (hB1.cell (p := ⟨b, 1, none⟩) hbl).trans c1
        have j2 := (hB1.cell (p := ⟨g, q.toNat, none⟩) hgl).trans k2
        have hdI1 : 1 ≤ dI ∧ zI ≤ 65535 := by have := hdX.out; have := hnl.out; have := hzI.out; omega
        obtain ⟨tt, htt⟩ := hprt.out dJ.toNat (by have := hdX.out; omega) (by have := hzI.out; omega)
        rw [← hdX.out.2, ← hY.out] at htt
        have hYl : Y.length ≤ 65535 := by have h9 := hall.out; rw [htt, List.length_append] at h9; omega
        have HTT : Hid _ := htt
        clear htt
        obtain ⟨va, vc, rfl⟩ := row_len ho1
        by_cases hd : dJ < zI
        · by_cases hml : most ≤ (Y.length : Int)
          · have he : Hid _ := hfin.out Y tt HTT.out hml hm1
            go_wp2
            go_ret
            rw [he.out]
            exact ⟨_, rfl, ho1, hB1⟩
          · have hd32 : dJ % 4294967296 = dJ := by omega
            obtain ⟨yI, hyI⟩ : ∃ yI : Int, Hid (tsV c dJ.toNat = .int .u32 yI) := ⟨_, rfl⟩
            have C1 : Hid (∀ v : World, Calls Tryd.prog 11 #[.int .u32 (c : Int), .int .u32 dJ] v fun e w' => e = .returned (.int .u32 yI) ∧ v = w') := fun v => by
              refine (Ser.radd (c : Int) dJ (by omega) (by omega) v).mono fun e w' hh => ⟨?_, hh.2⟩
              rw [hh.1, ← hyI.out]; unfold tsV; congr 2; omega
            have hst : Hid (X ++ List.range' (nextD L q.toNat) ((dJ + 1).toNat - nextD L q.toNat) = Y ++ [dJ.toNat]) := by
              unfold Hid
              rw [hY.out, show (dJ + 1).toNat - nextD L q.toNat = (dJ.toNat - nextD L q.toNat) + 1 by have := hdX.out; omega, List.range'_concat, show nextD L q.toNat + 1 * (dJ.toNat - nextD L q.toNat) = dJ.toNat by have := hdX.out; omega, List.append_assoc]
            go_wp2_with fail
            refine Calls.mono (C1.out _) ?_
            rintro e w' ⟨rfl, rfl⟩
            go_wp2_with (at_builtin; refine wpList_append_own _ rfl _ _ 44 rfl w.heap.size 22 i0 (.int .u32 0) 1 4 Tryd.underlying44 hi hz0 hz1 hz2 rfl (by decide) _ _ _ rfl (ho1.alloc _) ⟨wr.heap.size, 0, none⟩ 1 1 [.int .u32 yI] rfl rfl (cell_one_new _ _ _) (by simp [Value.oneCell']) (by unfold maxLen; omega) (by omega) (by simp; omega) ?_)
            intro v' w2 ho2 hg2 _
            have hB2 : Below w.heap.size w w2 := (hB1.alloc hsz1 _).grown hg2 (by simp; omega) fun k hk => (ho1.lt k hk).1
            clear hg2
            have HO2 : Hid _ := ho2
            clear ho2
            go_wp2
            go_roundw
            case rel =>
              refine ⟨dJ + 1, Y ++ [dJ.toNat], by omega, by omega, rfl, hst.out.symm, ?_, hB2, .inl (by simp; omega)⟩
              rw [List.length_append, List.map_append, show [dJ.toNat].map (tsV c) = [Value.int .u32 yI] by rw [← hyI.out]; rfl]
              exact HO2.out
            case measure => simp only [intOf]; omega
        · have hdz : dJ = zI := by omega
          subst hdz
          go_wp2
          go_roundw
          case rel =>
            refine ⟨q + 1, dJ + 1, Y, by omega, by omega, rfl, rfl, ⟨?_, ?_⟩, ho1, hB1, hm1⟩
            · rw [hend.out.2]; have := hzI.out; omega
            · rw [hend.out.1, hY.out, hdX.out.2, show dJ.toNat = L.getD q.toNat 0 by have := hzI.out; omega]
          case measure => simp only [intOf]; omega
    · have hqe : q = (L.length : Int) := by omega
      subst hqe
      have hX : Hid (X = mm 1 L) := by have := hdX.out.2; rw [Int.toNat_natCast, List.take_length] at this; exact this
      go_wp2
      go_ret
      rw [show mtake L most = X by unfold mtake; rw [← hX.out]; exact List.take_of_length_le (by omega)]
      exact ⟨_, rfl, ho, hB⟩
end Go.Proofs.YtllipbkpbopomaaDoor.Sp
