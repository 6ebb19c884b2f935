/-
  What came and is not fixed, as a set of its own; the rows that are told; a report.
  Conditions: the box was made by the package.
-/
import Derived.Test.YtdifceikfnnfeaaDoorInD
namespace Go.Proofs.YtdifceikfnnfeaaDoor.Sp.Inb
open Go.ChangeShapes Go.WideShapes Go.ChangeAt Go.RowKit
open Ba (hidden Has cell_lt heap_lt)
set_option linter.unusedVariables false
set_option maxRecDepth 20000
section
variable {n0 : Nat} {w : World} {b bc bf : Nat} {v : Value} {s : St} {K : Nat}
theorem loose_snoc {L F : List Nat} {k x : Nat} (h : L[k]? = some x) : loose (L.take (k + 1)) F = loose (L.take k) F ++ (if x ∈ F then [] else [x]) := by
  unfold loose
  rw [take_some h, List.filter_append]
  congr 1
  by_cases hx : x ∈ F
  · rw [if_pos hx, List.filter_cons_of_neg (by simp [hx])]; rfl
  · rw [if_neg hx, List.filter_cons_of_pos (by simp [hx])]; rfl
theorem loose_lt {L F : List Nat} (hL : Good 2 L) {k x : Nat} (h : L[k]? = some x) : ∀ y ∈ loose (L.take k) F, y < x := by
  intro y hy
  have hm := (List.mem_filter.1 hy).1
  obtain ⟨i, hi, rfl⟩ := List.mem_iff_getElem.1 hm
  obtain ⟨hk, rfl⟩ := List.getElem?_eq_some_iff.1 h
  rw [List.length_take] at hi
  rw [List.getElem_take]
  exact (List.pairwise_iff_getElem.1 hL.1) i k _ _ (by omega)
theorem is_in {c d : Nat} {L : List Nat} (hc : c < 4294967296) (h2 : 2 ≤ d) (h3 : d ≤ 65535) : isIn c L (ts c d) = decide (d ∈ L) := by
  have := ds_ts c d hc (by omega)
  unfold isIn
  rw [show Ser.dist 4294967296 (c : Int) ((ts c d : Nat) : Int) = (d : Int) from this, decide_eq_false (by omega), Int.toNat_natCast]
  rfl
/-- a number above all of them is put in -/
theorem add_last {X : World} {x c d : Nat} {M : List Nat} (h : IsSet X x c M) (h2 : 2 ≤ d) (h3 : d ≤ 65535) (hM : ∀ y ∈ M, y < d) : Calls Tryd.prog 67 #[.pointer (some ⟨x, 0, none⟩), .int .u32 (ts c d : Nat)] X fun e w' => ∃ u, e = .returned u ∧ IsSet w' x c (M ++ [d]) ∧ X.grownBy w' (some x) := by
  have hn : d ∉ M := fun hm => by have := hM d hm; omega
  have hi : isIn c M (ts c d) = false := by rw [is_in h.1 h2 h3]; exact decide_eq_false hn
  have hd := ds_ts c d h.1 (by omega)
  refine (add_ (ts c d) (ts_lt _ _) X h).mono ?_
  rintro e w' (⟨h4, _⟩ | ⟨_, h4, _⟩ | ⟨d', _, h4, _, _, _, rfl, hS, hg⟩)
  · rw [hi] at h4; cases h4
  · rw [show Ser.dist 4294967296 (c : Int) ((ts c d : Nat) : Int) = (d : Int) from hd] at h4; omega
  · rw [show Ser.dist 4294967296 (c : Int) ((ts c d : Nat) : Int) = (d : Int) from hd] at h4
    obtain rfl : d' = d := by omega
    obtain ⟨a1, a2⟩ := add_two h.2.1 h2
    rw [a1, a2, ins_high hM, show (c + 0) % 4294967296 = c by have := h.1; omega] at hS
    exact ⟨_, rfl, hS, hg⟩
/-- the loose ones -/
theorem loose_ (h : Cd n0 w b bc bf v s) : Calls Tryd.prog 64 #[.pointer (some ⟨b, 0, none⟩)] w fun e w' => ∃ x, e = .returned (.pointer (some ⟨x, 0, none⟩)) ∧ IsSet w' x s.c (loose s.L s.F) ∧ Below w.heap.size w w' := by
  obtain ⟨z, hq, hz, hz1, c0, c1, c2, c3, c4, c5, c6, c7, hf⟩ := h.cells
  have hc : s.c < 4294967296 := h.a.1
  have hL : Good 2 s.L := h.a.2.1
  have CU := hidden (cumS h.a)
  have NW := hidden (new_ s.c hc w)
  have AL := hidden (fun (X : World) (hX : Below w.heap.size w X) => allS ((h.later hX).a) ((h.later hX).t))
  have CC := hidden (fun (X : World) (hX : Below w.heap.size w X) => (⟨(hX.cell (p := ⟨b, 0, none⟩) (cell_lt c0)).trans c0, (hX.cell (p := ⟨b, 1, none⟩) (cell_lt c1)).trans c1⟩ : X.cell? ⟨b, 0, none⟩ = some (.pointer (some ⟨bc, 0, none⟩)) ∧ X.cell? ⟨b, 1, none⟩ = some (.pointer (some ⟨bf, 0, none⟩))))
  have HF := hidden (fun (X : World) (hX : Below w.heap.size w X) (t : Nat) (ht : t < 4294967296) => has_F (h.later hX) t ht)
  clear h hq hz c0 c1 c2 c3 c4 c5 c6 c7 hf
  go_enter Tryd.func64, Tryd.ntmps64
  obtain ⟨c0, c1⟩ := CC.out w (Below.refl _ _)
  go_wp2_with fail
  refine Calls.mono CU.out ?_
  rintro e w' ⟨rfl, rfl⟩
  go_wp2_with fail
  refine Calls.mono NW.out ?_
  rintro e w1 ⟨rfl, hS1, hg1⟩
  have hB1 : Below w.heap.size w w1 := grown0.below hg1
  have hx1 := hS1.lt
  obtain ⟨x, hx⟩ : ∃ x, Hid (w.heap.size = x) := ⟨_, rfl⟩
  rw [hx.out] at hS1 hx1 ⊢
  clear c0 c1 hg1
  obtain ⟨c0, c1⟩ := CC.out w1 hB1
  have HB1 := hidden hB1
  go_wp2_with fail
  refine Calls.mono (AL.out _ HB1.out) ?_
  rintro e w2 ⟨rv, rfl, ho, hB2⟩
  rw [us_ts] at ho
  obtain ⟨ra, rcap, rfl⟩ := Ba.own_len ho
  obtain ⟨rt, hrt⟩ : ∃ rt, Hid (s.L.map (ts s.c) = rt) := ⟨_, rfl⟩
  have hrl : s.L.length = rt.length := by rw [← hrt.out, List.length_map]
  rw [hrt.out, hrl] at ho
  have hB12 := HB1.out.trans (hB2.mono HB1.out.size)
  have hS2 := hS1.below hB2 hx1
  have HN := hidden hrl
  have HO := hidden ho
  have hlen := good_len hL
  rw [hrl] at hlen ⊢
  have hw2 := hB2.size
  clear hB1 hB2 hS1 c0 c1 ho hrl
  generalize rt.length = N at *
  go_wp2_with fail
  go_loopw [18] (fun i wr => ∃ k : Nat, k ≤ N ∧ i = .int .i64 (k : Int) ∧ IsSet wr x s.c (loose (s.L.take k) s.F) ∧ Below w.heap.size w wr ∧ wr.ownsRow w1.heap.size 22 1 (.slice ra N rcap) N (us rt)) (fun i wr => N - (intOf i).toNat)
  case atStart => exact ⟨0, by omega, rfl, hS2, hB12, HO.out⟩
  case round =>
    obtain ⟨k, hkN, rfl, hS, hB, ho⟩ := hrel
    obtain ⟨c0, c1⟩ := CC.out _ hB
    by_cases hlt : k < N
    · have hkL : k < s.L.length := by rw [HN.out]; exact hlt
      obtain ⟨d, hd⟩ : ∃ d, s.L[k]? = some d := ⟨_, List.getElem?_eq_getElem hkL⟩
      have hd2 := hL.2 d (List.mem_of_getElem? hd)
      have hrd : rt[k]? = some (ts s.c d) := by rw [← hrt.out, List.getElem?_map, hd]; rfl
      obtain ⟨rb, cap', e1, hb1, hb2, _⟩ := Ba.own_some ho (by omega)
      cases e1
      have hcell := ho.cellAt (g := rb) k (by omega)
      rw [us_at hrd] at hcell
      have HH := hidden (HF.out _ hB (ts s.c d) (ts_lt _ _))
      rw [is_in hc hd2.1 hd2.2] at HH
      have hlt' : (k : Int) < (N : Int) := by omega
      have E1 := hidden (loose_snoc (F := s.F) hd)
      have AD := hidden (add_last hS hd2.1 hd2.2 (loose_lt hL hd))
      have HS := hidden hS
      have HBr := hidden hB
      have HOr := hidden ho
      generalize ((ts s.c d : Nat) : Int) = tI at *
      clear hS hB ho hrd
      by_cases hm : d ∈ s.F
      · rw [decide_eq_true hm] at HH
        have E2 := E1.out
        rw [if_pos hm, List.append_nil] at E2
        have HE2 := hidden E2
        clear E1 E2 hm AD
        go_wp2_with fail
        refine Calls.mono HH.out ?_
        rintro e w' ⟨rfl, rfl⟩
        go_wp2
        go_roundw
        case rel => exact ⟨k + 1, hlt, rfl, by rw [HE2.out]; exact HS.out, HBr.out, HOr.out⟩
        case measure => simp only [intOf]; omega
      · rw [decide_eq_false hm] at HH
        have E2 := E1.out
        rw [if_neg hm] at E2
        have HE2 := hidden E2
        clear E1 E2 hm
        go_wp2_with fail
        refine Calls.mono HH.out ?_
        rintro e w' ⟨rfl, rfl⟩
        go_wp2_with fail
        refine Calls.mono AD.out ?_
        rintro e w3 ⟨u, rfl, hS3, hg3⟩
        have hm3 : Mod (fun k => k = x) wr w3 := Mod.grown hg3 (by rintro k e; cases e; rfl)
        have hB3 : Below w.heap.size w w3 := HBr.out.trans (hm3.below HBr.out.size (fun k hk => by have := hx.out; omega))
        have ho3 := hm3.own HOr.out (fun k hk hk2 => by
          have hk2 : k = x := hk2
          subst hk2
          obtain ⟨⟨cs, h1⟩, _⟩ := own_type HOr.out hk
          obtain ⟨cs', h2⟩ := IsSet.type HS.out
          exact absurd (has_type h1 h2) (by decide))
        rw [← HE2.out] at hS3
        have FN := hidden (⟨hS3, hB3, ho3⟩ : _ ∧ _ ∧ _)
        clear hS3 hB3 ho3 hm3 hg3
        go_wp2
        go_roundw
        case rel => exact ⟨k + 1, hlt, rfl, FN.out⟩
        case measure => simp only [intOf]; omega
    · obtain rfl : k = N := by omega
      have e1 : s.L.take k = s.L := by rw [← HN.out]; exact List.take_length
      rw [e1] at hS
      have FN := hidden (⟨hS, hB⟩ : _ ∧ _)
      clear hS hB ho
      go_wp2
      go_ret
      exact ⟨x, rfl, FN.out⟩
end
end Go.Proofs.YtdifceikfnnfeaaDoor.Sp.Inb
