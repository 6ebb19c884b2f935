/-
  What the document's Add does (package ropewalkref03).
  Conditions: the set's row rises, its numbers lie from 2 to 65535.
-/
import Derived.Test.YtdifceikfnnfeaaDoorSpRef
import Derived.Deep.RegionLaw
namespace Go.Proofs.YtdifceikfnnfeaaDoor.Sp
open Go.RowKit Go.Shelf Go.ChangeShapes Go.WideShapes Go.ChangeAt
set_option linter.unusedVariables false

theorem grown20 (w : World) (b : Nat) (u v : Value) : w.grownBy ((w.setCell ⟨b, 0, none⟩ u).setCell ⟨b, 1, none⟩ v) (some b) :=
  grownBy_set (a := ⟨b, 1, none⟩) (grownBy_set (a := ⟨b, 0, none⟩) (World.grownBy.refl w (some b)) rfl u) rfl v
theorem own_zero {w : World} {base e size n : Nat} {v : Value} {xs : List Value} (h : w.ownsRow base e size v n xs) : w.ownsRow 0 e size v n xs := by
  refine ⟨h.1, ?_⟩
  rcases h.2 with h9 | ⟨g9, cap9, cur9, h9, _, r9⟩
  · exact .inl h9
  · exact .inr ⟨g9, cap9, cur9, h9, Nat.zero_le _, r9⟩
theorem World.grownBy.andThen' {w w' : World} (h : w.grownBy w' none) (row : Option Nat) : w.grownBy w' row := ⟨h.os, h.tape, h.output, h.size, fun k hk _ => h.block k hk (by simp)⟩
theorem own_type {w : World} {base e size n m gl cap : Nat} {xs : List Value} (h : w.ownsRow base e size (.slice (some ⟨gl, 0, none⟩) m cap) n xs) : ∃ cur, w.heap[gl]? = some (.cells cur e (0, 0)) := by
  rcases h.2 with ⟨h9, _⟩ | ⟨g9, cap9, cur9, h9, _, hg9, _⟩
  · simp at h9
  · simp at h9; exact ⟨cur9, h9.1 ▸ hg9⟩
/-- one step of the document's Add -/
def insStep (d : Nat) (s : Bool × List Nat) (x : Nat) : Bool × List Nat := if s.1 = false ∧ d < x then (true, s.2 ++ [d, x]) else (s.1, s.2 ++ [x])
def insFin (d : Nat) (s : Bool × List Nat) : List Nat := if s.1 then s.2 else s.2 ++ [d]
theorem fold_true (d : Nat) : ∀ (L acc : List Nat), L.foldl (insStep d) (true, acc) = (true, acc ++ L)
  | [], acc => by simp
  | x :: xs, acc => by rw [List.foldl_cons]; simp only [insStep]; rw [if_neg (by simp), fold_true d xs]; simp
theorem fold_ins (d : Nat) : ∀ (L acc : List Nat), insFin d (L.foldl (insStep d) (false, acc)) = acc ++ ins d L
  | [], acc => by simp [insFin, ins]
  | x :: xs, acc => by
    rw [List.foldl_cons, ins]
    by_cases h : d < x
    · simp only [insStep]
      rw [if_pos ⟨by trivial, h⟩, fold_true, if_pos h]; simp [insFin]
    · simp only [insStep]
      rw [if_neg (by simp [h]), fold_ins d xs, if_neg h]; simp
theorem fold_snoc (d : Nat) (L : List Nat) (q : Nat) (hq : q < L.length) : (L.take (q + 1)).foldl (insStep d) (false, []) = insStep d ((L.take q).foldl (insStep d) (false, [])) (L.getD q 0) := by
  rw [List.take_add_one, List.getElem?_eq_getElem hq, List.foldl_append, List.getD_eq_getElem?_getD, List.getElem?_eq_getElem hq]; rfl
theorem fold_len (d : Nat) : ∀ (L : List Nat) (s : Bool × List Nat), (L.foldl (insStep d) s).2.length ≤ s.2.length + 2 * L.length
  | [], s => by simp
  | x :: xs, s => by
    rw [List.foldl_cons]
    have h := fold_len d xs (insStep d s x)
    have : (insStep d s x).2.length ≤ s.2.length + 2 := by unfold insStep; split <;> simp
    simp; omega

set_option maxRecDepth 20000 in
set_option maxHeartbeats 8000000 in
theorem rAdd (t : Nat) (ht : t < 4294967296) (w : World) {b c : Nat} {L : List Nat} (h : IsRef w b c L) :
    Calls Tryd.prog 49 #[.pointer (some ⟨b, 0, none⟩), .int .u32 (t : Int)] w fun e w' =>
      (isIn c L t = true ∧ e = .returned (.tuple #[.bool false, .int .i64 0]) ∧ w = w') ∨
      (isIn c L t = false ∧ 65535 < Ser.dist 4294967296 (c : Int) (t : Int) ∧ e = .returned (.tuple #[.bool false, .int .i64 31]) ∧ w = w') ∨
      (∃ d : Nat, isIn c L t = false ∧ Ser.dist 4294967296 (c : Int) (t : Int) = d ∧ d ≤ 65535 ∧ 1 ≤ d ∧ d ∉ L ∧ e = .returned (.tuple #[.bool true, .int .i64 0]) ∧ IsRef w' b ((c + addN d L) % 4294967296) (addL d L) ∧ w.grownBy w' (some b)) := by
  have hc := h.1
  have hg := h.2.1
  have hlen := good_len hg
  have hb := Ser.dist32_bounds (c : Int) (t : Int)
  obtain ⟨i0, hi, hz0, hz1, hz2⟩ := info_parts info3
  obtain ⟨c0, a, cap, c1, hor⟩ := h.read
  have hhb : w.heap[b]? = some (.cells #[.int .u32 (c : Int), .slice a L.length cap] 54 (0, 0)) := by
    obtain ⟨_, _, v, h3, _⟩ := h
    have : w.cell? ⟨b, 1, none⟩ = some v := by simp [World.cell?, h3]
    rw [c1] at this; cases this; exact h3
  go_enter Tryd.func49, Tryd.ntmps49
  go_wp2_with fail
  refine (Ser.rdiff (c : Int) (t : Int) (by omega) (by omega) _).mono ?_
  rintro e w' ⟨rfl, rfl⟩
  go_wp2_with fail
  refine (rHas t ht _ h).mono ?_
  rintro e w' ⟨rfl, rfl⟩
  by_cases hin : isIn c L t = true
  · rw [hin]
    have HI : Hid (isIn c L t = true) := hin
    clear hin hor
    go_wp2
    go_ret2
    exact .inl ⟨HI.out, rfl, rfl⟩
  · have hin' : isIn c L t = false := by simpa using hin
    rw [hin']
    have HI : Hid (isIn c L t = false) := hin'
    clear hin hin'
    obtain ⟨d, h1, h2, h3, h4⟩ := (dist_cases c t hc ht).resolve_left (fun h0 => by have := HI.out; unfold isIn at this; rw [decide_eq_true h0] at this; cases this)
    have hd : Hid (d ∉ L) := by
      have := HI.out; unfold isIn at this; rw [h3, Int.toNat_natCast] at this
      intro hm; rw [decide_eq_true hm] at this; simp at this
    rw [h3]
    have H3 : Hid (Ser.dist 4294967296 (c : Int) (t : Int) = (d : Int)) := h3
    clear h3 hb
    obtain ⟨dI, hdI⟩ : ∃ dI : Int, Hid ((d : Int) = dI) := ⟨_, rfl⟩
    rw [hdI.out]
    have hdb : 1 ≤ dI ∧ dI < 2147483648 := by have := hdI.out; omega
    by_cases h5 : dI ≤ 65535
    · have HOR : Hid _ := hor
      clear hor
      go_wp2_with fail
      go_loopw [7, 8, 9] (fun l dn i wr => ∃ q : Int, 0 ≤ q ∧ q ≤ (L.length : Int) ∧ i = .int .i64 q ∧ ∃ st, dn = .bool st.1 ∧ Hid (st = (L.take q.toNat).foldl (insStep d) (false, [])) ∧ wr.ownsRow w.heap.size 3 1 l st.2.length (st.2.map intV) ∧ Below w.heap.size w wr) (fun l dn i wr => L.length - (intOf i).toNat)
      case atStart => exact ⟨0, by omega, by omega, rfl, (false, []), rfl, rfl, World.ownsRow_nil _ _ _ _, Below.refl _ _⟩
      case round =>
        obtain ⟨q, hq0, hq, rfl, ⟨dn, X⟩, rfl, hst, ho, hB⟩ := hrel
        have hbl := h.lt
        have hsz := hB.size
        have k0 := (hB.cell (p := ⟨b, 0, none⟩) hbl).trans c0
        have k1 := (hB.cell (p := ⟨b, 1, none⟩) hbl).trans c1
        have hX : X.length ≤ 131072 := by
          have h9 := fold_len d (L.take q.toNat) (false, [])
          rw [← hst.out, List.length_take] at h9
          simp at h9; omega
        simp only at ho
        by_cases hlt : q < (L.length : Int)
        · obtain ⟨g, rfl, hgl, hcc⟩ := HOR.out.resolve_left (by omega)
          have k2 := (hB.cell (p := ⟨g, q.toNat, none⟩) hgl).trans (hcc q.toNat (by omega))
          have hsn : Hid _ := fold_snoc d L q.toNat (by omega)
          obtain ⟨zI, hzI⟩ : ∃ zI : Int, Hid ((L.getD q.toNat 0 : Int) = zI) := ⟨_, rfl⟩
          rw [hzI.out] at k2
          clear hcc
          by_cases hbr : dn = false ∧ dI < zI
          · obtain ⟨rfl, hdz⟩ := hbr
            have hnew : Hid ((L.take (q + 1).toNat).foldl (insStep d) (false, []) = (true, X ++ [d, L.getD q.toNat 0])) := by
              unfold Hid
              rw [show (q + 1).toNat = q.toNat + 1 by omega, hsn.out, ← hst.out]
              unfold insStep
              rw [if_pos ⟨rfl, by have := hdI.out; have := hzI.out; omega⟩]
            go_wp2_with (at_builtin; refine wpList_append_own _ rfl _ _ 52 rfl w.heap.size 3 i0 (.int .i64 0) 1 8 Tryd.underlying52 hi hz0 hz1 hz2 rfl (by decide) _ _ _ rfl (ho.alloc _) ⟨wr.heap.size, 0, none⟩ 1 1 [.int .i64 dI] rfl rfl (cell_one_new _ _ _) (by simp [Value.oneCell']) (by unfold maxLen; omega) (by omega) (by simp; omega) ?_)
            intro v' w2 ho2 hg2 _
            have hB2 : Below w.heap.size w w2 := (hB.alloc hsz _).grown hg2 (by simp; omega) fun k hk => (ho.lt k hk).1
            have hsz2 := hB2.size
            have k0' := (hB2.cell (p := ⟨b, 0, none⟩) hbl).trans c0
            have k1' := (hB2.cell (p := ⟨b, 1, none⟩) hbl).trans c1
            have k2' := (hB2.cell (p := ⟨g, q.toNat, none⟩) hgl).trans (((hB.cell (p := ⟨g, q.toNat, none⟩) hgl).symm).trans k2)
            clear hg2 k0 k1 k2 ho
            go_wp2_with (at_builtin; refine wpList_append_own _ rfl _ _ 52 rfl w.heap.size 3 i0 (.int .i64 0) 1 8 Tryd.underlying52 hi hz0 hz1 hz2 rfl (by decide) _ _ _ rfl (ho2.alloc _) ⟨w2.heap.size, 0, none⟩ 1 1 [.int .i64 zI] rfl rfl (cell_one_new _ _ _) (by simp [Value.oneCell']) (by unfold maxLen; omega) (by omega) (by simp; omega) ?_)
            intro v3 w3 ho3 hg3 _
            have hB3 : Below w.heap.size w w3 := (hB2.alloc hsz2 _).grown hg3 (by simp; omega) fun k hk => (ho2.lt k hk).1
            clear hg3 ho2
            have HO3 : Hid _ := ho3
            clear ho3
            go_wp2
            go_roundw
            case rel =>
              refine ⟨q + 1, by omega, by omega, rfl, (true, X ++ [d, L.getD q.toNat 0]), rfl, hnew.out.symm, ?_, hB3⟩
              have h9 := HO3.out
              simp only [List.length_append, List.map_append, List.length_cons, List.length_nil, List.map_cons, List.map_nil]
              rw [show intV d = .int .i64 dI by unfold intV; rw [hdI.out], show intV (L.getD q.toNat 0) = .int .i64 zI by unfold intV; rw [hzI.out]]
              exact h9
            case measure => simp only [intOf]; omega
          · have hnew : Hid ((L.take (q + 1).toNat).foldl (insStep d) (false, []) = (dn, X ++ [L.getD q.toNat 0])) := by
              unfold Hid
              rw [show (q + 1).toNat = q.toNat + 1 by omega, hsn.out, ← hst.out]
              unfold insStep
              rw [if_neg (fun hh => hbr ⟨hh.1, by have := hdI.out; have := hzI.out; omega⟩)]
            have htest : dn = true ∨ (dn = false ∧ ¬ dI < zI) := by cases dn <;> simp_all
            clear hbr
            rcases htest with rfl | ⟨rfl, hbr⟩
            · go_wp2_with (at_builtin; refine wpList_append_own _ rfl _ _ 52 rfl w.heap.size 3 i0 (.int .i64 0) 1 8 Tryd.underlying52 hi hz0 hz1 hz2 rfl (by decide) _ _ _ rfl (ho.alloc _) ⟨wr.heap.size, 0, none⟩ 1 1 [.int .i64 zI] rfl rfl (cell_one_new _ _ _) (by simp [Value.oneCell']) (by unfold maxLen; omega) (by omega) (by simp; omega) ?_)
              intro v' w2 ho2 hg2 _
              have hB2 : Below w.heap.size w w2 := (hB.alloc hsz _).grown hg2 (by simp; omega) fun k hk => (ho.lt k hk).1
              clear hg2 ho
              have HO2 : Hid _ := ho2
              clear ho2
              go_wp2
              go_roundw
              case rel =>
                refine ⟨q + 1, by omega, by omega, rfl, (true, X ++ [L.getD q.toNat 0]), rfl, hnew.out.symm, ?_, hB2⟩
                simp only [List.length_append, List.map_append, List.length_cons, List.length_nil, List.map_cons, List.map_nil]
                rw [show intV (L.getD q.toNat 0) = .int .i64 zI by unfold intV; rw [hzI.out]]
                exact HO2.out
              case measure => simp only [intOf]; omega
            · go_wp2_with (at_builtin; refine wpList_append_own _ rfl _ _ 52 rfl w.heap.size 3 i0 (.int .i64 0) 1 8 Tryd.underlying52 hi hz0 hz1 hz2 rfl (by decide) _ _ _ rfl (ho.alloc _) ⟨wr.heap.size, 0, none⟩ 1 1 [.int .i64 zI] rfl rfl (cell_one_new _ _ _) (by simp [Value.oneCell']) (by unfold maxLen; omega) (by omega) (by simp; omega) ?_)
              intro v' w2 ho2 hg2 _
              have hB2 : Below w.heap.size w w2 := (hB.alloc hsz _).grown hg2 (by simp; omega) fun k hk => (ho.lt k hk).1
              clear hg2 ho
              have HO2 : Hid _ := ho2
              clear ho2
              go_wp2
              go_roundw
              case rel =>
                refine ⟨q + 1, by omega, by omega, rfl, (false, X ++ [L.getD q.toNat 0]), rfl, hnew.out.symm, ?_, hB2⟩
                simp only [List.length_append, List.map_append, List.length_cons, List.length_nil, List.map_cons, List.map_nil]
                rw [show intV (L.getD q.toNat 0) = .int .i64 zI by unfold intV; rw [hzI.out]]
                exact HO2.out
              case measure => simp only [intOf]; omega
        · have hst' : Hid (insFin d (dn, X) = ins d L) := by
            unfold Hid
            have h9 := fold_ins d L []
            rw [hst.out, show q.toNat = L.length by omega, List.take_length]
            simpa using h9
          clear hst
          cases dn
          · have hlv : Hid (X ++ [d] = ins d L) := hst'.out
            go_wp2_with (at_builtin; refine wpList_append_own _ rfl _ _ 52 rfl w.heap.size 3 i0 (.int .i64 0) 1 8 Tryd.underlying52 hi hz0 hz1 hz2 rfl (by decide) _ _ _ rfl (ho.alloc _) ⟨wr.heap.size, 0, none⟩ 1 1 [.int .i64 dI] rfl rfl (cell_one_new _ _ _) (by simp [Value.oneCell']) (by unfold maxLen; omega) (by omega) (by simp; omega) ?_)
            intro lv wa ho2 hg2 _
            have hBa : Below w.heap.size w wa := (hB.alloc hsz _).grown hg2 (by simp; omega) fun k hk => (ho.lt k hk).1
            have hol : wa.ownsRow w.heap.size 3 1 lv (ins d L).length ((ins d L).map intV) := by
              rw [← hlv.out, List.length_append, List.map_append, show [d].map intV = [Value.int .i64 dI] by rw [← hdI.out]; rfl]
              exact ho2
            clear ho ho2 hg2 k0 k1 hX
            obtain ⟨gl, lcap, rfl⟩ := ownsRow_succ (show wa.ownsRow w.heap.size 3 1 lv (L.length + 1) _ from (length_ins d L) ▸ hol)
            have hcl : ∀ j : Nat, j < (ins d L).length → wa.cell? ⟨gl, j, none⟩ = some (.int .i64 ((ins d L).getD j 0 : Int)) := fun j hj => by
              rw [length_ins] at hol hj
              rw [hol.cellAt j (by omega), List.getElem?_map, List.getElem?_eq_getElem (by rw [length_ins]; omega), List.getD_eq_getElem?_getD, List.getElem?_eq_getElem (by rw [length_ins]; omega)]; rfl
            have hll := lead_le (ins d L) 0
            have HLA : Hid (∀ k, k < lead (ins d L) 0 → (ins d L)[k]? = some (0 + k + 1)) := lead_at (ins d L) 0
            have HLS : Hid ((ins d L)[lead (ins d L) 0]? ≠ some (0 + lead (ins d L) 0 + 1)) := lead_stop (ins d L) 0
            have hli := length_ins d L
            obtain ⟨n, hn⟩ : ∃ n, Hid (lead (ins d L) 0 = n) := ⟨_, rfl⟩
            rw [hn.out, hli] at hll
            rw [hn.out] at HLA HLS
            rw [hli] at hcl
            go_wp2_with fail
            go_loop [10] (fun i => ∃ q : Int, 0 ≤ q ∧ q ≤ (n : Int) ∧ i = .int .i64 q) (fun i => n - (intOf i).toNat)
            case atStart => exact ⟨0, by omega, by omega, rfl⟩
            case round =>
              obtain ⟨q, hq0, hq, rfl⟩ := hrel
              by_cases hlt2 : q < (n : Int)
              · have k3 := hcl q.toNat (by omega)
                have h9 := HLA.out q.toNat (by omega)
                rw [List.getD_eq_getElem?_getD, h9, Option.getD_some, show ((0 + q.toNat + 1 : Nat) : Int) = q + 1 by omega] at k3
                have hql : q < (L.length : Int) + 1 := by omega
                clear h9 hcl hol
                go_wp2
                go_round
                case rel => exact ⟨q + 1, by omega, by omega, rfl⟩
                case measure => simp only [intOf]; omega
              · have hqn : q = (n : Int) := by omega
                subst hqn
                by_cases hfull : (n : Int) < (L.length : Int) + 1
                · have k3 := hcl n (by omega)
                  have hz : Hid ((ins d L).getD n 0 ≠ n + 1) := fun e => HLS.out (by
                    rw [List.getElem?_eq_getElem (by rw [hli]; omega)]
                    rw [List.getD_eq_getElem?_getD, List.getElem?_eq_getElem (by rw [hli]; omega)] at e
                    simp at e; rw [e]; congr 1; omega)
                  obtain ⟨zI, hzI⟩ : ∃ zI : Int, Hid (((ins d L).getD n 0 : Int) = zI) := ⟨_, rfl⟩
                  rw [hzI.out] at k3
                  have hzn : (zI == (n : Int) + 1) = false := by
                    have := hz.out; have := hzI.out
                    simp; omega
                  have hcn : (n : Int) % 4294967296 = (n : Int) := by omega
                  have hbWA : wa.heap[b]? = some (.cells #[.int .u32 (c : Int), .slice a L.length cap] 54 (0, 0)) := (hBa.block b hbl).trans hhb
                  have k0 : wa.cell? ⟨b, 0, none⟩ = some (.int .u32 (c : Int)) := by simp [World.cell?, hbWA]
                  have f0 : ∀ i : Nat, wa.frozen? ⟨b, i, none⟩ = false := fun i => by simp [World.frozen?, hbWA]
                  have k1 : wa.cell? ⟨b, 1, none⟩ = some (.slice a L.length cap) := by simp [World.cell?, hbWA]
                  go_wp2_with fail
                  refine (Ser.radd (c : Int) (n : Int) (by omega) (by omega) _).mono ?_
                  rintro e w' ⟨rfl, rfl⟩
                  obtain ⟨cI, hcI⟩ : ∃ cI : Int, Hid (((c : Int) + (n : Int)) % 4294967296 = cI) := ⟨_, rfl⟩
                  rw [hcI.out]
                  go_wp2_with fail
                  obtain ⟨wb, hwb⟩ : ∃ wb, (wa.setCell ⟨b, 0, none⟩ (.int .u32 cI)).setCell ⟨b, 1, none⟩ (.slice none 0 0) = wb := ⟨_, rfl⟩
                  have hbWB : wb.heap[b]? = some (.cells #[.int .u32 cI, .slice none 0 0] 54 (0, 0)) := by
                    rw [← hwb, heap_set _ b 1 _ (heap_set _ b 0 _ hbWA)]; rfl
                  have hgWB : wa.grownBy wb (some b) := by rw [← hwb]; exact grown20 _ _ _ _
                  have hszB : wb.heap.size = wa.heap.size := by rw [← hwb]; simp [World.setCell]
                  try rw [hwb]
                  clear hwb k0 k1 f0
                  go_loopw [11] (fun i wr => ∃ (q : Int) (v : Value), (n : Int) ≤ q ∧ q ≤ (L.length : Int) + 1 ∧ i = .int .i64 q ∧ wr.heap[b]? = some (.cells #[.int .u32 cI, v] 54 (0, 0)) ∧ wr.ownsRow wb.heap.size 3 1 v (q - (n : Int)).toNat ((((ins d L).drop n).take (q - (n : Int)).toNat).map (fun x => intV (x - n))) ∧ wb.grownBy wr (some b)) (fun i wr => L.length + 1 - (intOf i).toNat)
                  case atStart => exact ⟨(n : Int), _, by omega, by omega, rfl, hbWB, by rw [Int.sub_self]; exact World.ownsRow_nil _ _ _ _, World.grownBy.refl _ _⟩
                  case round =>
                    obtain ⟨q, v, hq0, hq, rfl, hbr, hor, hgr⟩ := hrel
                    obtain ⟨lcur, hlb⟩ := own_type hol
                    have hglb : gl ≠ b := fun e => by rw [e, hbWA] at hlb; cases hlb
                    have hgla : gl < wb.heap.size := by rw [hszB]; exact (Array.getElem?_eq_some_iff.1 hlb).1
                    obtain ⟨va, vcap, rfl⟩ := row_len hor
                    have hszr := hgr.size
                    have k0 : wr.cell? ⟨b, 0, none⟩ = some (.int .u32 cI) := by simp [World.cell?, hbr]
                    have k1 : wr.cell? ⟨b, 1, none⟩ = some (.slice va (q - (n : Int)).toNat vcap) := by simp [World.cell?, hbr]
                    have f1 : wr.frozen? ⟨b, 1, none⟩ = false := by simp [World.frozen?, hbr]
                    by_cases hlt : q < (L.length : Int) + 1
                    · have k3 : wr.cell? ⟨gl, q.toNat, none⟩ = some (.int .i64 ((ins d L).getD q.toNat 0 : Int)) :=
                        ((World.cell?_of_block (hgr.block gl hgla (by simpa using hglb))).trans (World.cell?_of_block (hgWB.block gl (by omega) (by simpa using hglb)))).trans (hcl q.toNat (by omega))
                      have hnx : Hid ((((ins d L).drop n).take (q + 1 - (n : Int)).toNat).map (fun x => intV (x - n)) = (((ins d L).drop n).take (q - (n : Int)).toNat).map (fun x => intV (x - n)) ++ [intV ((ins d L).getD q.toNat 0 - n)]) := by
                        unfold Hid
                        rw [show (q + 1 - (n : Int)).toNat = (q - (n : Int)).toNat + 1 by omega, List.take_add_one, List.getElem?_drop, show n + (q - (n : Int)).toNat = q.toNat by omega, List.getElem?_eq_getElem (by rw [hli]; omega), List.map_append, List.getD_eq_getElem?_getD, List.getElem?_eq_getElem (by rw [hli]; omega)]; rfl
                      have hzz : Hid (n + 1 ≤ (ins d L).getD q.toNat 0 ∧ (ins d L).getD q.toNat 0 ≤ 65535) := by
                        have hgi := good_ins hg hd.out (by have := hdI.out; omega : 1 ≤ d ∧ d ≤ 65535) (by decide)
                        have hm : (ins d L).getD q.toNat 0 ∈ ins d L := by rw [List.getD_eq_getElem?_getD, List.getElem?_eq_getElem (by rw [hli]; omega)]; exact List.getElem_mem _
                        have hm2 : (ins d L).getD q.toNat 0 ∈ (ins d L).drop n := by
                          rw [List.mem_iff_getElem?]
                          exact ⟨(q - (n : Int)).toNat, by rw [List.getElem?_drop, show n + (q - (n : Int)).toNat = q.toNat by omega, List.getElem?_eq_getElem (by rw [hli]; omega), List.getD_eq_getElem?_getD, List.getElem?_eq_getElem (by rw [hli]; omega)]; rfl⟩
                        exact ⟨lead_drop hgi n (by rw [hn.out]; exact Nat.le_refl _) _ hm2, (hgi.2 _ hm).2⟩
                      obtain ⟨yI, hyI⟩ : ∃ yI : Int, Hid (((ins d L).getD q.toNat 0 : Int) = yI) := ⟨_, rfl⟩
                      rw [hyI.out] at k3
                      have hyb : (n : Int) + 1 ≤ yI ∧ yI ≤ 65535 := by have := hyI.out; have := hzz.out; omega
                      have hwr : IntKind.i64.wrap (yI - (n : Int)) = yI - (n : Int) := by rw [IntKind.wrap_i64]; omega
                      have hkb : (q - (n : Int)).toNat ≤ 65537 := by omega
                      obtain ⟨kk, hkk⟩ : ∃ kk, Hid ((q - (n : Int)).toNat = kk) := ⟨_, rfl⟩
                      generalize (((ins d L).drop n).take (q - (n : Int)).toNat).map (fun x => intV (x - n)) = Y at hor hnx
                      rw [hkk.out] at hor k1 hkb
                      have hbl2 : b < wr.heap.size := (Array.getElem?_eq_some_iff.1 hbr).1
                      have hq00 : 0 ≤ q := by omega
                      have hnb : some b ≠ (Value.slice va kk vcap).ownBlock := fun e => by have := (hor.lt b e.symm).1; rw [hszB] at this; have := (Array.getElem?_eq_some_iff.1 hbWA).1; omega
                      have hbr' : wr.heap[b]? = some (.cells #[.int .u32 cI, .slice va kk vcap] 54 (0, 0)) := by rw [← hkk.out]; exact hbr
                      clear hcl
                      go_wp2_with fail
                      go_region_law (refine step_append_lies _ (by rfl) _ _ _ (by rfl) wb.heap.size 3 i0 _ 1 8 Tryd.underlying52 hi hz0 hz1 hz2 rfl (by omega) (.slice va kk vcap) kk _ (by rfl) ((hor.alloc _).drew) ⟨wr.heap.size, 0, none⟩ 1 1 [.int .i64 (yI - (n : Int))] (by rfl) (by rfl) (World.news_of_block (cs := #[.int .i64 (yI - (n : Int))]) (t := 3) (fr := (0, 0)) (heap_alloc_new wr _)) (by simp [Value.oneCell']) (by omega) (by unfold maxLen; omega) (by omega) (by simp; omega) (wr.heap.size + 1) (by simp) ?_; intro g cap2 w1' hown1 hgrow hat hlt1; have hbw : w1'.heap[b]? = some (.cells #[.int .u32 cI, .slice va kk vcap] 54 (0, 0)) := (hgrow.block b (by simp; omega) hnb).trans ((Below.heap_alloc wr _ b hbl2).trans hbr'); have kw : w1'.cell? ⟨b, 1, none⟩ = some (.slice va kk vcap) := (by simp [World.cell?, hbw]); have fw : w1'.frozen? ⟨b, 1, none⟩ = false := (by simp [World.frozen?, hbw]))
                      all_goals (go_wp2; go_roundw)
                      all_goals first
                        | (simp only [intOf]; omega)
                        | (refine ⟨q + 1, _, by omega, by omega, rfl, by rw [heap_set w1' b 1 _ hbw]; rfl, ?_, ?_⟩
                           · have hgb : g ≠ b := fun e => by have := (hown1.lt g rfl).1; rw [hszB] at this; have := (Array.getElem?_eq_some_iff.1 hbWA).1; omega
                             rw [hnx.out, show (q + 1 - (n : Int)).toNat = kk + 1 by have := hkk.out; omega, show intV ((ins d L).getD q.toNat 0 - n) = .int .i64 (yI - (n : Int)) by unfold intV; congr 1; have := hyI.out; have := hzz.out; omega]
                             exact ownsRow_setCell_other (a := ⟨b, 1, none⟩) hown1 (fun e => hgb (by simpa [Value.ownBlock] using e)) _
                           · exact grownBy_set (a := ⟨b, 1, none⟩) (hgr.andThen ((World.grownBy_alloc wr _ _).trans ⟨hgrow.os, hgrow.tape, hgrow.output, hgrow.size, hgrow.block⟩) (fun j hj => .inl (hor.lt j hj).1)) rfl _)
                    · have hqe : q = (L.length : Int) + 1 := by omega
                      subst hqe
                      have hgi := good_ins hg hd.out (by have := hdI.out; omega : 1 ≤ d ∧ d ≤ 65535) (by decide)
                      have hgb2 : Hid (Good 2 (addL d L) ∧ addN d L = n ∧ addL d L = back n (ins d L)) := ⟨good_two (good_back hgi _ (Nat.le_refl _)) (back_stop hgi), hn.out, by unfold addL addN; rw [hn.out]⟩
                      clear hcl
                      go_wp2
                      go_ret2
                      have e1 : ((L.length : Int) + 1 - (n : Int)).toNat = L.length + 1 - n := by omega
                      rw [e1] at hor hbr
                      refine .inr (.inr ⟨HI.out, d, H3.out, by have := hdI.out; omega, h1, hd.out, rfl, ⟨by omega, hgb2.out.1, .slice va (L.length + 1 - n) vcap, ?_, ?_⟩, ?_⟩)
                      · rw [hgb2.out.2.1, show (((c + n) % 4294967296 : Nat) : Int) = cI by have := hcI.out; omega]; exact hbr
                      · rw [List.take_of_length_le (by rw [List.length_drop, hli]; exact Nat.le_refl _)] at hor
                        rw [hgb2.out.2.2, show (back n (ins d L)).length = L.length + 1 - n by rw [length_back, hli], show (back n (ins d L)).map intV = ((ins d L).drop n).map (fun x => intV (x - n)) by unfold back; rw [List.map_map]; rfl]
                        exact own_zero hor
                      · exact (World.grownBy.andThen' (Below.grown0 hBa) (some b)).trans (hgWB.trans hgr)
                · skip
                  have hcn : (n : Int) % 4294967296 = (n : Int) := by omega
                  have hbWA : wa.heap[b]? = some (.cells #[.int .u32 (c : Int), .slice a L.length cap] 54 (0, 0)) := (hBa.block b hbl).trans hhb
                  have k0 : wa.cell? ⟨b, 0, none⟩ = some (.int .u32 (c : Int)) := by simp [World.cell?, hbWA]
                  have f0 : ∀ i : Nat, wa.frozen? ⟨b, i, none⟩ = false := fun i => by simp [World.frozen?, hbWA]
                  have k1 : wa.cell? ⟨b, 1, none⟩ = some (.slice a L.length cap) := by simp [World.cell?, hbWA]
                  go_wp2_with fail
                  refine (Ser.radd (c : Int) (n : Int) (by omega) (by omega) _).mono ?_
                  rintro e w' ⟨rfl, rfl⟩
                  obtain ⟨cI, hcI⟩ : ∃ cI : Int, Hid (((c : Int) + (n : Int)) % 4294967296 = cI) := ⟨_, rfl⟩
                  rw [hcI.out]
                  go_wp2_with fail
                  obtain ⟨wb, hwb⟩ : ∃ wb, (wa.setCell ⟨b, 0, none⟩ (.int .u32 cI)).setCell ⟨b, 1, none⟩ (.slice none 0 0) = wb := ⟨_, rfl⟩
                  have hbWB : wb.heap[b]? = some (.cells #[.int .u32 cI, .slice none 0 0] 54 (0, 0)) := by
                    rw [← hwb, heap_set _ b 1 _ (heap_set _ b 0 _ hbWA)]; rfl
                  have hgWB : wa.grownBy wb (some b) := by rw [← hwb]; exact grown20 _ _ _ _
                  have hszB : wb.heap.size = wa.heap.size := by rw [← hwb]; simp [World.setCell]
                  try rw [hwb]
                  clear hwb k0 k1 f0
                  go_loopw [11] (fun i wr => ∃ (q : Int) (v : Value), (n : Int) ≤ q ∧ q ≤ (L.length : Int) + 1 ∧ i = .int .i64 q ∧ wr.heap[b]? = some (.cells #[.int .u32 cI, v] 54 (0, 0)) ∧ wr.ownsRow wb.heap.size 3 1 v (q - (n : Int)).toNat ((((ins d L).drop n).take (q - (n : Int)).toNat).map (fun x => intV (x - n))) ∧ wb.grownBy wr (some b)) (fun i wr => L.length + 1 - (intOf i).toNat)
                  case atStart => exact ⟨(n : Int), _, by omega, by omega, rfl, hbWB, by rw [Int.sub_self]; exact World.ownsRow_nil _ _ _ _, World.grownBy.refl _ _⟩
                  case round =>
                    obtain ⟨q, v, hq0, hq, rfl, hbr, hor, hgr⟩ := hrel
                    obtain ⟨lcur, hlb⟩ := own_type hol
                    have hglb : gl ≠ b := fun e => by rw [e, hbWA] at hlb; cases hlb
                    have hgla : gl < wb.heap.size := by rw [hszB]; exact (Array.getElem?_eq_some_iff.1 hlb).1
                    obtain ⟨va, vcap, rfl⟩ := row_len hor
                    have hszr := hgr.size
                    have k0 : wr.cell? ⟨b, 0, none⟩ = some (.int .u32 cI) := by simp [World.cell?, hbr]
                    have k1 : wr.cell? ⟨b, 1, none⟩ = some (.slice va (q - (n : Int)).toNat vcap) := by simp [World.cell?, hbr]
                    have f1 : wr.frozen? ⟨b, 1, none⟩ = false := by simp [World.frozen?, hbr]
                    by_cases hlt : q < (L.length : Int) + 1
                    · have k3 : wr.cell? ⟨gl, q.toNat, none⟩ = some (.int .i64 ((ins d L).getD q.toNat 0 : Int)) :=
                        ((World.cell?_of_block (hgr.block gl hgla (by simpa using hglb))).trans (World.cell?_of_block (hgWB.block gl (by omega) (by simpa using hglb)))).trans (hcl q.toNat (by omega))
                      have hnx : Hid ((((ins d L).drop n).take (q + 1 - (n : Int)).toNat).map (fun x => intV (x - n)) = (((ins d L).drop n).take (q - (n : Int)).toNat).map (fun x => intV (x - n)) ++ [intV ((ins d L).getD q.toNat 0 - n)]) := by
                        unfold Hid
                        rw [show (q + 1 - (n : Int)).toNat = (q - (n : Int)).toNat + 1 by omega, List.take_add_one, List.getElem?_drop, show n + (q - (n : Int)).toNat = q.toNat by omega, List.getElem?_eq_getElem (by rw [hli]; omega), List.map_append, List.getD_eq_getElem?_getD, List.getElem?_eq_getElem (by rw [hli]; omega)]; rfl
                      have hzz : Hid (n + 1 ≤ (ins d L).getD q.toNat 0 ∧ (ins d L).getD q.toNat 0 ≤ 65535) := by
                        have hgi := good_ins hg hd.out (by have := hdI.out; omega : 1 ≤ d ∧ d ≤ 65535) (by decide)
                        have hm : (ins d L).getD q.toNat 0 ∈ ins d L := by rw [List.getD_eq_getElem?_getD, List.getElem?_eq_getElem (by rw [hli]; omega)]; exact List.getElem_mem _
                        have hm2 : (ins d L).getD q.toNat 0 ∈ (ins d L).drop n := by
                          rw [List.mem_iff_getElem?]
                          exact ⟨(q - (n : Int)).toNat, by rw [List.getElem?_drop, show n + (q - (n : Int)).toNat = q.toNat by omega, List.getElem?_eq_getElem (by rw [hli]; omega), List.getD_eq_getElem?_getD, List.getElem?_eq_getElem (by rw [hli]; omega)]; rfl⟩
                        exact ⟨lead_drop hgi n (by rw [hn.out]; exact Nat.le_refl _) _ hm2, (hgi.2 _ hm).2⟩
                      obtain ⟨yI, hyI⟩ : ∃ yI : Int, Hid (((ins d L).getD q.toNat 0 : Int) = yI) := ⟨_, rfl⟩
                      rw [hyI.out] at k3
                      have hyb : (n : Int) + 1 ≤ yI ∧ yI ≤ 65535 := by have := hyI.out; have := hzz.out; omega
                      have hwr : IntKind.i64.wrap (yI - (n : Int)) = yI - (n : Int) := by rw [IntKind.wrap_i64]; omega
                      have hkb : (q - (n : Int)).toNat ≤ 65537 := by omega
                      obtain ⟨kk, hkk⟩ : ∃ kk, Hid ((q - (n : Int)).toNat = kk) := ⟨_, rfl⟩
                      generalize (((ins d L).drop n).take (q - (n : Int)).toNat).map (fun x => intV (x - n)) = Y at hor hnx
                      rw [hkk.out] at hor k1 hkb
                      have hbl2 : b < wr.heap.size := (Array.getElem?_eq_some_iff.1 hbr).1
                      have hq00 : 0 ≤ q := by omega
                      have hnb : some b ≠ (Value.slice va kk vcap).ownBlock := fun e => by have := (hor.lt b e.symm).1; rw [hszB] at this; have := (Array.getElem?_eq_some_iff.1 hbWA).1; omega
                      have hbr' : wr.heap[b]? = some (.cells #[.int .u32 cI, .slice va kk vcap] 54 (0, 0)) := by rw [← hkk.out]; exact hbr
                      clear hcl
                      go_wp2_with fail
                      go_region_law (refine step_append_lies _ (by rfl) _ _ _ (by rfl) wb.heap.size 3 i0 _ 1 8 Tryd.underlying52 hi hz0 hz1 hz2 rfl (by omega) (.slice va kk vcap) kk _ (by rfl) ((hor.alloc _).drew) ⟨wr.heap.size, 0, none⟩ 1 1 [.int .i64 (yI - (n : Int))] (by rfl) (by rfl) (World.news_of_block (cs := #[.int .i64 (yI - (n : Int))]) (t := 3) (fr := (0, 0)) (heap_alloc_new wr _)) (by simp [Value.oneCell']) (by omega) (by unfold maxLen; omega) (by omega) (by simp; omega) (wr.heap.size + 1) (by simp) ?_; intro g cap2 w1' hown1 hgrow hat hlt1; have hbw : w1'.heap[b]? = some (.cells #[.int .u32 cI, .slice va kk vcap] 54 (0, 0)) := (hgrow.block b (by simp; omega) hnb).trans ((Below.heap_alloc wr _ b hbl2).trans hbr'); have kw : w1'.cell? ⟨b, 1, none⟩ = some (.slice va kk vcap) := (by simp [World.cell?, hbw]); have fw : w1'.frozen? ⟨b, 1, none⟩ = false := (by simp [World.frozen?, hbw]))
                      all_goals (go_wp2; go_roundw)
                      all_goals first
                        | (simp only [intOf]; omega)
                        | (refine ⟨q + 1, _, by omega, by omega, rfl, by rw [heap_set w1' b 1 _ hbw]; rfl, ?_, ?_⟩
                           · have hgb : g ≠ b := fun e => by have := (hown1.lt g rfl).1; rw [hszB] at this; have := (Array.getElem?_eq_some_iff.1 hbWA).1; omega
                             rw [hnx.out, show (q + 1 - (n : Int)).toNat = kk + 1 by have := hkk.out; omega, show intV ((ins d L).getD q.toNat 0 - n) = .int .i64 (yI - (n : Int)) by unfold intV; congr 1; have := hyI.out; have := hzz.out; omega]
                             exact ownsRow_setCell_other (a := ⟨b, 1, none⟩) hown1 (fun e => hgb (by simpa [Value.ownBlock] using e)) _
                           · exact grownBy_set (a := ⟨b, 1, none⟩) (hgr.andThen ((World.grownBy_alloc wr _ _).trans ⟨hgrow.os, hgrow.tape, hgrow.output, hgrow.size, hgrow.block⟩) (fun j hj => .inl (hor.lt j hj).1)) rfl _)
                    · have hqe : q = (L.length : Int) + 1 := by omega
                      subst hqe
                      have hgi := good_ins hg hd.out (by have := hdI.out; omega : 1 ≤ d ∧ d ≤ 65535) (by decide)
                      have hgb2 : Hid (Good 2 (addL d L) ∧ addN d L = n ∧ addL d L = back n (ins d L)) := ⟨good_two (good_back hgi _ (Nat.le_refl _)) (back_stop hgi), hn.out, by unfold addL addN; rw [hn.out]⟩
                      clear hcl
                      go_wp2
                      go_ret2
                      have e1 : ((L.length : Int) + 1 - (n : Int)).toNat = L.length + 1 - n := by omega
                      rw [e1] at hor hbr
                      refine .inr (.inr ⟨HI.out, d, H3.out, by have := hdI.out; omega, h1, hd.out, rfl, ⟨by omega, hgb2.out.1, .slice va (L.length + 1 - n) vcap, ?_, ?_⟩, ?_⟩)
                      · rw [hgb2.out.2.1, show (((c + n) % 4294967296 : Nat) : Int) = cI by have := hcI.out; omega]; exact hbr
                      · rw [List.take_of_length_le (by rw [List.length_drop, hli]; exact Nat.le_refl _)] at hor
                        rw [hgb2.out.2.2, show (back n (ins d L)).length = L.length + 1 - n by rw [length_back, hli], show (back n (ins d L)).map intV = ((ins d L).drop n).map (fun x => intV (x - n)) by unfold back; rw [List.map_map]; rfl]
                        exact own_zero hor
                      · exact (World.grownBy.andThen' (Below.grown0 hBa) (some b)).trans (hgWB.trans hgr)
          · have hlv : Hid (X = ins d L) := hst'.out
            have hol : wr.ownsRow w.heap.size 3 1 u7 (ins d L).length ((ins d L).map intV) := by
              rw [← hlv.out]; exact ho
            have hBa := hB
            go_wp2_with fail
            clear ho k0 k1 hX hB
            generalize wr = wa at *
            generalize u7 = lv at *
            obtain ⟨gl, lcap, rfl⟩ := ownsRow_succ (show wa.ownsRow w.heap.size 3 1 lv (L.length + 1) _ from (length_ins d L) ▸ hol)
            have hcl : ∀ j : Nat, j < (ins d L).length → wa.cell? ⟨gl, j, none⟩ = some (.int .i64 ((ins d L).getD j 0 : Int)) := fun j hj => by
              rw [length_ins] at hol hj
              rw [hol.cellAt j (by omega), List.getElem?_map, List.getElem?_eq_getElem (by rw [length_ins]; omega), List.getD_eq_getElem?_getD, List.getElem?_eq_getElem (by rw [length_ins]; omega)]; rfl
            have hll := lead_le (ins d L) 0
            have HLA : Hid (∀ k, k < lead (ins d L) 0 → (ins d L)[k]? = some (0 + k + 1)) := lead_at (ins d L) 0
            have HLS : Hid ((ins d L)[lead (ins d L) 0]? ≠ some (0 + lead (ins d L) 0 + 1)) := lead_stop (ins d L) 0
            have hli := length_ins d L
            obtain ⟨n, hn⟩ : ∃ n, Hid (lead (ins d L) 0 = n) := ⟨_, rfl⟩
            rw [hn.out, hli] at hll
            rw [hn.out] at HLA HLS
            rw [hli] at hcl
            go_wp2_with fail
            go_loop [10] (fun i => ∃ q : Int, 0 ≤ q ∧ q ≤ (n : Int) ∧ i = .int .i64 q) (fun i => n - (intOf i).toNat)
            case atStart => exact ⟨0, by omega, by omega, rfl⟩
            case round =>
              obtain ⟨q, hq0, hq, rfl⟩ := hrel
              by_cases hlt2 : q < (n : Int)
              · have k3 := hcl q.toNat (by omega)
                have h9 := HLA.out q.toNat (by omega)
                rw [List.getD_eq_getElem?_getD, h9, Option.getD_some, show ((0 + q.toNat + 1 : Nat) : Int) = q + 1 by omega] at k3
                have hql : q < (L.length : Int) + 1 := by omega
                clear h9 hcl hol
                go_wp2
                go_round
                case rel => exact ⟨q + 1, by omega, by omega, rfl⟩
                case measure => simp only [intOf]; omega
              · have hqn : q = (n : Int) := by omega
                subst hqn
                by_cases hfull : (n : Int) < (L.length : Int) + 1
                · have k3 := hcl n (by omega)
                  have hz : Hid ((ins d L).getD n 0 ≠ n + 1) := fun e => HLS.out (by
                    rw [List.getElem?_eq_getElem (by rw [hli]; omega)]
                    rw [List.getD_eq_getElem?_getD, List.getElem?_eq_getElem (by rw [hli]; omega)] at e
                    simp at e; rw [e]; congr 1; omega)
                  obtain ⟨zI, hzI⟩ : ∃ zI : Int, Hid (((ins d L).getD n 0 : Int) = zI) := ⟨_, rfl⟩
                  rw [hzI.out] at k3
                  have hzn : (zI == (n : Int) + 1) = false := by
                    have := hz.out; have := hzI.out
                    simp; omega
                  have hcn : (n : Int) % 4294967296 = (n : Int) := by omega
                  have hbWA : wa.heap[b]? = some (.cells #[.int .u32 (c : Int), .slice a L.length cap] 54 (0, 0)) := (hBa.block b hbl).trans hhb
                  have k0 : wa.cell? ⟨b, 0, none⟩ = some (.int .u32 (c : Int)) := by simp [World.cell?, hbWA]
                  have f0 : ∀ i : Nat, wa.frozen? ⟨b, i, none⟩ = false := fun i => by simp [World.frozen?, hbWA]
                  have k1 : wa.cell? ⟨b, 1, none⟩ = some (.slice a L.length cap) := by simp [World.cell?, hbWA]
                  go_wp2_with fail
                  refine (Ser.radd (c : Int) (n : Int) (by omega) (by omega) _).mono ?_
                  rintro e w' ⟨rfl, rfl⟩
                  obtain ⟨cI, hcI⟩ : ∃ cI : Int, Hid (((c : Int) + (n : Int)) % 4294967296 = cI) := ⟨_, rfl⟩
                  rw [hcI.out]
                  go_wp2_with fail
                  obtain ⟨wb, hwb⟩ : ∃ wb, (wa.setCell ⟨b, 0, none⟩ (.int .u32 cI)).setCell ⟨b, 1, none⟩ (.slice none 0 0) = wb := ⟨_, rfl⟩
                  have hbWB : wb.heap[b]? = some (.cells #[.int .u32 cI, .slice none 0 0] 54 (0, 0)) := by
                    rw [← hwb, heap_set _ b 1 _ (heap_set _ b 0 _ hbWA)]; rfl
                  have hgWB : wa.grownBy wb (some b) := by rw [← hwb]; exact grown20 _ _ _ _
                  have hszB : wb.heap.size = wa.heap.size := by rw [← hwb]; simp [World.setCell]
                  try rw [hwb]
                  clear hwb k0 k1 f0
                  go_loopw [11] (fun i wr => ∃ (q : Int) (v : Value), (n : Int) ≤ q ∧ q ≤ (L.length : Int) + 1 ∧ i = .int .i64 q ∧ wr.heap[b]? = some (.cells #[.int .u32 cI, v] 54 (0, 0)) ∧ wr.ownsRow wb.heap.size 3 1 v (q - (n : Int)).toNat ((((ins d L).drop n).take (q - (n : Int)).toNat).map (fun x => intV (x - n))) ∧ wb.grownBy wr (some b)) (fun i wr => L.length + 1 - (intOf i).toNat)
                  case atStart => exact ⟨(n : Int), _, by omega, by omega, rfl, hbWB, by rw [Int.sub_self]; exact World.ownsRow_nil _ _ _ _, World.grownBy.refl _ _⟩
                  case round =>
                    obtain ⟨q, v, hq0, hq, rfl, hbr, hor, hgr⟩ := hrel
                    obtain ⟨lcur, hlb⟩ := own_type hol
                    have hglb : gl ≠ b := fun e => by rw [e, hbWA] at hlb; cases hlb
                    have hgla : gl < wb.heap.size := by rw [hszB]; exact (Array.getElem?_eq_some_iff.1 hlb).1
                    obtain ⟨va, vcap, rfl⟩ := row_len hor
                    have hszr := hgr.size
                    have k0 : wr.cell? ⟨b, 0, none⟩ = some (.int .u32 cI) := by simp [World.cell?, hbr]
                    have k1 : wr.cell? ⟨b, 1, none⟩ = some (.slice va (q - (n : Int)).toNat vcap) := by simp [World.cell?, hbr]
                    have f1 : wr.frozen? ⟨b, 1, none⟩ = false := by simp [World.frozen?, hbr]
                    by_cases hlt : q < (L.length : Int) + 1
                    · have k3 : wr.cell? ⟨gl, q.toNat, none⟩ = some (.int .i64 ((ins d L).getD q.toNat 0 : Int)) :=
                        ((World.cell?_of_block (hgr.block gl hgla (by simpa using hglb))).trans (World.cell?_of_block (hgWB.block gl (by omega) (by simpa using hglb)))).trans (hcl q.toNat (by omega))
                      have hnx : Hid ((((ins d L).drop n).take (q + 1 - (n : Int)).toNat).map (fun x => intV (x - n)) = (((ins d L).drop n).take (q - (n : Int)).toNat).map (fun x => intV (x - n)) ++ [intV ((ins d L).getD q.toNat 0 - n)]) := by
                        unfold Hid
                        rw [show (q + 1 - (n : Int)).toNat = (q - (n : Int)).toNat + 1 by omega, List.take_add_one, List.getElem?_drop, show n + (q - (n : Int)).toNat = q.toNat by omega, List.getElem?_eq_getElem (by rw [hli]; omega), List.map_append, List.getD_eq_getElem?_getD, List.getElem?_eq_getElem (by rw [hli]; omega)]; rfl
                      have hzz : Hid (n + 1 ≤ (ins d L).getD q.toNat 0 ∧ (ins d L).getD q.toNat 0 ≤ 65535) := by
                        have hgi := good_ins hg hd.out (by have := hdI.out; omega : 1 ≤ d ∧ d ≤ 65535) (by decide)
                        have hm : (ins d L).getD q.toNat 0 ∈ ins d L := by rw [List.getD_eq_getElem?_getD, List.getElem?_eq_getElem (by rw [hli]; omega)]; exact List.getElem_mem _
                        have hm2 : (ins d L).getD q.toNat 0 ∈ (ins d L).drop n := by
                          rw [List.mem_iff_getElem?]
                          exact ⟨(q - (n : Int)).toNat, by rw [List.getElem?_drop, show n + (q - (n : Int)).toNat = q.toNat by omega, List.getElem?_eq_getElem (by rw [hli]; omega), List.getD_eq_getElem?_getD, List.getElem?_eq_getElem (by rw [hli]; omega)]; rfl⟩
                        exact ⟨lead_drop hgi n (by rw [hn.out]; exact Nat.le_refl _) _ hm2, (hgi.2 _ hm).2⟩
                      obtain ⟨yI, hyI⟩ : ∃ yI : Int, Hid (((ins d L).getD q.toNat 0 : Int) = yI) := ⟨_, rfl⟩
                      rw [hyI.out] at k3
                      have hyb : (n : Int) + 1 ≤ yI ∧ yI ≤ 65535 := by have := hyI.out; have := hzz.out; omega
                      have hwr : IntKind.i64.wrap (yI - (n : Int)) = yI - (n : Int) := by rw [IntKind.wrap_i64]; omega
                      have hkb : (q - (n : Int)).toNat ≤ 65537 := by omega
                      obtain ⟨kk, hkk⟩ : ∃ kk, Hid ((q - (n : Int)).toNat = kk) := ⟨_, rfl⟩
                      generalize (((ins d L).drop n).take (q - (n : Int)).toNat).map (fun x => intV (x - n)) = Y at hor hnx
                      rw [hkk.out] at hor k1 hkb
                      have hbl2 : b < wr.heap.size := (Array.getElem?_eq_some_iff.1 hbr).1
                      have hq00 : 0 ≤ q := by omega
                      have hnb : some b ≠ (Value.slice va kk vcap).ownBlock := fun e => by have := (hor.lt b e.symm).1; rw [hszB] at this; have := (Array.getElem?_eq_some_iff.1 hbWA).1; omega
                      have hbr' : wr.heap[b]? = some (.cells #[.int .u32 cI, .slice va kk vcap] 54 (0, 0)) := by rw [← hkk.out]; exact hbr
                      clear hcl
                      go_wp2_with fail
                      go_region_law (refine step_append_lies _ (by rfl) _ _ _ (by rfl) wb.heap.size 3 i0 _ 1 8 Tryd.underlying52 hi hz0 hz1 hz2 rfl (by omega) (.slice va kk vcap) kk _ (by rfl) ((hor.alloc _).drew) ⟨wr.heap.size, 0, none⟩ 1 1 [.int .i64 (yI - (n : Int))] (by rfl) (by rfl) (World.news_of_block (cs := #[.int .i64 (yI - (n : Int))]) (t := 3) (fr := (0, 0)) (heap_alloc_new wr _)) (by simp [Value.oneCell']) (by omega) (by unfold maxLen; omega) (by omega) (by simp; omega) (wr.heap.size + 1) (by simp) ?_; intro g cap2 w1' hown1 hgrow hat hlt1; have hbw : w1'.heap[b]? = some (.cells #[.int .u32 cI, .slice va kk vcap] 54 (0, 0)) := (hgrow.block b (by simp; omega) hnb).trans ((Below.heap_alloc wr _ b hbl2).trans hbr'); have kw : w1'.cell? ⟨b, 1, none⟩ = some (.slice va kk vcap) := (by simp [World.cell?, hbw]); have fw : w1'.frozen? ⟨b, 1, none⟩ = false := (by simp [World.frozen?, hbw]))
                      all_goals (go_wp2; go_roundw)
                      all_goals first
                        | (simp only [intOf]; omega)
                        | (refine ⟨q + 1, _, by omega, by omega, rfl, by rw [heap_set w1' b 1 _ hbw]; rfl, ?_, ?_⟩
                           · have hgb : g ≠ b := fun e => by have := (hown1.lt g rfl).1; rw [hszB] at this; have := (Array.getElem?_eq_some_iff.1 hbWA).1; omega
                             rw [hnx.out, show (q + 1 - (n : Int)).toNat = kk + 1 by have := hkk.out; omega, show intV ((ins d L).getD q.toNat 0 - n) = .int .i64 (yI - (n : Int)) by unfold intV; congr 1; have := hyI.out; have := hzz.out; omega]
                             exact ownsRow_setCell_other (a := ⟨b, 1, none⟩) hown1 (fun e => hgb (by simpa [Value.ownBlock] using e)) _
                           · exact grownBy_set (a := ⟨b, 1, none⟩) (hgr.andThen ((World.grownBy_alloc wr _ _).trans ⟨hgrow.os, hgrow.tape, hgrow.output, hgrow.size, hgrow.block⟩) (fun j hj => .inl (hor.lt j hj).1)) rfl _)
                    · have hqe : q = (L.length : Int) + 1 := by omega
                      subst hqe
                      have hgi := good_ins hg hd.out (by have := hdI.out; omega : 1 ≤ d ∧ d ≤ 65535) (by decide)
                      have hgb2 : Hid (Good 2 (addL d L) ∧ addN d L = n ∧ addL d L = back n (ins d L)) := ⟨good_two (good_back hgi _ (Nat.le_refl _)) (back_stop hgi), hn.out, by unfold addL addN; rw [hn.out]⟩
                      clear hcl
                      go_wp2
                      go_ret2
                      have e1 : ((L.length : Int) + 1 - (n : Int)).toNat = L.length + 1 - n := by omega
                      rw [e1] at hor hbr
                      refine .inr (.inr ⟨HI.out, d, H3.out, by have := hdI.out; omega, h1, hd.out, rfl, ⟨by omega, hgb2.out.1, .slice va (L.length + 1 - n) vcap, ?_, ?_⟩, ?_⟩)
                      · rw [hgb2.out.2.1, show (((c + n) % 4294967296 : Nat) : Int) = cI by have := hcI.out; omega]; exact hbr
                      · rw [List.take_of_length_le (by rw [List.length_drop, hli]; exact Nat.le_refl _)] at hor
                        rw [hgb2.out.2.2, show (back n (ins d L)).length = L.length + 1 - n by rw [length_back, hli], show (back n (ins d L)).map intV = ((ins d L).drop n).map (fun x => intV (x - n)) by unfold back; rw [List.map_map]; rfl]
                        exact own_zero hor
                      · exact (World.grownBy.andThen' (Below.grown0 hBa) (some b)).trans (hgWB.trans hgr)
                · skip
                  have hcn : (n : Int) % 4294967296 = (n : Int) := by omega
                  have hbWA : wa.heap[b]? = some (.cells #[.int .u32 (c : Int), .slice a L.length cap] 54 (0, 0)) := (hBa.block b hbl).trans hhb
                  have k0 : wa.cell? ⟨b, 0, none⟩ = some (.int .u32 (c : Int)) := by simp [World.cell?, hbWA]
                  have f0 : ∀ i : Nat, wa.frozen? ⟨b, i, none⟩ = false := fun i => by simp [World.frozen?, hbWA]
                  have k1 : wa.cell? ⟨b, 1, none⟩ = some (.slice a L.length cap) := by simp [World.cell?, hbWA]
                  go_wp2_with fail
                  refine (Ser.radd (c : Int) (n : Int) (by omega) (by omega) _).mono ?_
                  rintro e w' ⟨rfl, rfl⟩
                  obtain ⟨cI, hcI⟩ : ∃ cI : Int, Hid (((c : Int) + (n : Int)) % 4294967296 = cI) := ⟨_, rfl⟩
                  rw [hcI.out]
                  go_wp2_with fail
                  obtain ⟨wb, hwb⟩ : ∃ wb, (wa.setCell ⟨b, 0, none⟩ (.int .u32 cI)).setCell ⟨b, 1, none⟩ (.slice none 0 0) = wb := ⟨_, rfl⟩
                  have hbWB : wb.heap[b]? = some (.cells #[.int .u32 cI, .slice none 0 0] 54 (0, 0)) := by
                    rw [← hwb, heap_set _ b 1 _ (heap_set _ b 0 _ hbWA)]; rfl
                  have hgWB : wa.grownBy wb (some b) := by rw [← hwb]; exact grown20 _ _ _ _
                  have hszB : wb.heap.size = wa.heap.size := by rw [← hwb]; simp [World.setCell]
                  try rw [hwb]
                  clear hwb k0 k1 f0
                  go_loopw [11] (fun i wr => ∃ (q : Int) (v : Value), (n : Int) ≤ q ∧ q ≤ (L.length : Int) + 1 ∧ i = .int .i64 q ∧ wr.heap[b]? = some (.cells #[.int .u32 cI, v] 54 (0, 0)) ∧ wr.ownsRow wb.heap.size 3 1 v (q - (n : Int)).toNat ((((ins d L).drop n).take (q - (n : Int)).toNat).map (fun x => intV (x - n))) ∧ wb.grownBy wr (some b)) (fun i wr => L.length + 1 - (intOf i).toNat)
                  case atStart => exact ⟨(n : Int), _, by omega, by omega, rfl, hbWB, by rw [Int.sub_self]; exact World.ownsRow_nil _ _ _ _, World.grownBy.refl _ _⟩
                  case round =>
                    obtain ⟨q, v, hq0, hq, rfl, hbr, hor, hgr⟩ := hrel
                    obtain ⟨lcur, hlb⟩ := own_type hol
                    have hglb : gl ≠ b := fun e => by rw [e, hbWA] at hlb; cases hlb
                    have hgla : gl < wb.heap.size := by rw [hszB]; exact (Array.getElem?_eq_some_iff.1 hlb).1
                    obtain ⟨va, vcap, rfl⟩ := row_len hor
                    have hszr := hgr.size
                    have k0 : wr.cell? ⟨b, 0, none⟩ = some (.int .u32 cI) := by simp [World.cell?, hbr]
                    have k1 : wr.cell? ⟨b, 1, none⟩ = some (.slice va (q - (n : Int)).toNat vcap) := by simp [World.cell?, hbr]
                    have f1 : wr.frozen? ⟨b, 1, none⟩ = false := by simp [World.frozen?, hbr]
                    by_cases hlt : q < (L.length : Int) + 1
                    · have k3 : wr.cell? ⟨gl, q.toNat, none⟩ = some (.int .i64 ((ins d L).getD q.toNat 0 : Int)) :=
                        ((World.cell?_of_block (hgr.block gl hgla (by simpa using hglb))).trans (World.cell?_of_block (hgWB.block gl (by omega) (by simpa using hglb)))).trans (hcl q.toNat (by omega))
                      have hnx : Hid ((((ins d L).drop n).take (q + 1 - (n : Int)).toNat).map (fun x => intV (x - n)) = (((ins d L).drop n).take (q - (n : Int)).toNat).map (fun x => intV (x - n)) ++ [intV ((ins d L).getD q.toNat 0 - n)]) := by
                        unfold Hid
                        rw [show (q + 1 - (n : Int)).toNat = (q - (n : Int)).toNat + 1 by omega, List.take_add_one, List.getElem?_drop, show n + (q - (n : Int)).toNat = q.toNat by omega, List.getElem?_eq_getElem (by rw [hli]; omega), List.map_append, List.getD_eq_getElem?_getD, List.getElem?_eq_getElem (by rw [hli]; omega)]; rfl
                      have hzz : Hid (n + 1 ≤ (ins d L).getD q.toNat 0 ∧ (ins d L).getD q.toNat 0 ≤ 65535) := by
                        have hgi := good_ins hg hd.out (by have := hdI.out; omega : 1 ≤ d ∧ d ≤ 65535) (by decide)
                        have hm : (ins d L).getD q.toNat 0 ∈ ins d L := by rw [List.getD_eq_getElem?_getD, List.getElem?_eq_getElem (by rw [hli]; omega)]; exact List.getElem_mem _
                        have hm2 : (ins d L).getD q.toNat 0 ∈ (ins d L).drop n := by
                          rw [List.mem_iff_getElem?]
                          exact ⟨(q - (n : Int)).toNat, by rw [List.getElem?_drop, show n + (q - (n : Int)).toNat = q.toNat by omega, List.getElem?_eq_getElem (by rw [hli]; omega), List.getD_eq_getElem?_getD, List.getElem?_eq_getElem (by rw [hli]; omega)]; rfl⟩
                        exact ⟨lead_drop hgi n (by rw [hn.out]; exact Nat.le_refl _) _ hm2, (hgi.2 _ hm).2⟩
                      obtain ⟨yI, hyI⟩ : ∃ yI : Int, Hid (((ins d L).getD q.toNat 0 : Int) = yI) := ⟨_, rfl⟩
                      rw [hyI.out] at k3
                      have hyb : (n : Int) + 1 ≤ yI ∧ yI ≤ 65535 := by have := hyI.out; have := hzz.out; omega
                      have hwr : IntKind.i64.wrap (yI - (n : Int)) = yI - (n : Int) := by rw [IntKind.wrap_i64]; omega
                      have hkb : (q - (n : Int)).toNat ≤ 65537 := by omega
                      obtain ⟨kk, hkk⟩ : ∃ kk, Hid ((q - (n : Int)).toNat = kk) := ⟨_, rfl⟩
                      generalize (((ins d L).drop n).take (q - (n : Int)).toNat).map (fun x => intV (x - n)) = Y at hor hnx
                      rw [hkk.out] at hor k1 hkb
                      have hbl2 : b < wr.heap.size := (Array.getElem?_eq_some_iff.1 hbr).1
                      have hq00 : 0 ≤ q := by omega
                      have hnb : some b ≠ (Value.slice va kk vcap).ownBlock := fun e => by have := (hor.lt b e.symm).1; rw [hszB] at this; have := (Array.getElem?_eq_some_iff.1 hbWA).1; omega
                      have hbr' : wr.heap[b]? = some (.cells #[.int .u32 cI, .slice va kk vcap] 54 (0, 0)) := by rw [← hkk.out]; exact hbr
                      clear hcl
                      go_wp2_with fail
                      go_region_law (refine step_append_lies _ (by rfl) _ _ _ (by rfl) wb.heap.size 3 i0 _ 1 8 Tryd.underlying52 hi hz0 hz1 hz2 rfl (by omega) (.slice va kk vcap) kk _ (by rfl) ((hor.alloc _).drew) ⟨wr.heap.size, 0, none⟩ 1 1 [.int .i64 (yI - (n : Int))] (by rfl) (by rfl) (World.news_of_block (cs := #[.int .i64 (yI - (n : Int))]) (t := 3) (fr := (0, 0)) (heap_alloc_new wr _)) (by simp [Value.oneCell']) (by omega) (by unfold maxLen; omega) (by omega) (by simp; omega) (wr.heap.size + 1) (by simp) ?_; intro g cap2 w1' hown1 hgrow hat hlt1; have hbw : w1'.heap[b]? = some (.cells #[.int .u32 cI, .slice va kk vcap] 54 (0, 0)) := (hgrow.block b (by simp; omega) hnb).trans ((Below.heap_alloc wr _ b hbl2).trans hbr'); have kw : w1'.cell? ⟨b, 1, none⟩ = some (.slice va kk vcap) := (by simp [World.cell?, hbw]); have fw : w1'.frozen? ⟨b, 1, none⟩ = false := (by simp [World.frozen?, hbw]))
                      all_goals (go_wp2; go_roundw)
                      all_goals first
                        | (simp only [intOf]; omega)
                        | (refine ⟨q + 1, _, by omega, by omega, rfl, by rw [heap_set w1' b 1 _ hbw]; rfl, ?_, ?_⟩
                           · have hgb : g ≠ b := fun e => by have := (hown1.lt g rfl).1; rw [hszB] at this; have := (Array.getElem?_eq_some_iff.1 hbWA).1; omega
                             rw [hnx.out, show (q + 1 - (n : Int)).toNat = kk + 1 by have := hkk.out; omega, show intV ((ins d L).getD q.toNat 0 - n) = .int .i64 (yI - (n : Int)) by unfold intV; congr 1; have := hyI.out; have := hzz.out; omega]
                             exact ownsRow_setCell_other (a := ⟨b, 1, none⟩) hown1 (fun e => hgb (by simpa [Value.ownBlock] using e)) _
                           · exact grownBy_set (a := ⟨b, 1, none⟩) (hgr.andThen ((World.grownBy_alloc wr _ _).trans ⟨hgrow.os, hgrow.tape, hgrow.output, hgrow.size, hgrow.block⟩) (fun j hj => .inl (hor.lt j hj).1)) rfl _)
                    · have hqe : q = (L.length : Int) + 1 := by omega
                      subst hqe
                      have hgi := good_ins hg hd.out (by have := hdI.out; omega : 1 ≤ d ∧ d ≤ 65535) (by decide)
                      have hgb2 : Hid (Good 2 (addL d L) ∧ addN d L = n ∧ addL d L = back n (ins d L)) := ⟨good_two (good_back hgi _ (Nat.le_refl _)) (back_stop hgi), hn.out, by unfold addL addN; rw [hn.out]⟩
                      clear hcl
                      go_wp2
                      go_ret2
                      have e1 : ((L.length : Int) + 1 - (n : Int)).toNat = L.length + 1 - n := by omega
                      rw [e1] at hor hbr
                      refine .inr (.inr ⟨HI.out, d, H3.out, by have := hdI.out; omega, h1, hd.out, rfl, ⟨by omega, hgb2.out.1, .slice va (L.length + 1 - n) vcap, ?_, ?_⟩, ?_⟩)
                      · rw [hgb2.out.2.1, show (((c + n) % 4294967296 : Nat) : Int) = cI by have := hcI.out; omega]; exact hbr
                      · rw [List.take_of_length_le (by rw [List.length_drop, hli]; exact Nat.le_refl _)] at hor
                        rw [hgb2.out.2.2, show (back n (ins d L)).length = L.length + 1 - n by rw [length_back, hli], show (back n (ins d L)).map intV = ((ins d L).drop n).map (fun x => intV (x - n)) by unfold back; rw [List.map_map]; rfl]
                        exact own_zero hor
                      · exact (World.grownBy.andThen' (Below.grown0 hBa) (some b)).trans (hgWB.trans hgr)
    · clear hor
      go_wp2
      go_ret2
      exact .inr (.inl ⟨HI.out, by rw [H3.out]; have := hdI.out; omega, rfl, rfl⟩)
end Go.Proofs.YtdifceikfnnfeaaDoor.Sp
