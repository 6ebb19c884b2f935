/-
  The document's box: the fixed ones in order; the blocks of some of what came.
  Conditions: as at each lemma.
-/
import Derived.Test.YtdifceikfnnfeaaDoorInK
namespace Go.Proofs.YtdifceikfnnfeaaDoor.Sp.Inb
open Go.ChangeShapes Go.WideShapes Go.ChangeAt Go.RowKit
open Ba (hidden Has cell_lt heap_lt)
set_option linter.unusedVariables false
set_option maxRecDepth 20000
section
variable {n0 : Nat} {w : World} {r bs : Nat} {fx dp : Value} {P : List Nat} {s : St} {K : Nat}
theorem r_all (h : Rf n0 w r bs fx dp P s) : Calls Tryd.prog 18 #[.pointer (some ⟨bs, 0, none⟩)] w fun e w' => ∃ va cap, e = .returned (.slice va s.L.length cap) ∧ w'.ownsRow w.heap.size 22 1 (.slice va s.L.length cap) s.L.length (us (s.L.map (ts s.c))) ∧ Below w.heap.size w w' := by
  refine (rAll w h.a).mono ?_
  rintro e w' ⟨v, rfl, ho, hB⟩
  rw [us_ts] at ho
  obtain ⟨va, cap, rfl⟩ := Ba.own_len ho
  exact ⟨va, cap, rfl, ho, hB⟩
/-- the fixed ones, in order -/
theorem r_Fixed (h : Rf n0 w r bs fx dp P s) (hk : Ok K s) : Calls Tryd.prog 27 #[.pointer (some ⟨r, 0, none⟩)] w fun e w' => ∃ u, e = .returned u ∧ w'.ownsRow w.heap.size 22 1 u (s.F.map (ts s.c)).length (us (s.F.map (ts s.c))) ∧ Below w.heap.size w w' := by
  obtain ⟨ra, rcap, c0, c1, c2, c3, c4, c5, c6, c7, c8, cf, d0, d1⟩ := h.cells
  have AL := hidden (r_all h)
  have HH := hidden (fun (X : World) (hX : Below w.heap.size w X) (t : Nat) (ht : t < 4294967296) => fixed_ (h.later hX) hk t ht)
  have hlen := good_len hk.L
  clear h
  obtain ⟨N, hN⟩ : ∃ N, Hid (s.L.length = N) := ⟨_, rfl⟩
  rw [hN.out] at AL hlen d1
  go_enter Tryd.func27, Tryd.ntmps27
  go_wp2_with fail
  refine Calls.mono AL.out ?_
  rintro e w1 ⟨va, cap, rfl, ho1, hB1⟩
  have HO1 := hidden ho1
  have HB1 := hidden hB1
  clear ho1 hB1
  go_wp2_with fail
  go_loopw [3, 5] (fun l i wr => ∃ k : Nat, k ≤ N ∧ i = .int .i64 (k : Int) ∧ wr.ownsRow w1.heap.size 22 1 l (((s.L.take k).filter fun d => decide (d ∈ s.F)).map (ts s.c)).length (us (((s.L.take k).filter fun d => decide (d ∈ s.F)).map (ts s.c))) ∧ Below w1.heap.size w1 wr) (fun l i wr => N - (intOf i).toNat)
  case atStart => exact ⟨0, by omega, rfl, World.ownsRow_nil _ _ _ _, Below.refl _ _⟩
  case round =>
    obtain ⟨k, hk1, rfl, ho, hB⟩ := hrel
    have hBw := HB1.out.trans (hB.mono HB1.out.size)
    have hrow := own_later HO1.out hB
    by_cases hlt : k < N
    · have hkL : k < s.L.length := by rw [hN.out]; exact hlt
      obtain ⟨d, hd⟩ : ∃ d, s.L[k]? = some d := ⟨_, List.getElem?_eq_getElem hkL⟩
      have hd2 := hk.L.2 d (List.mem_of_getElem? hd)
      have hrd : (s.L.map (ts s.c))[k]? = some (ts s.c d) := by rw [List.getElem?_map, hd]; rfl
      obtain ⟨rb_, cap', e1, hb1, hb2, _⟩ := Ba.own_some hrow (by omega)
      cases e1
      have hcell := hrow.cellAt (g := rb_) k (by omega)
      rw [us_at hrd] at hcell
      have FI := HH.out _ hBw (ts s.c d) (ts_lt _ _)
      rw [ds_ts s.c d hk.c (by omega), Int.toNat_natCast] at FI
      have FI := hidden FI
      have hlt' : (k : Int) < (N : Int) := by omega
      have E1 := hidden (show (s.L.take (k + 1)).filter (fun d => decide (d ∈ s.F)) = (s.L.take k).filter (fun d => decide (d ∈ s.F)) ++ (if d ∈ s.F then [d] else []) by
        rw [take_some hd, List.filter_append]
        congr 1
        by_cases h : d ∈ s.F
        · rw [if_pos h, List.filter_cons_of_pos (by simp [h])]; rfl
        · rw [if_neg h, List.filter_cons_of_neg (by simp [h])]; rfl)
      have hpl : (((s.L.take k).filter fun d => decide (d ∈ s.F)).map (ts s.c)).length ≤ 65536 := by
        rw [List.length_map]
        have := List.length_filter_le (fun d => decide (d ∈ s.F)) (s.L.take k)
        rw [List.length_take] at this
        omega
      obtain ⟨la, lcap, rfl⟩ := Ba.own_len ho
      by_cases hm : d ∈ s.F
      · rw [decide_eq_true hm] at FI
        have E2 := E1.out
        rw [if_pos hm] at E2
        obtain ⟨v', w2, hr, o1, o2, o3⟩ := app1 (ts s.c d) ho (by omega) hB.size
        have hBn1 := hB.trans ((below_new wr (.cells #[.int .u32 ((ts s.c d : Nat) : Int)] 22)).mono hB.size)
        have hB3 : Below w1.heap.size w1 w2 := hBn1.trans ((Mod.grown (F := fun k => w1.heap.size ≤ k) o2 (fun q hq => (own_type ho hq).2)).below hBn1.size (fun k h => h))
        have HR := hidden hr
        have FN := hidden (⟨by rw [E2, List.map_append]; exact o1, hB3⟩ : w2.ownsRow w1.heap.size 22 1 v' (((s.L.take (k + 1)).filter fun d => decide (d ∈ s.F)).map (ts s.c)).length (us (((s.L.take (k + 1)).filter fun d => decide (d ∈ s.F)).map (ts s.c))) ∧ Below w1.heap.size w1 w2)
        generalize (((s.L.take k).filter fun d => decide (d ∈ s.F)).map (ts s.c)).length = nl at *
        generalize ((ts s.c d : Nat) : Int) = xI at *
        clear ho hB hBw hrow hd hrd o1 o2 o3 hr hBn1 hB3 E1 E2 hm
        go_wp2_with fail
        refine Calls.mono FI.out ?_
        rintro e w' ⟨rfl, rfl⟩
        go_wp2_with (at_builtin; refine Rg.wpList_app rfl _ _ 33 rfl rfl rfl HR.out ?_)
        go_wp2
        go_roundw
        case rel => exact ⟨k + 1, hlt, rfl, FN.out⟩
        case measure => simp only [intOf]; omega
      · rw [decide_eq_false hm] at FI
        have E2 := E1.out
        rw [if_neg hm, List.append_nil] at E2
        have FN := hidden (⟨by rw [E2]; exact ho, hB⟩ : wr.ownsRow w1.heap.size 22 1 (.slice la (((s.L.take k).filter fun d => decide (d ∈ s.F)).map (ts s.c)).length lcap) (((s.L.take (k + 1)).filter fun d => decide (d ∈ s.F)).map (ts s.c)).length (us (((s.L.take (k + 1)).filter fun d => decide (d ∈ s.F)).map (ts s.c))) ∧ Below w1.heap.size w1 wr)
        generalize (((s.L.take k).filter fun d => decide (d ∈ s.F)).map (ts s.c)).length = nl at *
        generalize ((ts s.c d : Nat) : Int) = xI at *
        clear ho hB hBw hrow hd hrd E1 E2 hm
        go_wp2_with fail
        refine Calls.mono FI.out ?_
        rintro e w' ⟨rfl, rfl⟩
        go_wp2
        go_roundw
        case rel => exact ⟨k + 1, hlt, rfl, FN.out⟩
        case measure => simp only [intOf]; omega
    · obtain rfl : k = N := by omega
      have e1 : s.L.take k = s.L := by rw [← hN.out]; exact List.take_length
      rw [e1, sub_filter hk.L.1 hk.F.1 hk.sub] at ho
      have FN := hidden (⟨own_base ho HB1.out.size, hBw⟩ : _ ∧ _)
      clear ho hB hBw hrow
      go_wp2
      go_ret
      exact ⟨_, rfl, FN.out⟩
/-- what the blocks are made of -/
def selL (fixed all : Bool) (F : List Nat) (L : List Nat) : List Nat := L.filter fun d => all || (decide (d ∈ F) == fixed)
theorem infoI : (Tryd.prog.info? 3).map (fun i => (i.zero, i.size, i.bytes)) = some (some (.int .i64 0), 1, 8) := by kernel_rfl
theorem newsI (w : World) (d : Nat) (ty : TypeId) : ∀ j u, ([intV d] : List Value)[j]? = some u → (w.alloc (.cells #[.int .i64 (d : Int)] ty)).cell? ((⟨w.heap.size, 0, none⟩ : Addr).add j) = some u := by
  intro j u hj
  rw [show (⟨w.heap.size, 0, none⟩ : Addr).add j = ⟨w.heap.size, 0 + j, none⟩ by rw [Go.WideShapes.add_plain], Nat.zero_add]
  exact (Has.new w #[.int .i64 (d : Int)] ty).cell j (by simpa [intV] using hj)
theorem appI {base : Nat} {w : World} {v : Value} {l : List Nat} (d : Nat) (h : w.ownsRow base 3 1 v l.length (l.map intV)) (hl : l.length ≤ 100000000) (hb : base ≤ w.heap.size) :
    ∃ v' w', (Builtin.append_ #[52, 52] 52 #[v, .slice (some ⟨w.heap.size, 0, none⟩) 1 1]).run Tryd.prog (w.alloc (.cells #[.int .i64 (d : Int)] 3)) = .ok v' w' ∧ w'.ownsRow base 3 1 v' (l ++ [d]).length ((l ++ [d]).map intV) ∧ (w.alloc (.cells #[.int .i64 (d : Int)] 3)).grownBy w' v.ownBlock ∧ (v'.ownBlock = v.ownBlock ∨ v'.ownBlock = some (w.heap.size + 1)) := by
  have ho := own_later h (below_new w (.cells #[.int .i64 (d : Int)] 3))
  obtain ⟨v', w', h1, h2, h3, h4⟩ := Ba.append_at (P := Tryd.prog) (t := 52) (ty := 52) (c := 1) Tryd.underlying52 infoI rfl (by decide) ho (m := 1) (news := [intV d]) rfl (newsI w d 3) (by simp [Value.oneCell', intV]) (.inl (by decide)) (by unfold maxLen; omega) (by omega) (by rw [World.size_alloc]; omega)
  refine ⟨v', w', h1, ?_, h3, ?_⟩
  · rw [List.map_append, List.length_append]; exact h2
  · rw [World.size_alloc] at h4; exact h4
theorem bs3 (x : Int) (w : World) : (Instr.buildSlice 52 1 #[(0, .int .i64 x)]).run Tryd.prog w = .ok (.slice (some ⟨w.heap.size, 0, none⟩) 1 1) (w.alloc (.cells #[.int .i64 x] 3)) := by kernel_rfl
theorem r_blocks (h : Rf n0 w r bs fx dp P s) (hk : Ok K s) (fixed all : Bool) (most : Int) (hm : 0 ≤ most ∧ most ≤ 4096) : Calls Tryd.prog 60 #[.pointer (some ⟨r, 0, none⟩), .bool fixed, .bool all, .int .i64 most] w fun e w' => ∃ va cap, e = .returned (.slice va (gtake (selL fixed all s.F s.L) most).length cap) ∧ w'.ownsRow w.heap.size 74 2 (.slice va (gtake (selL fixed all s.F s.L) most).length cap) (gtake (selL fixed all s.F s.L) most).length ((gtake (selL fixed all s.F s.L) most).flatMap gapC) ∧ Below w.heap.size w w' := by
  obtain ⟨ra, rcap, c0, c1, c2, c3, c4, c5, c6, c7, c8, cf, d0, d1⟩ := h.cells
  have hlen := good_len hk.L
  have hc := hk.c
  obtain ⟨W0, hW0⟩ : ∃ W0, w.alloc (.cells #[.int .u32 (s.c : Int), .slice none 0 0] 54) = W0 := ⟨_, rfl⟩
  have hB0 : Below w.heap.size w W0 := by rw [← hW0]; exact below_new w _
  have hS0 : Has W0 w.heap.size #[.int .u32 (s.c : Int), .slice none 0 0] 54 := by rw [← hW0]; exact Has.new w _ _
  have AL := hidden (r_all (h.later hB0))
  have HH := hidden (fun (X : World) (hX : Below w.heap.size w X) => h.later hX)
  clear h
  obtain ⟨N, hN⟩ : ∃ N, Hid (s.L.length = N) := ⟨_, rfl⟩
  rw [hN.out] at AL hlen d1
  go_enter Tryd.func60, Tryd.ntmps60
  obtain ⟨e0, -⟩ := rcells_of (HH.out W0 hB0).q
  go_wp2_with fail
  refine Calls.mono AL.out ?_
  rintro e w1 ⟨va, cap, rfl, ho1, hB1⟩
  have HO1 := hidden ho1
  have HB1 := hidden hB1
  have HB0 := hidden hB0
  have HS1 := hidden (hS0.later hB1)
  clear ho1 hB1 hB0 hS0 hW0 e0
  obtain ⟨sb, hsb⟩ : ∃ sb, Hid (w.heap.size = sb) := ⟨_, rfl⟩
  rw [hsb.out] at HS1 ⊢
  go_wp2_with fail
  go_loopw [11] (fun i wr => ∃ (k : Nat) (av : Value), k ≤ N ∧ i = .int .i64 (k : Int) ∧ Has wr sb #[.int .u32 (s.c : Int), av] 54 ∧ wr.ownsRow w1.heap.size 3 1 av (selL fixed all s.F (s.L.take k)).length ((selL fixed all s.F (s.L.take k)).map intV) ∧ Below w.heap.size w wr ∧ w1.heap.size ≤ wr.heap.size ∧ wr.ownsRow W0.heap.size 22 1 (.slice va N cap) N (us (s.L.map (ts s.c)))) (fun i wr => N - (intOf i).toNat)
  case atStart => exact ⟨0, _, by omega, rfl, HS1.out, World.ownsRow_nil _ _ _ _, HB0.out.trans (HB1.out.mono HB0.out.size), Nat.le_refl _, HO1.out⟩
  case round =>
    obtain ⟨k, av, hk1, rfl, hS, ho, hB, hsz, hrow⟩ := hrel
    have hC := HH.out wr hB
    obtain ⟨q0, -⟩ := rcells_of hC.q
    by_cases hlt : k < N
    · have hkL : k < s.L.length := by rw [hN.out]; exact hlt
      obtain ⟨d, hd⟩ : ∃ d, s.L[k]? = some d := ⟨_, List.getElem?_eq_getElem hkL⟩
      have hd2 := hk.L.2 d (List.mem_of_getElem? hd)
      have hrd : (s.L.map (ts s.c))[k]? = some (ts s.c d) := by rw [List.getElem?_map, hd]; rfl
      obtain ⟨rb_, cap', e1, hb1, hb2, _⟩ := Ba.own_some hrow (by omega)
      cases e1
      have hcell := hrow.cellAt (g := rb_) k (by omega)
      rw [us_at hrd] at hcell
      obtain ⟨p0, ra2, rcap2, p1, hor⟩ := hC.a.read
      rw [hN.out] at p1 hor
      obtain ⟨g, rfl, hg, hint⟩ := hor.resolve_left (by omega)
      have hcx := hint k hlt
      rw [show s.L.getD k 0 = d by rw [List.getD_eq_getElem?_getD, hd]; rfl] at hcx
      have FI := fixed_ hC hk (ts s.c d) (ts_lt _ _)
      rw [ds_ts s.c d hk.c (by omega), Int.toNat_natCast] at FI
      have FI := hidden FI
      have hlt' : (k : Int) < (N : Int) := by omega
      have E1 := hidden (show selL fixed all s.F (s.L.take (k + 1)) = selL fixed all s.F (s.L.take k) ++ (if (all || (decide (d ∈ s.F) == fixed)) = true then [d] else []) by
        unfold selL
        rw [take_some hd, List.filter_append]
        congr 1
        by_cases h : (all || (decide (d ∈ s.F) == fixed)) = true
        · rw [if_pos h]; exact List.filter_cons_of_pos (p := fun d => all || (decide (d ∈ s.F) == fixed)) h
        · rw [if_neg h]; exact List.filter_cons_of_neg (p := fun d => all || (decide (d ∈ s.F) == fixed)) h)
      have hpl : (selL fixed all s.F (s.L.take k)).length ≤ 65536 := by
        have := List.length_filter_le (fun d => all || (decide (d ∈ s.F) == fixed)) (s.L.take k)
        rw [List.length_take] at this
        unfold selL
        omega
      obtain ⟨aa, acap, rfl⟩ := Ba.own_len ho
      have hmod : Mod (fun k => (Value.slice aa (selL fixed all s.F (s.L.take k)).length acap).ownBlock = some k) wr wr := Mod.refl _ _
      by_cases hs : (all || (decide (d ∈ s.F) == fixed)) = true
      · have E2 := E1.out
        rw [if_pos hs] at E2
        obtain ⟨v', W2, hr, o1, o2, o3⟩ := appI (w := wr.drew) d (show wr.drew.ownsRow w1.heap.size 3 1 _ _ _ from ho) (by omega) hsz
        obtain ⟨aa2, acap2, rfl⟩ := Ba.own_len o1
        have hBa : Below wr.heap.size wr (wr.drew.alloc (.cells #[.int .i64 (d : Int)] 3)) := (below_drew (Below.refl _ _)).alloc (Nat.le_refl _) _
        have hm2 : Mod (fun x => (Value.slice aa (selL fixed all s.F (s.L.take k)).length acap).ownBlock = some x) wr W2 := (Mod.of_below hBa).trans (Mod.grown (F := fun x => (Value.slice aa (selL fixed all s.F (s.L.take k)).length acap).ownBlock = some x) o2 (fun k e => e)) (fun x hx => .inl hx)
        have hS2 := hm2.has hS (fun hh => by
          obtain ⟨⟨cs, h9⟩, _⟩ := own_type ho hh
          exact absurd (has_type hS h9) (by decide))
        have hS3 := hS2.set 1 (.slice aa2 (selL fixed all s.F (s.L.take k) ++ [d]).length acap2)
        have hms := Mod.setCell (F := fun k => k = sb) W2 (p := ⟨sb, 1, none⟩) rfl (.slice aa2 (selL fixed all s.F (s.L.take k) ++ [d]).length acap2)
        have o4 := keep_any hms hS2 (by decide) o1
        have hrow2 := hm2.own hrow (fun x hx hh => by
          obtain ⟨⟨cs, h9⟩, _⟩ := own_type ho hh
          obtain ⟨⟨cs', h8⟩, _⟩ := own_type hrow hx
          exact absurd (has_type h8 h9) (by decide))
        have hrow3 := keep_any hms hS2 (by decide) hrow2
        have hB2 : Below w.heap.size w W2 := hB.trans (hm2.below hB.size (fun x hx => by have := (own_type ho hx).2; have := HB1.out.size; have := HB0.out.size; omega))
        have hB3 := hB2.trans (hms.below hB2.size (fun x hx => by have := hsb.out; omega))
        have z1 : W2.cell? ⟨sb, 1, none⟩ = some (.slice aa (selL fixed all s.F (s.L.take k)).length acap) := hS2.cell 1 rfl
        have z2 := hS2.frozen 1
        have cav : wr.cell? ⟨sb, 1, none⟩ = some (.slice aa (selL fixed all s.F (s.L.take k)).length acap) := hS.cell 1 rfl
        have LDA : Hid (∀ X, Below wr.heap.size wr X → (Instr.loadAt 52 (.pointer (some ⟨sb, 1, none⟩))).run Tryd.prog X = .ok (.slice aa (selL fixed all s.F (s.L.take k)).length acap) X) := fun X hX => by
          have e := (hX.cell (p := ⟨sb, 1, none⟩) (cell_lt cav)).trans cav
          simp [go_sem, e]
        have LDS : Hid (∀ X, Below wr.heap.size wr X → (Instr.loadAt 49 (.pointer (some ⟨r, 0, none⟩))).run Tryd.prog X = .ok (.pointer (some ⟨bs, 0, none⟩)) X) := fun X hX => by
          have e := (hX.cell (p := ⟨r, 0, none⟩) (cell_lt q0)).trans q0
          simp [go_sem, e]
        have LDT : Hid (∀ X, Below wr.heap.size wr X → (Instr.loadAt 52 (.pointer (some ⟨bs, 1, none⟩))).run Tryd.prog X = .ok (.slice (some ⟨g, 0, none⟩) N rcap2) X) := fun X hX => by
          have e := (hX.cell (p := ⟨bs, 1, none⟩) (cell_lt p1)).trans p1
          simp [go_sem, e]
        have LDX : Hid (∀ X, Below wr.heap.size wr X → (Instr.loadAt 3 (.pointer (some ⟨g, k, none⟩))).run Tryd.prog X = .ok (.int .i64 (d : Int)) X) := fun X hX => by
          have e := (hX.cell (p := ⟨g, k, none⟩) (cell_lt hcx)).trans hcx
          simp [go_sem, e]
        have HIX : Hid (∀ X : World, (Instr.indexAt 52 (.slice (some ⟨g, 0, none⟩) N rcap2) (.int .i64 (k : Int))).run Tryd.prog X = .ok (.pointer (some ⟨g, k, none⟩)) X) := fun X => by simp [go_sem, hlt']
        have HBS : Hid (∀ X : World, (Instr.buildSlice 52 1 #[(0, .int .i64 (d : Int))]).run Tryd.prog X = .ok (.slice (some ⟨X.heap.size, 0, none⟩) 1 1) (X.alloc (.cells #[.int .i64 (d : Int)] 3))) := fun X => bs3 _ X
        have HAP := hidden hr
        have HST : Hid ((Instr.storeAt 52 (.pointer (some ⟨sb, 1, none⟩)) (.slice aa2 (selL fixed all s.F (s.L.take k) ++ [d]).length acap2)).run Tryd.prog W2 = .ok () (W2.setCell ⟨sb, 1, none⟩ (.slice aa2 (selL fixed all s.F (s.L.take k) ++ [d]).length acap2))) := by
          show _ = _
          simp [go_sem, z1, z2]
        obtain ⟨W3, e3⟩ : ∃ W3, W2.setCell ⟨sb, 1, none⟩ (.slice aa2 (selL fixed all s.F (s.L.take k) ++ [d]).length acap2) = W3 := ⟨_, rfl⟩
        rw [e3] at HST hS3 o4 hrow3 hB3 hms
        have FN := hidden (⟨hS3, by rw [E2]; exact o4, hB3, Nat.le_trans hsz (Nat.le_trans hm2.size hms.size), hrow3⟩ : Has W3 sb #[.int .u32 (s.c : Int), .slice aa2 (selL fixed all s.F (s.L.take k) ++ [d]).length acap2] 54 ∧ W3.ownsRow w1.heap.size 3 1 (.slice aa2 (selL fixed all s.F (s.L.take k) ++ [d]).length acap2) (selL fixed all s.F (s.L.take (k + 1))).length ((selL fixed all s.F (s.L.take (k + 1))).map intV) ∧ Below w.heap.size w W3 ∧ w1.heap.size ≤ W3.heap.size ∧ W3.ownsRow W0.heap.size 22 1 (.slice (some ⟨rb_, 0, none⟩) N cap) N (us (s.L.map (ts s.c))))
        have hsel : all = false → (decide (d ∈ s.F) == fixed) = true := fun e => by rw [e] at hs; simpa using hs
        generalize decide (d ∈ s.F) = B at FI hsel
        generalize hq2 : (selL fixed all s.F (s.L.take k) ++ [d]).length = an2 at *
        generalize (selL fixed all s.F (s.L.take k)).length = an at *
        generalize (d : Int) = dI at *
        generalize ((ts s.c d : Nat) : Int) = xI at *
        clear hC hS ho hB hrow hd hrd hint p0 p1 hcx hr o1 o2 o3 o4 hBa hm2 hS2 hS3 hms hrow2 hrow3 hB2 hB3 z1 z2 cav hs E1 E2 e3 hq2 HH
        cases all with
        | true =>
          go_wp2_with fail
          refine Ord.wp_region_ex0 (X := Unit) (by kernel_rfl) 65 (fun x => [(some 43, .pointer (some ⟨sb, 0, none⟩)), (some 44, .pointer (some ⟨sb, 0, none⟩)), (some 45, .pointer (some ⟨sb, 0, none⟩)), (some 46, .pointer (some ⟨sb, 1, none⟩)), (some 47, .slice aa an acap), (some 48, .pointer (some ⟨r, 0, none⟩)), (some 49, .pointer (some ⟨r, 0, none⟩)), (some 50, .pointer (some ⟨r, 0, none⟩)), (some 51, .pointer (some ⟨bs, 0, none⟩)), (some 52, .pointer (some ⟨bs, 0, none⟩)), (some 53, .pointer (some ⟨bs, 1, none⟩)), (some 54, .slice (some ⟨g, 0, none⟩) N rcap2), (some 55, .int .i64 (k : Int)), (some 56, .pointer (some ⟨g, k, none⟩)), (some 57, .int .i64 dI), (some 58, .slice (some ⟨wr.drew.heap.size, 0, none⟩) 1 1), (some 59, .slice aa2 an2 acap2), (some 60, .pointer (some ⟨sb, 0, none⟩)), (some 61, .pointer (some ⟨sb, 1, none⟩)), (none, undef)]) [some 43, some 44, some 45, some 46, some 47, some 48, some 49, some 50, some 51, some 52, some 53, some 54, some 55, some 56, some 57, some 58, some 59, some 60, some 61, none] rfl (fun listed hsz hr => Ord.all_listedC (rank := [0, 1, 2, 3, 4, 5, 6, 7, 8, 9, 10, 11, 12, 13, 14, 15, 16, 17, 18, 19]) (by kernel_rfl) hsz hr) (by rfl) (fun _ => rfl) (by kernel_rfl) (Rg.StM [15, 16, 19] (fun sk sx w' => ApA wr (.cells #[.int .i64 dI] 3) W2 W3 sk w')) (fun _ _ _ _ hL h => h.ext (n := 20) (by decide) hL) ?_ ?_ () ?_
          case refine_1 =>
            intro x Lq iq oq ac w' ho hi hcl hdep hF hW
            have f1 : ac.tmps.size = 65 := hF.1
            match iq, ho, hi, hdep with
            | 0, ho, hi, hdep =>
              cases ho
              have da0 : ac.eval (.tmp 9) = .pointer (some ⟨sb, 0, none⟩) := hF.old 9 rfl
              exact Ord.ex_value x rfl rfl (Rg.mv da0 rfl) rfl (hW.keep (by decide))
            | 1, ho, hi, hdep =>
              cases ho
              have da0 : ac.eval (.tmp 9) = .pointer (some ⟨sb, 0, none⟩) := hF.old 9 rfl
              exact Ord.ex_value x rfl rfl (Rg.mv da0 rfl) rfl (hW.keep (by decide))
            | 2, ho, hi, hdep =>
              cases ho
              have da0 : ac.eval (.tmp 44) = .pointer (some ⟨sb, 0, none⟩) := hF.2.2.2 1 44 _ rfl (hdep ⟨1, .data⟩ (by simp) rfl)
              exact Ord.ex_value x rfl rfl (Rg.nilc da0 rfl) rfl (hW.keep (by decide))
            | 3, ho, hi, hdep =>
              cases ho
              have da0 : ac.eval (.tmp 45) = .pointer (some ⟨sb, 0, none⟩) := hF.2.2.2 2 45 _ rfl (hdep ⟨2, .data⟩ (by simp) rfl)
              exact Ord.ex_value x rfl rfl (Rg.fa da0 rfl (by simp [go_sem])) rfl (hW.keep (by decide))
            | 4, ho, hi, hdep =>
              cases ho
              have da0 : ac.eval (.tmp 46) = .pointer (some ⟨sb, 1, none⟩) := hF.2.2.2 3 46 _ rfl (hdep ⟨3, .data⟩ (by simp) rfl)
              obtain ⟨kq, hlo, hhi, hA⟩ := hW.range 0 1 (.inl rfl) (.inr ⟨16, rfl, (Rg.no_of (fun h => hcl 16 _ rfl (h) ⟨4, .data⟩ (by simp) rfl) hi)⟩)
              exact Ord.ex_value x rfl rfl (Rg.load da0 rfl (LDA.out _ (hA.bel (by omega)))) rfl (hW.keep (by decide))
            | 5, ho, hi, hdep =>
              cases ho
              have da0 : ac.eval (.tmp 0) = .pointer (some ⟨r, 0, none⟩) := hF.old 0 rfl
              exact Ord.ex_value x rfl rfl (Rg.mv da0 rfl) rfl (hW.keep (by decide))
            | 6, ho, hi, hdep =>
              cases ho
              have da0 : ac.eval (.tmp 48) = .pointer (some ⟨r, 0, none⟩) := hF.2.2.2 5 48 _ rfl (hdep ⟨5, .data⟩ (by simp) rfl)
              exact Ord.ex_value x rfl rfl (Rg.nilc da0 rfl) rfl (hW.keep (by decide))
            | 7, ho, hi, hdep =>
              cases ho
              have da0 : ac.eval (.tmp 49) = .pointer (some ⟨r, 0, none⟩) := hF.2.2.2 6 49 _ rfl (hdep ⟨6, .data⟩ (by simp) rfl)
              exact Ord.ex_value x rfl rfl (Rg.fa da0 rfl (by simp [go_sem])) rfl (hW.keep (by decide))
            | 8, ho, hi, hdep =>
              cases ho
              have da0 : ac.eval (.tmp 50) = .pointer (some ⟨r, 0, none⟩) := hF.2.2.2 7 50 _ rfl (hdep ⟨7, .data⟩ (by simp) rfl)
              obtain ⟨kq, hlo, hhi, hA⟩ := hW.range 0 0 (.inl rfl) (.inr ⟨15, rfl, (Rg.no_of (fun h => hcl 9 _ rfl (hcl 10 _ rfl (hcl 11 _ rfl (hcl 13 _ rfl (hcl 14 _ rfl (hcl 15 _ rfl (h) ⟨14, .data⟩ (by simp) rfl) ⟨13, .data⟩ (by simp) rfl) ⟨11, .data⟩ (by simp) rfl) ⟨10, .data⟩ (by simp) rfl) ⟨9, .data⟩ (by simp) rfl) ⟨8, .data⟩ (by simp) rfl) hi)⟩)
              exact Ord.ex_value x rfl rfl (Rg.load da0 rfl (LDS.out _ (hA.bel (by omega)))) rfl (hW.keep (by decide))
            | 9, ho, hi, hdep =>
              cases ho
              have da0 : ac.eval (.tmp 51) = .pointer (some ⟨bs, 0, none⟩) := hF.2.2.2 8 51 _ rfl (hdep ⟨8, .data⟩ (by simp) rfl)
              exact Ord.ex_value x rfl rfl (Rg.nilc da0 rfl) rfl (hW.keep (by decide))
            | 10, ho, hi, hdep =>
              cases ho
              have da0 : ac.eval (.tmp 52) = .pointer (some ⟨bs, 0, none⟩) := hF.2.2.2 9 52 _ rfl (hdep ⟨9, .data⟩ (by simp) rfl)
              exact Ord.ex_value x rfl rfl (Rg.fa da0 rfl (by simp [go_sem])) rfl (hW.keep (by decide))
            | 11, ho, hi, hdep =>
              cases ho
              have da0 : ac.eval (.tmp 53) = .pointer (some ⟨bs, 1, none⟩) := hF.2.2.2 10 53 _ rfl (hdep ⟨10, .data⟩ (by simp) rfl)
              obtain ⟨kq, hlo, hhi, hA⟩ := hW.range 0 0 (.inl rfl) (.inr ⟨15, rfl, (Rg.no_of (fun h => hcl 13 _ rfl (hcl 14 _ rfl (hcl 15 _ rfl (h) ⟨14, .data⟩ (by simp) rfl) ⟨13, .data⟩ (by simp) rfl) ⟨11, .data⟩ (by simp) rfl) hi)⟩)
              exact Ord.ex_value x rfl rfl (Rg.load da0 rfl (LDT.out _ (hA.bel (by omega)))) rfl (hW.keep (by decide))
            | 12, ho, hi, hdep =>
              cases ho
              have da0 : ac.eval (.tmp 11) = .int .i64 (k : Int) := hF.old 11 rfl
              exact Ord.ex_value x rfl rfl (Rg.mv da0 rfl) rfl (hW.keep (by decide))
            | 13, ho, hi, hdep =>
              cases ho
              have da0 : ac.eval (.tmp 54) = .slice (some ⟨g, 0, none⟩) N rcap2 := hF.2.2.2 11 54 _ rfl (hdep ⟨11, .data⟩ (by simp) rfl)
              have da1 : ac.eval (.tmp 55) = .int .i64 (k : Int) := hF.2.2.2 12 55 _ rfl (hdep ⟨12, .data⟩ (by simp) rfl)
              exact Ord.ex_value x rfl rfl (Rg.ix da0 da1 rfl (HIX.out _)) rfl (hW.keep (by decide))
            | 14, ho, hi, hdep =>
              cases ho
              have da0 : ac.eval (.tmp 56) = .pointer (some ⟨g, k, none⟩) := hF.2.2.2 13 56 _ rfl (hdep ⟨13, .data⟩ (by simp) rfl)
              obtain ⟨kq, hlo, hhi, hA⟩ := hW.range 0 0 (.inl rfl) (.inr ⟨15, rfl, (Rg.no_of (fun h => hcl 15 _ rfl (h) ⟨14, .data⟩ (by simp) rfl) hi)⟩)
              exact Ord.ex_value x rfl rfl (Rg.load da0 rfl (LDX.out _ (hA.bel (by omega)))) rfl (hW.keep (by decide))
            | 15, ho, hi, hdep =>
              cases ho
              have da0 : ac.eval (.tmp 57) = .int .i64 dI := hF.2.2.2 14 57 _ rfl (hdep ⟨14, .data⟩ (by simp) rfl)
              have hA := hW.at (k := 0) rfl hi (.inl rfl)
              have hw := hA.h0 rfl
              subst hw
              exact Ord.ex_value x rfl rfl (Rg.bsl rfl (by simp [da0]) (HBS.out _)) rfl (hW.next (k := 0) rfl (by decide) hi (.inl rfl) hA.s1)
            | 16, ho, hi, hdep =>
              cases ho
              have da0 : ac.eval (.tmp 47) = .slice aa an acap := hF.2.2.2 4 47 _ rfl (hdep ⟨4, .data⟩ (by simp) rfl)
              have da1 : ac.eval (.tmp 58) = .slice (some ⟨wr.drew.heap.size, 0, none⟩) 1 1 := hF.2.2.2 15 58 _ rfl (hdep ⟨15, .data⟩ (by simp) rfl)
              have hA := hW.at (k := 1) rfl hi (.inr ⟨15, rfl, (hdep ⟨15, .data⟩ (by simp) rfl)⟩)
              have hw := hA.h1 rfl
              subst hw
              exact Ord.ex_value x rfl rfl (Rg.app da0 da1 rfl HAP.out) rfl (hW.next (k := 1) rfl (by decide) hi (.inr ⟨15, rfl, (hdep ⟨15, .data⟩ (by simp) rfl)⟩) hA.s2)
            | 17, ho, hi, hdep =>
              cases ho
              have da0 : ac.eval (.tmp 43) = .pointer (some ⟨sb, 0, none⟩) := hF.2.2.2 0 43 _ rfl (hdep ⟨0, .data⟩ (by simp) rfl)
              exact Ord.ex_value x rfl rfl (Rg.nilc da0 rfl) rfl (hW.keep (by decide))
            | 18, ho, hi, hdep =>
              cases ho
              have da0 : ac.eval (.tmp 60) = .pointer (some ⟨sb, 0, none⟩) := hF.2.2.2 17 60 _ rfl (hdep ⟨17, .data⟩ (by simp) rfl)
              exact Ord.ex_value x rfl rfl (Rg.fa da0 rfl (by simp [go_sem])) rfl (hW.keep (by decide))
            | 19, ho, hi, hdep =>
              cases ho
              have da0 : ac.eval (.tmp 61) = .pointer (some ⟨sb, 1, none⟩) := hF.2.2.2 18 61 _ rfl (hdep ⟨18, .data⟩ (by simp) rfl)
              have da1 : ac.eval (.tmp 59) = .slice aa2 an2 acap2 := hF.2.2.2 16 59 _ rfl (hdep ⟨16, .data⟩ (by simp) rfl)
              have hA := hW.at (k := 2) rfl hi (.inr ⟨16, rfl, (hdep ⟨16, .data⟩ (by simp) rfl)⟩)
              have hw := hA.h2 rfl
              subst hw
              exact Rg.ex_skip x rfl rfl (Rg.sto da0 da1 rfl HST.out) rfl (hW.next (k := 2) rfl (by decide) hi (.inr ⟨16, rfl, (hdep ⟨16, .data⟩ (by simp) rfl)⟩) hA.s3)
          case refine_3 => exact Rg.StM.first (ApA.first _ _ _ _)
          case refine_2 =>
            intro vq wq hW
            have hw2 := hW.last.h3 rfl
            subst hw2
            clear hW
            simp only [Ord.puts, Ord.prs]
            go_simp
            go_wp2
            go_roundw
            case rel => exact ⟨k + 1, _, hlt, rfl, FN.out⟩
            case measure => simp only [intOf]; omega
        | false =>
          have hbf := hsel rfl
          clear hsel
          go_wp2_with fail
          refine Calls.mono FI.out ?_
          rintro e w' ⟨rfl, rfl⟩
          go_wp2_with fail
          refine Ord.wp_region_ex0 (X := Unit) (by kernel_rfl) 65 (fun x => [(some 43, .pointer (some ⟨sb, 0, none⟩)), (some 44, .pointer (some ⟨sb, 0, none⟩)), (some 45, .pointer (some ⟨sb, 0, none⟩)), (some 46, .pointer (some ⟨sb, 1, none⟩)), (some 47, .slice aa an acap), (some 48, .pointer (some ⟨r, 0, none⟩)), (some 49, .pointer (some ⟨r, 0, none⟩)), (some 50, .pointer (some ⟨r, 0, none⟩)), (some 51, .pointer (some ⟨bs, 0, none⟩)), (some 52, .pointer (some ⟨bs, 0, none⟩)), (some 53, .pointer (some ⟨bs, 1, none⟩)), (some 54, .slice (some ⟨g, 0, none⟩) N rcap2), (some 55, .int .i64 (k : Int)), (some 56, .pointer (some ⟨g, k, none⟩)), (some 57, .int .i64 dI), (some 58, .slice (some ⟨wr.drew.heap.size, 0, none⟩) 1 1), (some 59, .slice aa2 an2 acap2), (some 60, .pointer (some ⟨sb, 0, none⟩)), (some 61, .pointer (some ⟨sb, 1, none⟩)), (none, undef)]) [some 43, some 44, some 45, some 46, some 47, some 48, some 49, some 50, some 51, some 52, some 53, some 54, some 55, some 56, some 57, some 58, some 59, some 60, some 61, none] rfl (fun listed hsz hr => Ord.all_listedC (rank := [0, 1, 2, 3, 4, 5, 6, 7, 8, 9, 10, 11, 12, 13, 14, 15, 16, 17, 18, 19]) (by kernel_rfl) hsz hr) (by rfl) (fun _ => rfl) (by kernel_rfl) (Rg.StM [15, 16, 19] (fun sk sx w' => ApA wr (.cells #[.int .i64 dI] 3) W2 W3 sk w')) (fun _ _ _ _ hL h => h.ext (n := 20) (by decide) hL) ?_ ?_ () ?_
          case refine_1 =>
            intro x Lq iq oq ac w' ho hi hcl hdep hF hW
            have f1 : ac.tmps.size = 65 := hF.1
            match iq, ho, hi, hdep with
            | 0, ho, hi, hdep =>
              cases ho
              have da0 : ac.eval (.tmp 9) = .pointer (some ⟨sb, 0, none⟩) := hF.old 9 rfl
              exact Ord.ex_value x rfl rfl (Rg.mv da0 rfl) rfl (hW.keep (by decide))
            | 1, ho, hi, hdep =>
              cases ho
              have da0 : ac.eval (.tmp 9) = .pointer (some ⟨sb, 0, none⟩) := hF.old 9 rfl
              exact Ord.ex_value x rfl rfl (Rg.mv da0 rfl) rfl (hW.keep (by decide))
            | 2, ho, hi, hdep =>
              cases ho
              have da0 : ac.eval (.tmp 44) = .pointer (some ⟨sb, 0, none⟩) := hF.2.2.2 1 44 _ rfl (hdep ⟨1, .data⟩ (by simp) rfl)
              exact Ord.ex_value x rfl rfl (Rg.nilc da0 rfl) rfl (hW.keep (by decide))
            | 3, ho, hi, hdep =>
              cases ho
              have da0 : ac.eval (.tmp 45) = .pointer (some ⟨sb, 0, none⟩) := hF.2.2.2 2 45 _ rfl (hdep ⟨2, .data⟩ (by simp) rfl)
              exact Ord.ex_value x rfl rfl (Rg.fa da0 rfl (by simp [go_sem])) rfl (hW.keep (by decide))
            | 4, ho, hi, hdep =>
              cases ho
              have da0 : ac.eval (.tmp 46) = .pointer (some ⟨sb, 1, none⟩) := hF.2.2.2 3 46 _ rfl (hdep ⟨3, .data⟩ (by simp) rfl)
              obtain ⟨kq, hlo, hhi, hA⟩ := hW.range 0 1 (.inl rfl) (.inr ⟨16, rfl, (Rg.no_of (fun h => hcl 16 _ rfl (h) ⟨4, .data⟩ (by simp) rfl) hi)⟩)
              exact Ord.ex_value x rfl rfl (Rg.load da0 rfl (LDA.out _ (hA.bel (by omega)))) rfl (hW.keep (by decide))
            | 5, ho, hi, hdep =>
              cases ho
              have da0 : ac.eval (.tmp 0) = .pointer (some ⟨r, 0, none⟩) := hF.old 0 rfl
              exact Ord.ex_value x rfl rfl (Rg.mv da0 rfl) rfl (hW.keep (by decide))
            | 6, ho, hi, hdep =>
              cases ho
              have da0 : ac.eval (.tmp 48) = .pointer (some ⟨r, 0, none⟩) := hF.2.2.2 5 48 _ rfl (hdep ⟨5, .data⟩ (by simp) rfl)
              exact Ord.ex_value x rfl rfl (Rg.nilc da0 rfl) rfl (hW.keep (by decide))
            | 7, ho, hi, hdep =>
              cases ho
              have da0 : ac.eval (.tmp 49) = .pointer (some ⟨r, 0, none⟩) := hF.2.2.2 6 49 _ rfl (hdep ⟨6, .data⟩ (by simp) rfl)
              exact Ord.ex_value x rfl rfl (Rg.fa da0 rfl (by simp [go_sem])) rfl (hW.keep (by decide))
            | 8, ho, hi, hdep =>
              cases ho
              have da0 : ac.eval (.tmp 50) = .pointer (some ⟨r, 0, none⟩) := hF.2.2.2 7 50 _ rfl (hdep ⟨7, .data⟩ (by simp) rfl)
              obtain ⟨kq, hlo, hhi, hA⟩ := hW.range 0 0 (.inl rfl) (.inr ⟨15, rfl, (Rg.no_of (fun h => hcl 9 _ rfl (hcl 10 _ rfl (hcl 11 _ rfl (hcl 13 _ rfl (hcl 14 _ rfl (hcl 15 _ rfl (h) ⟨14, .data⟩ (by simp) rfl) ⟨13, .data⟩ (by simp) rfl) ⟨11, .data⟩ (by simp) rfl) ⟨10, .data⟩ (by simp) rfl) ⟨9, .data⟩ (by simp) rfl) ⟨8, .data⟩ (by simp) rfl) hi)⟩)
              exact Ord.ex_value x rfl rfl (Rg.load da0 rfl (LDS.out _ (hA.bel (by omega)))) rfl (hW.keep (by decide))
            | 9, ho, hi, hdep =>
              cases ho
              have da0 : ac.eval (.tmp 51) = .pointer (some ⟨bs, 0, none⟩) := hF.2.2.2 8 51 _ rfl (hdep ⟨8, .data⟩ (by simp) rfl)
              exact Ord.ex_value x rfl rfl (Rg.nilc da0 rfl) rfl (hW.keep (by decide))
            | 10, ho, hi, hdep =>
              cases ho
              have da0 : ac.eval (.tmp 52) = .pointer (some ⟨bs, 0, none⟩) := hF.2.2.2 9 52 _ rfl (hdep ⟨9, .data⟩ (by simp) rfl)
              exact Ord.ex_value x rfl rfl (Rg.fa da0 rfl (by simp [go_sem])) rfl (hW.keep (by decide))
            | 11, ho, hi, hdep =>
              cases ho
              have da0 : ac.eval (.tmp 53) = .pointer (some ⟨bs, 1, none⟩) := hF.2.2.2 10 53 _ rfl (hdep ⟨10, .data⟩ (by simp) rfl)
              obtain ⟨kq, hlo, hhi, hA⟩ := hW.range 0 0 (.inl rfl) (.inr ⟨15, rfl, (Rg.no_of (fun h => hcl 13 _ rfl (hcl 14 _ rfl (hcl 15 _ rfl (h) ⟨14, .data⟩ (by simp) rfl) ⟨13, .data⟩ (by simp) rfl) ⟨11, .data⟩ (by simp) rfl) hi)⟩)
              exact Ord.ex_value x rfl rfl (Rg.load da0 rfl (LDT.out _ (hA.bel (by omega)))) rfl (hW.keep (by decide))
            | 12, ho, hi, hdep =>
              cases ho
              have da0 : ac.eval (.tmp 11) = .int .i64 (k : Int) := hF.old 11 rfl
              exact Ord.ex_value x rfl rfl (Rg.mv da0 rfl) rfl (hW.keep (by decide))
            | 13, ho, hi, hdep =>
              cases ho
              have da0 : ac.eval (.tmp 54) = .slice (some ⟨g, 0, none⟩) N rcap2 := hF.2.2.2 11 54 _ rfl (hdep ⟨11, .data⟩ (by simp) rfl)
              have da1 : ac.eval (.tmp 55) = .int .i64 (k : Int) := hF.2.2.2 12 55 _ rfl (hdep ⟨12, .data⟩ (by simp) rfl)
              exact Ord.ex_value x rfl rfl (Rg.ix da0 da1 rfl (HIX.out _)) rfl (hW.keep (by decide))
            | 14, ho, hi, hdep =>
              cases ho
              have da0 : ac.eval (.tmp 56) = .pointer (some ⟨g, k, none⟩) := hF.2.2.2 13 56 _ rfl (hdep ⟨13, .data⟩ (by simp) rfl)
              obtain ⟨kq, hlo, hhi, hA⟩ := hW.range 0 0 (.inl rfl) (.inr ⟨15, rfl, (Rg.no_of (fun h => hcl 15 _ rfl (h) ⟨14, .data⟩ (by simp) rfl) hi)⟩)
              exact Ord.ex_value x rfl rfl (Rg.load da0 rfl (LDX.out _ (hA.bel (by omega)))) rfl (hW.keep (by decide))
            | 15, ho, hi, hdep =>
              cases ho
              have da0 : ac.eval (.tmp 57) = .int .i64 dI := hF.2.2.2 14 57 _ rfl (hdep ⟨14, .data⟩ (by simp) rfl)
              have hA := hW.at (k := 0) rfl hi (.inl rfl)
              have hw := hA.h0 rfl
              subst hw
              exact Ord.ex_value x rfl rfl (Rg.bsl rfl (by simp [da0]) (HBS.out _)) rfl (hW.next (k := 0) rfl (by decide) hi (.inl rfl) hA.s1)
            | 16, ho, hi, hdep =>
              cases ho
              have da0 : ac.eval (.tmp 47) = .slice aa an acap := hF.2.2.2 4 47 _ rfl (hdep ⟨4, .data⟩ (by simp) rfl)
              have da1 : ac.eval (.tmp 58) = .slice (some ⟨wr.drew.heap.size, 0, none⟩) 1 1 := hF.2.2.2 15 58 _ rfl (hdep ⟨15, .data⟩ (by simp) rfl)
              have hA := hW.at (k := 1) rfl hi (.inr ⟨15, rfl, (hdep ⟨15, .data⟩ (by simp) rfl)⟩)
              have hw := hA.h1 rfl
              subst hw
              exact Ord.ex_value x rfl rfl (Rg.app da0 da1 rfl HAP.out) rfl (hW.next (k := 1) rfl (by decide) hi (.inr ⟨15, rfl, (hdep ⟨15, .data⟩ (by simp) rfl)⟩) hA.s2)
            | 17, ho, hi, hdep =>
              cases ho
              have da0 : ac.eval (.tmp 43) = .pointer (some ⟨sb, 0, none⟩) := hF.2.2.2 0 43 _ rfl (hdep ⟨0, .data⟩ (by simp) rfl)
              exact Ord.ex_value x rfl rfl (Rg.nilc da0 rfl) rfl (hW.keep (by decide))
            | 18, ho, hi, hdep =>
              cases ho
              have da0 : ac.eval (.tmp 60) = .pointer (some ⟨sb, 0, none⟩) := hF.2.2.2 17 60 _ rfl (hdep ⟨17, .data⟩ (by simp) rfl)
              exact Ord.ex_value x rfl rfl (Rg.fa da0 rfl (by simp [go_sem])) rfl (hW.keep (by decide))
            | 19, ho, hi, hdep =>
              cases ho
              have da0 : ac.eval (.tmp 61) = .pointer (some ⟨sb, 1, none⟩) := hF.2.2.2 18 61 _ rfl (hdep ⟨18, .data⟩ (by simp) rfl)
              have da1 : ac.eval (.tmp 59) = .slice aa2 an2 acap2 := hF.2.2.2 16 59 _ rfl (hdep ⟨16, .data⟩ (by simp) rfl)
              have hA := hW.at (k := 2) rfl hi (.inr ⟨16, rfl, (hdep ⟨16, .data⟩ (by simp) rfl)⟩)
              have hw := hA.h2 rfl
              subst hw
              exact Rg.ex_skip x rfl rfl (Rg.sto da0 da1 rfl HST.out) rfl (hW.next (k := 2) rfl (by decide) hi (.inr ⟨16, rfl, (hdep ⟨16, .data⟩ (by simp) rfl)⟩) hA.s3)
          case refine_3 => exact Rg.StM.first (ApA.first _ _ _ _)
          case refine_2 =>
            intro vq wq hW
            have hw2 := hW.last.h3 rfl
            subst hw2
            clear hW
            simp only [Ord.puts, Ord.prs]
            go_simp
            go_wp2
            go_roundw
            case rel => exact ⟨k + 1, _, hlt, rfl, FN.out⟩
            case measure => simp only [intOf]; omega
      · have E2 := E1.out
        rw [if_neg hs, List.append_nil] at E2
        have FN := hidden (⟨hS, by rw [E2]; exact ho, hB, hsz, hrow⟩ : Has wr sb #[.int .u32 (s.c : Int), .slice aa (selL fixed all s.F (s.L.take k)).length acap] 54 ∧ wr.ownsRow w1.heap.size 3 1 (.slice aa (selL fixed all s.F (s.L.take k)).length acap) (selL fixed all s.F (s.L.take (k + 1))).length ((selL fixed all s.F (s.L.take (k + 1))).map intV) ∧ Below w.heap.size w wr ∧ w1.heap.size ≤ wr.heap.size ∧ wr.ownsRow W0.heap.size 22 1 (.slice (some ⟨rb_, 0, none⟩) N cap) N (us (s.L.map (ts s.c))))
        have hall : all = false ∧ (decide (d ∈ s.F) == fixed) = false := by
          cases all with
          | true => simp at hs
          | false => refine ⟨rfl, ?_⟩; simpa using hs
        obtain ⟨rfl, hbf⟩ := hall
        generalize decide (d ∈ s.F) = B at FI hbf
        generalize ((ts s.c d : Nat) : Int) = xI at *
        clear hC hS ho hB hrow hd hrd hint p0 p1 hcx hs E1 E2 HH hmod
        go_wp2_with fail
        refine Calls.mono FI.out ?_
        rintro e w' ⟨rfl, rfl⟩
        go_wp2
        go_roundw
        case rel => exact ⟨k + 1, _, hlt, rfl, FN.out⟩
        case measure => simp only [intOf]; omega
    · obtain rfl : k = N := by omega
      have e1 : s.L.take k = s.L := by rw [← hN.out]; exact List.take_length
      rw [e1] at ho
      have hR : IsRef wr sb s.c (selL fixed all s.F s.L) := ⟨hc, good_filter hk.L, av, hS, own_base ho (Nat.zero_le _)⟩
      have GA := hidden ((rGaps most (by omega) wr hR).mono (by
        rintro e w' ⟨v, rfl, o1, b1⟩
        obtain ⟨a1, cap1, rfl⟩ := Ba.own_len o1
        exact ⟨a1, cap1, rfl, own_base o1 hB.size, hB.trans (b1.mono hB.size)⟩ :
        ∀ e w', _ → (∃ va cap, e = .returned (.slice va (gtake (selL fixed all s.F s.L) most).length cap) ∧ w'.ownsRow w.heap.size 74 2 (.slice va (gtake (selL fixed all s.F s.L) most).length cap) (gtake (selL fixed all s.F s.L) most).length ((gtake (selL fixed all s.F s.L) most).flatMap gapC) ∧ Below w.heap.size w w')))
      clear hS ho hB hrow hC hR q0 HH
      go_wp2_with fail
      refine Calls.mono GA.out ?_
      rintro e w2 ⟨v1, cap1, rfl, o1, b1⟩
      go_wp2
      go_ret
      exact ⟨v1, cap1, rfl, o1, b1⟩
end
end Go.Proofs.YtdifceikfnnfeaaDoor.Sp.Inb
