/-
  A report's rows laid one behind the other: the document's set of them is what came.
  Conditions: as at each lemma.
-/
import Derived.Test.YtdifceikfnnfeaaDoorInT
import Derived.Test.YtdifceikfnnfeaaDoorInU
namespace Go.Proofs.YtdifceikfnnfeaaDoor.Sp.Inb
open Go.ChangeShapes Go.WideShapes Go.ChangeAt Go.RowKit
open Ba (hidden Has cell_lt heap_lt)
set_option linter.unusedVariables false
set_option maxRecDepth 20000
theorem gap_one (X : List (Nat × Nat)) : ∀ u ∈ X.flatMap gapC, u.oneCell' = true := fun u hu => by
  obtain ⟨g, _, hg⟩ := List.mem_flatMap.1 hu
  simp only [gapC, List.mem_cons, List.not_mem_nil, or_false] at hg
  rcases hg with rfl | rfl <;> rfl
/-- a row of blocks behind another -/
theorem appG {w : World} {base b2 : Nat} {v u : Value} {X Y : List (Nat × Nat)} (h : w.ownsRow base 74 2 v X.length (X.flatMap gapC)) (hv : ∃ g, v.ownBlock = some g) (h2 : w.ownsRow b2 74 2 u Y.length (Y.flatMap gapC)) (hl : X.length + Y.length ≤ 100000) (hb : base ≤ w.heap.size) :
    ∃ v' w', (Builtin.append_ #[42, 42] 42 #[v, u]).run Tryd.prog w = .ok v' w' ∧ w'.ownsRow base 74 2 v' (X ++ Y).length ((X ++ Y).flatMap gapC) ∧ Below base w w' ∧ ∃ g, v'.ownBlock = some g := by
  obtain ⟨a, cap, rfl, hlies, hnil, -, -⟩ := own_lies h2
  have hgb : ∀ q, v.ownBlock = some q → base ≤ q := fun q hq => (own_type h hq).2
  rcases a with _ | ad
  · obtain ⟨hY, rfl⟩ := hnil rfl
    rw [List.eq_nil_of_length_eq_zero hY, List.append_nil]
    obtain ⟨i0, hi, _⟩ := info_parts info76
    exact ⟨v, w, run_append_owned_none (P := Tryd.prog) (w := w) base 42 42 74 i0 2 Tryd.underlying42 hi _ _ _ h, h, Below.refl _ _, hv⟩
  · obtain ⟨v', w', hr, g1, g2, g3⟩ := Ba.append_at (P := Tryd.prog) (t := 42) (ty := 42) (m := Y.length) (c := cap) (ad := ad) (news := Y.flatMap gapC) Tryd.underlying42 info76 rfl (by decide) h (gapC_len Y) (lies_news hlies) (gap_one Y) (.inr (by obtain ⟨g, e⟩ := hv; rw [e]; simp)) (by unfold maxLen; omega) (by omega) hb
    refine ⟨v', w', hr, by rw [List.length_append, List.flatMap_append]; exact g1, (Mod.grown (F := fun k => base ≤ k) g2 (fun q hq => hgb q hq)).below hb (fun k hk => hk), ?_⟩
    rcases g3 with e | e
    · obtain ⟨g, e2⟩ := hv
      exact ⟨g, e.trans e2⟩
    · exact ⟨_, e⟩
/-- two rows in a new one, as the law lays them -/
theorem two_rows {W : World} {b1 b2 : Nat} {u1 u2 : Value} {X Y : List (Nat × Nat)} (h1 : W.ownsRow b1 74 2 u1 X.length (X.flatMap gapC)) (h2 : W.ownsRow b2 74 2 u2 Y.length (Y.flatMap gapC)) (hl : X.length + Y.length ≤ 100000) :
    ∃ v2 W2 v3 W3, (Builtin.append_ #[42, 42] 42 #[.slice (some ⟨W.heap.size, 0, none⟩) 0 0, u1]).run Tryd.prog (W.drew.alloc (.cells #[] 74)) = .ok v2 W2 ∧ (Builtin.append_ #[42, 42] 42 #[v2, u2]).run Tryd.prog W2 = .ok v3 W3 ∧
      Below W.heap.size W (W.drew.alloc (.cells #[] 74)) ∧ Below W.heap.size W W2 ∧ Below W.heap.size W W3 ∧ W3.ownsRow W.heap.size 74 2 v3 (X ++ Y).length ((X ++ Y).flatMap gapC) := by
  have hB1 : Below W.heap.size W (W.drew.alloc (.cells #[] 74)) := (below_drew (Below.refl _ _)).alloc (Nat.le_refl _) _
  have ho : (W.drew.alloc (.cells #[] 74)).ownsRow W.heap.size 74 2 (.slice (some ⟨W.heap.size, 0, none⟩) 0 0) ([] : List (Nat × Nat)).length (([] : List (Nat × Nat)).flatMap gapC) := World.ownsRow_lit W.drew #[] 0 (Nat.le_refl _) (Nat.zero_le _) rfl
  obtain ⟨v2, W2, r2, o2, l2, n2⟩ := appG ho ⟨_, rfl⟩ (own_later h1 hB1) (by simp; omega) hB1.size
  rw [List.nil_append] at o2
  have hB2 := hB1.trans l2
  obtain ⟨v3, W3, r3, o3, l3, _⟩ := appG o2 n2 (own_later h2 hB2) hl hB2.size
  exact ⟨v2, W2, v3, W3, r2, r3, hB1, hB2, hB2.trans l3, o3⟩
theorem same_list {L L' : List Nat} (h : Up L) (h' : Up L') (e : ∀ d, d ∈ L' ↔ d ∈ L) : L' = L := by
  have e1 := sub_filter h h' fun x hx => (e x).1 hx
  rw [← e1]
  exact List.filter_eq_self.2 fun x hx => decide_eq_true ((e x).2 hx)
/-- the blocks of a report -/
def repG (s : St) : List (Nat × Nat) := gapsR s 4096 ++ nrR s 4096
theorem repG_facts {K : Nat} {s : St} (hk : Ok K s) (hK : K ≤ 1000) : (repG s).any bad = false ∧ (∀ g ∈ repG s, g.1 < 65536 ∧ g.2 < 65536) ∧ (repG s).length ≤ 4096 ∧ (gapsR s 4096).length + (nrR s 4096).length ≤ 100000 ∧ ∀ L', Good 2 L' → Uni (repG s) L' → L' = s.L := by
  have hLk := hk.lk
  have hFk := sub_len hk.L.1 hk.F.1 hk.sub
  have hGl : Good 2 (loose s.L s.F) := good_filter hk.L
  have hll : (loose s.L s.F).length ≤ s.L.length := List.length_filter_le _ _
  have b1 := blk_len s.L
  have b2 := blk_len s.F
  have b3 := blk_len (loose s.L s.F)
  have main : ∀ G N : List (Nat × Nat), gapsR s 4096 = G → nrR s 4096 = N → G.length + N.length ≤ 2000 → (∀ g ∈ G ++ N, 2 ≤ g.1 ∧ g.1 ≤ g.2 ∧ g.2 ≤ 65535) → (∀ d, (∃ g ∈ G ++ N, g.1 ≤ d ∧ d ≤ g.2) ↔ d ∈ s.L) → _ := fun G N e1 e2 hl hg hm => (by
    unfold repG
    rw [e1, e2]
    refine ⟨List.any_eq_false.2 fun g h => ?_, fun g h => ?_, by rw [List.length_append]; omega, by omega, fun L' hL' hU => ?_⟩
    · have := hg g h
      simp [bad]
      omega
    · have := hg g h
      omega
    · exact same_list hk.L.1 hL'.1 fun d => (hU d).trans (hm d)
    : (repG s).any bad = false ∧ (∀ g ∈ repG s, g.1 < 65536 ∧ g.2 < 65536) ∧ (repG s).length ≤ 4096 ∧ (gapsR s 4096).length + (nrR s 4096).length ≤ 100000 ∧ ∀ L', Good 2 L' → Uni (repG s) L' → L' = s.L)
  cases hn : s.nr with
  | false =>
    refine main (blk s.L) [] ?_ ?_ (by simp; omega) (fun g hg => blk_good s.L 2 hk.L g (by simpa using hg)) fun d => ?_
    · unfold gapsR; rw [hn, if_neg (by decide)]; exact List.take_of_length_le (by show _ ≤ 4096; omega)
    · unfold nrR; rw [hn, if_neg (by decide)]
    · rw [List.append_nil]; exact (mem_blk d s.L).symm
  | true =>
    refine main (blk (loose s.L s.F)) (blk s.F) ?_ ?_ (by omega) (fun g hg => ?_) fun d => ?_
    · unfold gapsR; rw [hn, if_pos rfl]; exact List.take_of_length_le (by show _ ≤ 4096; omega)
    · unfold nrR; rw [hn, if_pos rfl]; exact List.take_of_length_le (by show _ ≤ 4096; omega)
    · rcases List.mem_append.1 hg with k | k
      · exact blk_good _ 2 hGl g k
      · exact blk_good _ 2 hk.F g k
    · have e1 := mem_blk d (loose s.L s.F)
      have e2 := mem_blk d s.F
      have e3 : d ∈ loose s.L s.F ↔ d ∈ s.L ∧ d ∉ s.F := by unfold loose; rw [List.mem_filter]; simp
      constructor
      · rintro ⟨g, hg, hd⟩
        rcases List.mem_append.1 hg with k | k
        · exact (e3.1 (e1.2 ⟨g, k, hd⟩)).1
        · exact hk.sub d (e2.2 ⟨g, k, hd⟩)
      · intro hd
        by_cases hf : d ∈ s.F
        · obtain ⟨g, k, q⟩ := e2.1 hf
          exact ⟨g, List.mem_append_right _ k, q⟩
        · obtain ⟨g, k, q⟩ := e1.1 (e3.2 ⟨hd, hf⟩)
          exact ⟨g, List.mem_append_left _ k, q⟩
/-- the document's set of a report -/
theorem from_rep {K : Nat} {s : St} (hk : Ok K s) (hK : K ≤ 1000) {X : World} {base : Nat} {v : Value} (h : X.ownsRow base 74 2 v (repG s).length ((repG s).flatMap gapC)) :
    Calls Tryd.prog 15 #[.int .u32 (s.c : Int), v] X fun e w' => ∃ q : Nat, e = .returned (.tuple #[.pointer (some ⟨q, 0, none⟩), .int .i64 0]) ∧ IsRef w' q s.c s.L ∧ Below X.heap.size X w' := by
  obtain ⟨f1, f2, f3, _, f4⟩ := repG_facts hk hK
  obtain ⟨_, a, cap, rfl, hor⟩ := gps_own h
  refine (rfrom X s.c hk.c a _ cap (repG s) ⟨rfl, f2, by omega, hor.imp id ?_⟩ f3).mono ?_
  · rintro ⟨b, rfl, hb, hc⟩
    exact ⟨b, 0, rfl, hb, fun j hj => by rw [Nat.zero_add]; exact hc j hj⟩
  · rintro e w' ⟨hB, h1 | ⟨_, b, L, rfl, _, hR, hU⟩⟩
    · rw [f1] at h1; cases h1.1
    · have := f4 L hR.2.1 hU
      subst this
      exact ⟨b, rfl, hR, hB⟩
/-- a report is kept: its rows -/
theorem Rg_.rows {w : World} {base : Nat} {kd cu wn : Int} {Xs Ys : List (Nat × Nat)} {D : List Nat} {V : Value} (h : Rg_ base w kd cu wn Xs Ys D V) : ∃ Y cs u1 u2, V = .agg cs ∧ (Instr.storeAt 46 (.pointer (some ⟨w.heap.size, 0, none⟩)) (.agg cs)).run Tryd.prog (w.alloc (.cells zch 46)) = .ok () Y ∧ Below w.heap.size w Y ∧ w.heap.size < Y.heap.size ∧
    Y.cell? ⟨w.heap.size, 2, none⟩ = some (.int .u32 cu) ∧ Y.cell? ⟨w.heap.size, 10, none⟩ = some u1 ∧ Y.cell? ⟨w.heap.size, 11, none⟩ = some u2 ∧ Y.ownsRow base 74 2 u1 Xs.length (Xs.flatMap gapC) ∧ Y.ownsRow base 74 2 u2 Ys.length (Ys.flatMap gapC) := by
  obtain ⟨a1, n1, k1, a2, n2, k2, a3, n3, k3, rfl, h1, h2, h3⟩ := h
  have hX := (Ow.Own.refl w).alloc zch 46
  have hY := hX.row (chv kd cu wn (.slice a1 n1 k1) (.slice a2 n2 k2) (.slice a3 n3 k3)) (by simp)
  obtain ⟨q0, q1, q2, q7, q10, q11, q12, q13, q14⟩ := ch_cells (hY.has (.head _))
  exact ⟨_, _, _, _, rfl, store_ch (hX.has (.head _)), hY.below, (hY.has (.head _)).lt, q2, q10, q11, own_later h1 hY.below, own_later h2 hY.below⟩
/-- the worlds of the law's drawn region: the empty row, the report's rows behind it, the document's set -/
structure ApB (W W2 W3 : World) (R : Nat → World → Prop) (k x : Nat) (w' : World) : Prop where
  h0 : k = 0 → w' = W.drew
  h1 : k = 1 → w' = W.drew.alloc (.cells #[] 74)
  h2 : k = 2 → w' = W2
  h3 : k = 3 → w' = W3
  h4 : k = 4 → R x w'
  bel : k ≤ 3 → Below W.heap.size W w'
section
variable {W W2 W3 w' : World} {R : Nat → World → Prop} {x : Nat}
theorem ApB.first (W W2 W3 : World) (R : Nat → World → Prop) (x : Nat) : ApB W W2 W3 R 0 x W.drew := ⟨fun _ => rfl, fun e => absurd e (by decide), fun e => absurd e (by decide), fun e => absurd e (by decide), fun e => absurd e (by decide), fun _ => below_drew (Below.refl _ _)⟩
theorem ApB.s1 (h : Below W.heap.size W (W.drew.alloc (.cells #[] 74))) : ApB W W2 W3 R 1 x (W.drew.alloc (.cells #[] 74)) := ⟨fun e => absurd e (by decide), fun _ => rfl, fun e => absurd e (by decide), fun e => absurd e (by decide), fun e => absurd e (by decide), fun _ => h⟩
theorem ApB.s2 (h : Below W.heap.size W W2) : ApB W W2 W3 R 2 x W2 := ⟨fun e => absurd e (by decide), fun e => absurd e (by decide), fun _ => rfl, fun e => absurd e (by decide), fun e => absurd e (by decide), fun _ => h⟩
theorem ApB.s3 (h : Below W.heap.size W W3) : ApB W W2 W3 R 3 x W3 := ⟨fun e => absurd e (by decide), fun e => absurd e (by decide), fun e => absurd e (by decide), fun _ => rfl, fun e => absurd e (by decide), fun _ => h⟩
theorem ApB.s4 (h : R x w') : ApB W W2 W3 R 4 x w' := ⟨fun e => absurd e (by decide), fun e => absurd e (by decide), fun e => absurd e (by decide), fun e => absurd e (by decide), fun _ => h, fun e => absurd e (by decide)⟩
end
theorem bsG (X : World) : (Instr.buildSlice 42 0 #[]).run Tryd.prog X = .ok (.slice (some ⟨X.heap.size, 0, none⟩) 0 0) (X.alloc (.cells #[] 74)) := by kernel_rfl
end Go.Proofs.YtdifceikfnnfeaaDoor.Sp.Inb
