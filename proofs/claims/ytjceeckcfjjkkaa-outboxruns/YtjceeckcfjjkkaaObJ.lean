/-
  Blocks of a report behind one another; of which chunks they tell.
  Conditions: as at each lemma.
-/
import Derived.Test.YtjceeckcfjjkkaaObI
namespace Go.Proofs.Ytjceeckcfjjkkaa.Ob
open Go.ChangeShapes Go.WideShapes Go.ChangeAt Go.RowKit Go.Shelf
open Ba (hidden Has cell_lt heap_lt)
set_option linter.unusedVariables false

theorem info_gap : (Try.prog.info? 65).map (fun i => (i.zero, i.size, i.bytes)) = some (some (.agg #[.int .u16 0, .int .u16 0]), 2, 4) := by kernel_rfl
theorem info_int : (Try.prog.info? 3).map (fun i => (i.zero, i.size, i.bytes)) = some (some (.int .i64 0), 1, 8) := by kernel_rfl
theorem info_bool : (Try.prog.info? 4).map (fun i => (i.zero, i.size, i.bytes)) = some (some (.bool false), 1, 1) := by kernel_rfl
/-- a row of blocks that is being filled -/
def Nw (G : Nat) (w : World) (v : Value) (dn : List (Int × Int)) (tot : Nat) : Prop :=
  (tot = 0 ∧ v = .slice none 0 0 ∧ dn = []) ∨ (0 < tot ∧ ∃ (cap : Nat) (cur : Array Value), v = .slice (some ⟨G, 0, none⟩) dn.length cap ∧ tot ≤ cap ∧ cap ≤ 9223372036854775807 ∧ Has w G cur 65 ∧ cur.size = cap * 2 ∧ ∀ (j : Nat) (u : Value), (gcs dn)[j]? = some u → cur[j]? = some u)
section
variable {Q F D : Nat → Prop} {w w' : World} {v : Value} {gs hs : List (Int × Int)} {k : Nat}
set_option maxHeartbeats 1000000 in
theorem grow (n : Nat) (hn : n ≤ 70368744177664) (w : World) : Calls Try.prog 77 #[.slice none 0 0, .int .i64 (n : Int)] w fun e w' => ∃ v, e = .returned v ∧ Nw w.heap.size w' v [] n ∧ Below w.heap.size w w' := by
  rcases Nat.eq_zero_or_pos n with rfl | hp
  · go_enter Try.func77, Try.ntmps77
    go_wp2
    go_ret
    exact ⟨_, rfl, .inl ⟨rfl, rfl, rfl⟩, Below.refl _ _⟩
  · obtain ⟨i, hi, hz, hs, hbi⟩ := info_parts info_gap
    have hold : (Builtin.firstCells i.size 0 (.slice none 0 0)).run Try.prog w.drew = .ok ([] : List Value).toArray w.drew := run_firstCells_none w.drew i.size 0 0 0
    have hrz := fun ty => Lib.run_append_grow_zeros w 44 3 ty 65 i _ .i64 .i64 Try.underlying44 Try.underlying3 hi hz none 0 0 [] hold n hp (by rw [hs]; decide) (by omega) (by omega) (by rw [hbi]; omega) (by rw [hbi, Nat.zero_add, nextslicecap_zero (by omega)]; omega)
    simp only [Nat.zero_add] at hrz
    have hge := grownCap_ge w n 0 65
    have hle := grownCap_le_maxLen w n 0 65 (by unfold maxLen; omega)
    generalize grownCap w n 0 65 = cap at *
    have hle2 : cap ≤ 9223372036854775807 := by simpa [maxLen] using hle
    have hw1 : IntKind.i64.wrap (n : Int) = (n : Int) := by rw [IntKind.wrap_i64]; omega
    have hp1 : (0 : Int) < (n : Int) := by omega
    have hp2 : ¬ (n : Int) < 0 := by omega
    have HR := hidden hrz
    clear hrz hold hle hi hz hs hbi
    go_enter Try.func77, Try.ntmps77
    go_wp2_with (at_builtin; refine Lib.wpList_append_run _ rfl _ _ _ _ rfl _ _ rfl rfl _ _ (HR.out _) ?_)
    go_ret
    refine ⟨_, rfl, .inr ⟨hp, cap, _, rfl, hge, hle2, Has.new w _ _, ?_, fun j u hj => by cases hj⟩, ((Below.refl _ w).alloc (Nat.le_refl _) _).drew⟩
    simp only [Array.size_append, size_zeroCells]
    show n * 2 + (cap - n) * 2 = cap * 2
    omega
theorem gcs_one (zs : List (Int × Int)) : ∀ u ∈ gcs zs, u.oneCell' = true := by
  intro u hu
  obtain ⟨z, _, hz⟩ := List.mem_flatMap.1 hu
  simp at hz
  rcases hz with rfl | rfl <;> rfl
/-- blocks are appended -/
theorem app_gaps {G tot : Nat} {x : Value} (h : Nw G w v gs tot) (hx : Gp Q w x hs) (hl : gs.length + hs.length ≤ tot) (hQ : ∀ k, Q k → k ≠ G) (ty : TypeId) :
    ∃ v' w2, (Builtin.append_ #[44, 44] ty #[v, x]).run Try.prog w = .ok v' w2 ∧ Nw G w2 v' (gs ++ hs) tot ∧ Mod (fun k => k = G) w w2 := by
  obtain ⟨i, hi, hz, hs2, hbi⟩ := info_parts info_gap
  obtain ⟨a, cp, rfl, hxl, hxn, hxc⟩ := hx
  rcases Nat.eq_zero_or_pos hs.length with h0 | hp
  · have e : hs = [] := List.eq_nil_of_length_eq_zero h0
    subst e
    have hr : ∀ (base : Option Addr) (l c : Nat), l ≤ c → (Builtin.append_ #[44, 44] ty #[.slice base l c, .slice a 0 cp]).run Try.prog w = .ok (.slice base l c) w := fun base l c hlc => by
      have hfc : (Builtin.firstCells i.size 0 (.slice a 0 cp)).run Try.prog w = .ok #[] w := by
        cases a with
        | none => exact run_firstCells_none w i.size 0 0 cp
        | some ad => exact run_firstCells_some w i.size 0 ad 0 cp [] (by simp) (fun j u hj => by cases hj)
      cases base with
      | none => simp [Builtin.append_, run_underlying Try.underlying44, sizeOf, typeInfo, hi, Builtin.lenOf, hlc, hfc]
      | some ad => simp [Builtin.append_, run_underlying Try.underlying44, sizeOf, typeInfo, hi, Builtin.lenOf, hlc, hfc, storeCells]
    rcases h with ⟨h1, rfl, rfl⟩ | ⟨h1, cap, cur, rfl, h2, h3, hh, h4, h5⟩
    · exact ⟨_, _, hr _ _ _ (Nat.le_refl _), .inl ⟨h1, rfl, rfl⟩, Mod.refl _ _⟩
    · refine ⟨_, _, hr _ _ _ (by omega), .inr ⟨h1, cap, cur, by rw [List.append_nil], h2, h3, hh, h4, by rw [List.append_nil]; exact h5⟩, Mod.refl _ _⟩
  · rcases hxc with rfl | ⟨b, off, rfl, hq, hc⟩
    · simp at hp
    · rcases h with ⟨h1, rfl, rfl⟩ | ⟨h1, cap, cur, rfl, h2, h3, hh, h4, h5⟩
      · simp at hl; omega
      · have hnews : ∀ j u, (gcs hs)[j]? = some u → w.cell? ((⟨b, off, none⟩ : Addr).add j) = some u := fun j u hj => by rw [add_at]; exact hc j u hj
        have hlen := gcs_len hs
        have hin : gs.length * 2 + (gcs hs).length ≤ cur.size := by omega
        have e := run_append_room_cells (P := Try.prog) w 44 ty 65 i Try.underlying44 hi G 0 gs.length cap ⟨b, off, none⟩ hs.length cp (gcs hs) (by rw [hs2]; exact hlen) hnews (gcs_one hs) (by omega)
          (fun j hj => by rw [hs2, Nat.zero_add]; rw [hh.cell (gs.length * 2 + j) (Array.getElem?_eq_getElem (by omega))]; rfl)
          (fun j hj => hh.frozen _)
        rw [hs2, Nat.zero_add] at e
        obtain ⟨cur', k1, k2, k3, k4⟩ := has_cells G 65 (gcs hs) (gs.length * 2) w cur hh hin
        refine ⟨_, _, e, .inr ⟨h1, cap, cur', by rw [List.length_append], h2, h3, k1, by rw [k2]; exact h4, fun j u hj => ?_⟩, mod_cells (fun k => k = G) G rfl _ _ _⟩
        rw [gcs_append] at hj
        have hjl := (List.getElem?_eq_some_iff.1 hj).1
        rw [List.length_append, gcs_len] at hjl
        by_cases hlt : j < (gcs gs).length
        · rw [List.getElem?_append_left hlt] at hj
          rw [gcs_len] at hlt
          rw [k3 _ (.inl (by omega))]
          exact h5 j u hj
        · rw [List.getElem?_append_right (by omega)] at hj
          rw [gcs_len] at hlt hj
          have := k4 (j - gs.length * 2) (by omega)
          rw [show gs.length * 2 + (j - gs.length * 2) = j by omega] at this
          rw [this]
          exact hj
theorem Nw.slice {G tot : Nat} (h : Nw G w v gs tot) : ∃ a cap, v = .slice a gs.length cap := by
  rcases h with ⟨_, rfl, rfl⟩ | ⟨_, cap, cur, rfl, _⟩
  · exact ⟨_, _, rfl⟩
  · exact ⟨_, _, rfl⟩
theorem Nw.gp {G tot : Nat} (h : Nw G w v gs tot) (hl : gs.length ≤ 70368744177664) (hn : Gn gs) (hQ : Q G) : Gp Q w v gs := by
  rcases h with ⟨_, rfl, rfl⟩ | ⟨_, cap, cur, rfl, _, _, hh, _, hc⟩
  · exact Gp.nil _ _
  · exact ⟨_, cap, rfl, hl, hn, .inr ⟨G, 0, rfl, hQ, fun j u hj => hh.cell _ (by rw [Nat.zero_add]; exact hc j u hj)⟩⟩
set_option maxHeartbeats 2000000 in
theorem concat {B : Nat} {x y : Value} (hb : Has w B #[x, y] 44) (hx : Gp (fun k => k < w.heap.size) w x gs) (hy : Gp (fun k => k < w.heap.size) w y hs) (hl : gs.length + hs.length ≤ 70368744177664) :
    Calls Try.prog 48 #[.slice (some ⟨B, 0, none⟩) 2 2] w fun e w' => ∃ v, e = .returned v ∧ Gp (fun k => k = w.heap.size) w' v (gs ++ hs) ∧ Below w.heap.size w w' := by
  have HX := hidden hx
  have HY := hidden hy
  have HBB := hidden hb
  have c0 := hb.cell 0 rfl
  have c1 := hb.cell 1 rfl
  have hBl := hb.lt
  obtain ⟨xa, xc, rfl, hxl⟩ := hx.slice
  obtain ⟨ya, yc, rfl, hyl⟩ := hy.slice
  have HN : Hid (Gn (gs ++ hs)) := by
    obtain ⟨_, _, _, _, n1, _⟩ := hx
    obtain ⟨_, _, _, _, n2, _⟩ := hy
    intro g hg
    exact (List.mem_append.1 hg).elim (n1 g) (n2 g)
  clear hx hy hb
  generalize hn : gs.length = n at *
  generalize hm : hs.length = m at *
  have HL := hidden (And.intro hn hm)
  clear hn hm
  have GR := hidden (grow (n + m) hl w)
  have hw0 : IntKind.i64.wrap (n : Int) = (n : Int) := by rw [IntKind.wrap_i64]; omega
  have hw1 : IntKind.i64.wrap ((n : Int) + (m : Int)) = ((n + m : Nat) : Int) := by rw [IntKind.wrap_i64]; omega
  have hp0 : ¬ (n : Int) < 0 := by omega
  have hp1 : ¬ ((n + m : Nat) : Int) < 0 := by omega
  go_enter Try.func48, Try.ntmps48
  go_wp2_with fail
  go_loopw [3, 11] (fun s i wr => w = wr ∧ ((i = .int .i64 0 ∧ s = .int .i64 0) ∨ (i = .int .i64 1 ∧ s = .int .i64 (n : Int)) ∨ (i = .int .i64 2 ∧ s = .int .i64 ((n + m : Nat) : Int)))) (fun _ i _ => 2 - (intOf i).toNat)
  case atStart => exact ⟨rfl, .inl ⟨rfl, rfl⟩⟩
  case round =>
    obtain ⟨rfl, hcase⟩ := hrel
    rcases hcase with ⟨rfl, rfl⟩ | ⟨rfl, rfl⟩ | ⟨rfl, rfl⟩
    · go_wp2
      go_roundw
      case rel => exact ⟨by trivial, .inr (.inl ⟨by go_num, by simp⟩)⟩
      case measure => simp [intOf]
    · go_wp2
      go_roundw
      case rel => exact ⟨by trivial, .inr (.inr ⟨by go_num, rfl⟩)⟩
      case measure => simp [intOf]
    · go_wp2_with fail
      refine Calls.mono GR.out ?_
      rintro e w1 ⟨v1, rfl, hN1, hB1⟩
      have HN1 := hidden hN1
      have HB1 := hidden hB1
      have HC0 := hidden c0
      have HC1 := hidden c1
      clear hN1 hB1 GR c0 c1
      go_wp2_with fail
      go_loopw [6, 27] (fun s i W => Below w.heap.size w W ∧ ((i = .int .i64 0 ∧ Nw w.heap.size W s [] (n + m)) ∨ (i = .int .i64 1 ∧ Nw w.heap.size W s gs (n + m)) ∨ (i = .int .i64 2 ∧ Nw w.heap.size W s (gs ++ hs) (n + m)))) (fun _ i _ => 2 - (intOf i).toNat)
      case atStart => exact ⟨HB1.out, .inl ⟨rfl, HN1.out⟩⟩
      case round =>
        obtain ⟨hB, hcase⟩ := hrel
        have d0 := (hB.cell (p := ⟨B, 0, none⟩) hBl).trans HC0.out
        have d1 := (hB.cell (p := ⟨B, 1, none⟩) hBl).trans HC1.out
        have hBl2 : B < wr.heap.size := Nat.lt_of_lt_of_le hBl hB.size
        rcases hcase with ⟨rfl, hN⟩ | ⟨rfl, hN⟩ | ⟨rfl, hN⟩
        · obtain ⟨v', w2, hrun, hN2, hm2⟩ := app_gaps hN (HX.out.later hB) (by have := HL.out; simp; omega) (fun k hk => by omega) 44
          have HR := hidden hrun
          have HG : Hid (Below w.heap.size w w2 ∧ Nw w.heap.size w2 v' gs (n + m)) := ⟨hB.trans (hm2.below hB.size (fun k hk => by omega)), by simpa using hN2⟩
          clear hrun hN hN2 hm2 hB
          go_wp2_with (at_builtin; refine Rg.wpList_app rfl _ _ _ rfl rfl rfl HR.out ?_; clear HR)
          go_wp2
          go_roundw
          case rel => exact ⟨HG.out.1, .inr (.inl ⟨by go_num, HG.out.2⟩)⟩
          case measure => simp [intOf]
        · obtain ⟨v', w2, hrun, hN2, hm2⟩ := app_gaps hN (HY.out.later hB) (by have := HL.out; omega) (fun k hk => by omega) 44
          have HR := hidden hrun
          have HG : Hid (Below w.heap.size w w2 ∧ Nw w.heap.size w2 v' (gs ++ hs) (n + m)) := ⟨hB.trans (hm2.below hB.size (fun k hk => by omega)), hN2⟩
          clear hrun hN hN2 hm2 hB
          go_wp2_with (at_builtin; refine Rg.wpList_app rfl _ _ _ rfl rfl rfl HR.out ?_; clear HR)
          go_wp2
          go_roundw
          case rel => exact ⟨HG.out.1, .inr (.inr ⟨by go_num, HG.out.2⟩)⟩
          case measure => simp [intOf]
        · have HG := hidden (And.intro hB hN)
          clear hB hN
          go_wp2
          go_ret
          exact ⟨_, rfl, HG.out.2.gp (by have := HL.out; rw [List.length_append]; omega) HN.out rfl, HG.out.1⟩
end
end Go.Proofs.Ytjceeckcfjjkkaa.Ob
