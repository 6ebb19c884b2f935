/-
  A seal that is known.
  Conditions: none.
-/
import Derived.Test.YtalfhcaggjgibaaMacG
namespace Go.Proofs.Ytalfhcaggjgibaa.Mac
open Go.ChangeShapes Go.WideShapes Go.ChangeAt Go.RowKit
set_option linter.unusedVariables false

theorem kd_a : (8388350548712186997, 7737605742629119589, 7746018054687388513, xor 8893317812261383291 506097522914230528) = ((8388350548712186997, 7737605742629119589, 7746018054687388513, 8965941637590838651) : Q) := by decide +kernel
theorem kr1 : rq (8388350548712186997, 7737605742629119589, 7746018054687388513, 8965941637590838651) = (7234622213559911551, 5679657091042289884, 17507541871953713710, 10561215458719233192) := by decide +kernel
theorem kr2 : rq (7234622213559911551, 5679657091042289884, 17507541871953713710, 10561215458719233192) = (5550533282829457632, 960101207715568036, 7155291096292130109, 11899158306042141128) := by decide +kernel
theorem km_a : mixq (8388350548712186997, 7737605742629119589, 7746018054687388513, 8893317812261383291) 506097522914230528 = (5332668335157565920, 960101207715568036, 7155291096292130109, 11899158306042141128) := by
  show (fun r : Q => (xor r.1 506097522914230528, r.2.1, r.2.2.1, r.2.2.2)) (rq (rq (8388350548712186997, 7737605742629119589, 7746018054687388513, xor 8893317812261383291 506097522914230528))) = _
  rw [kd_a, kr1, kr2]
  decide +kernel
theorem kd_b : (5332668335157565920, 960101207715568036, 7155291096292130109, xor 11899158306042141128 1084818905618843912) = ((5332668335157565920, 960101207715568036, 7155291096292130109, 12262246680959504576) : Q) := by decide +kernel
theorem kr3 : rq (5332668335157565920, 960101207715568036, 7155291096292130109, 12262246680959504576) = (6157934698269233248, 5516460237762138942, 13636055431817437569, 18128185969701712661) := by decide +kernel
theorem kr4 : rq (6157934698269233248, 5516460237762138942, 13636055431817437569, 18128185969701712661) = (3714271943849916249, 4706195620995523444, 14767653532181591229, 5950369851552862082) := by decide +kernel
theorem km_b : mixq (5332668335157565920, 960101207715568036, 7155291096292130109, 11899158306042141128) 1084818905618843912 = (4361089363066863185, 4706195620995523444, 14767653532181591229, 5950369851552862082) := by
  show (fun r : Q => (xor r.1 1084818905618843912, r.2.1, r.2.2.1, r.2.2.2)) (rq (rq (5332668335157565920, 960101207715568036, 7155291096292130109, xor 11899158306042141128 1084818905618843912))) = _
  rw [kd_b, kr3, kr4]
  decide +kernel
theorem kc : cee 255 (4361089363066863185, 4706195620995523444, 14767653532181591229, 5950369851552862082) = (4361089363066863185, 4706195620995523444, 14767653532181591106, 5950369851552862082) := by decide +kernel
theorem kr5 : rq (4361089363066863185, 4706195620995523444, 14767653532181591106, 5950369851552862082) = (17484471583065917694, 12419469187640764132, 11521806195894466874, 18249101767083229960) := by decide +kernel
theorem kr6 : rq (17484471583065917694, 12419469187640764132, 11521806195894466874, 18249101767083229960) = (13169646669688136884, 1601250028820315376, 2934296004437294406, 14503383583575763861) := by decide +kernel
theorem kr7 : rq (13169646669688136884, 1601250028820315376, 2934296004437294406, 14503383583575763861) = (6345601658181494246, 17904388966747400157, 2135071530876450039, 8513134298608192217) := by decide +kernel
theorem kr8 : rq (6345601658181494246, 17904388966747400157, 2135071530876450039, 8513134298608192217) = (17779319867929710577, 6105076025163569463, 1961373283477337434, 1735217956439975545) := by decide +kernel
def kz : List Int := [0, 1, 2, 3, 4, 5, 6, 7, 8, 9, 10, 11, 12, 13, 14, 15]
def zz : List Int := [0, 1, 2, 3, 4, 5, 6, 7, 8, 9, 10, 11, 12, 13, 14]
theorem k_lo : lo kz = 506097522914230528 := by decide +kernel
theorem k_hi : hi kz = 1084818905618843912 := by decide +kernel
theorem k_init : initq kz = (8388350548712186997, 7737605742629119589, 7746018054687388513, 8893317812261383291) := by
  show init4 8317987319222330741 7237128888997146477 7816392313619706465 8387220255154660723 (lo kz) (hi kz) = _
  rw [k_lo, k_hi]
  decide +kernel
theorem k_m1 : pk (fun i => byteAt zz (0 + i)) 8 = 506097522914230528 := by decide +kernel
theorem k_m2 : pk (fun i => byteAt zz (8 + i)) (zz.length - 8) = 3954995049924872 := by decide +kernel
theorem k_lw : lastWord 3954995049924872 15 = 1084818905618843912 := by decide +kernel
theorem k_come : come (initq kz, 0, 0) zz = ((5332668335157565920, 960101207715568036, 7155291096292130109, 11899158306042141128), 3954995049924872, 15) := by
  have h1 := next_word (initq kz) zz 0 (initq kz) rfl (by decide) rfl
  rw [k_m1, k_init, km_a] at h1
  have h2 := last_word (initq kz) zz 8 (5332668335157565920, 960101207715568036, 7155291096292130109, 11899158306042141128) rfl (by decide) (by decide) (by rw [k_init]; exact h1)
  rw [k_m2] at h2
  exact h2
theorem k_fin : fin (17779319867929710577, 6105076025163569463, 1961373283477337434, 1735217956439975545) = 11613035633349379557 := by decide +kernel
theorem k_sip : sip kz zz = 11613035633349379557 := by
  unfold sip
  rw [k_come]
  show fin (rnds (cee 255 (mixq (5332668335157565920, 960101207715568036, 7155291096292130109, 11899158306042141128) (lastWord 3954995049924872 15))) 4) = _
  rw [k_lw, km_b, kc]
  show fin (rq (rq (rq (rq (4361089363066863185, 4706195620995523444, 14767653532181591106, 5950369851552862082))))) = _
  rw [kr5, kr6, kr7, kr8, k_fin]

theorem bytes_kz : Bytes kz := show ∀ n ∈ kz, 0 ≤ n ∧ n < 256 by decide
theorem bytes_zz : Bytes zz := show ∀ n ∈ zz, 0 ≤ n ∧ n < 256 by decide
/-- the first numbers as bytes -/
def firsts (n : Nat) : List Value := (List.range n).map fun j : Nat => Value.int .u8 (j : Int)
theorem firsts_succ (n : Nat) : firsts (n + 1) = firsts n ++ [.int .u8 (n : Int)] := by unfold firsts; rw [List.range_succ, List.map_append]; rfl

theorem cell_one_at (W : World) (g : Nat) (hg : g = W.heap.size) (x : Value) (t : TypeId) : ∀ j u, [x][j]? = some u → (W.alloc (.cells #[x] t)).cell? ((⟨g, 0, none⟩ : Addr).add j) = some u := by
  subst hg; exact cell_one_new W x t
theorem size_alloc (W : World) (o : Obj) : (W.alloc o).heap.size = W.heap.size + 1 := by simp
theorem size_set (W : World) (a : Addr) (v : Value) : (W.setCell a v).heap.size = W.heap.size := by simp [World.setCell]

theorem Own.grown {W W' : World} {g n : Nat} {f : Nat → Int} {row : Option Nat} (h : Own W g n f) (hg : W.grownBy W' row) (hne : row ≠ some g) : Own W' g n f := by
  have hb := hg.block g h.1 (fun e => hne e.symm)
  exact ⟨Nat.lt_of_lt_of_le h.1 hg.size, fun k hk => ⟨(World.cell?_of_block (a := ⟨g, k, none⟩) hb).trans (h.2 k hk).1, (World.frozen?_of_block (a := ⟨g, k, none⟩) hb).trans (h.2 k hk).2⟩⟩
theorem Own.alloc {W : World} {g n : Nat} {f : Nat → Int} (h : Own W g n f) (o : Obj) : Own (W.alloc o) g n f := h.grown (World.grownBy_alloc W o none) (by simp)
theorem zeros16 (j : Nat) (hj : j < 16) : (#[.int .u8 0, .int .u8 0, .int .u8 0, .int .u8 0, .int .u8 0, .int .u8 0, .int .u8 0, .int .u8 0, .int .u8 0, .int .u8 0, .int .u8 0, .int .u8 0, .int .u8 0, .int .u8 0, .int .u8 0, .int .u8 0] : Array Value)[j]? = some (.int .u8 0) := by
  have h : j = 0 ∨ j = 1 ∨ j = 2 ∨ j = 3 ∨ j = 4 ∨ j = 5 ∨ j = 6 ∨ j = 7 ∨ j = 8 ∨ j = 9 ∨ j = 10 ∨ j = 11 ∨ j = 12 ∨ j = 13 ∨ j = 14 ∨ j = 15 := by omega
  rcases h with rfl | rfl | rfl | rfl | rfl | rfl | rfl | rfl | rfl | rfl | rfl | rfl | rfl | rfl | rfl | rfl <;> rfl
theorem own_of {W : World} {g n : Nat} {f : Nat → Int} {C : Array Value} {t : TypeId} (hh : W.heap[g]? = some (.cells C t (0, 0))) (hc : ∀ j, j < n → C[j]? = some (.int .u8 (f j))) : Own W g n f :=
  ⟨(Array.getElem?_eq_some_iff.1 hh).1, fun k hk => ⟨by simp [World.cell?, hh, hc k hk], by simp [World.frozen?, hh]⟩⟩
theorem heap_new (w : World) (o : Obj) : (w.alloc o).heap[w.heap.size]? = some o := by
  show (w.heap.push _)[w.heap.size]? = _
  simp
theorem own_zeros (w : World) (t : TypeId) : Own (w.alloc (.cells #[.int .u8 0, .int .u8 0, .int .u8 0, .int .u8 0, .int .u8 0, .int .u8 0, .int .u8 0, .int .u8 0, .int .u8 0, .int .u8 0, .int .u8 0, .int .u8 0, .int .u8 0, .int .u8 0, .int .u8 0, .int .u8 0] t (0, 0))) w.heap.size 16 (fun j => if j < 0 then (j : Int) else 0) :=
  own_of (heap_new w _) (fun j hj => by rw [if_neg (by omega)]; exact zeros16 j hj)

theorem row_form {w : World} {base n : Nat} {e : TypeId} {v : Value} {xs : List Value} (h : w.ownsRow base e 1 v n xs) (hn : 0 < n) : ∃ g cap, v = .slice (some ⟨g, 0, none⟩) n cap := by
  rcases h.2 with ⟨_, rfl⟩ | ⟨g, cap, cur, rfl, _⟩
  · omega
  · exact ⟨g, cap, rfl⟩
theorem firsts_at (j : Nat) (hj : j < 15) : (firsts 15)[j]? = some (.int .u8 (zz.getD j 0)) := by
  have h : j = 0 ∨ j = 1 ∨ j = 2 ∨ j = 3 ∨ j = 4 ∨ j = 5 ∨ j = 6 ∨ j = 7 ∨ j = 8 ∨ j = 9 ∨ j = 10 ∨ j = 11 ∨ j = 12 ∨ j = 13 ∨ j = 14 := by omega
  rcases h with rfl | rfl | rfl | rfl | rfl | rfl | rfl | rfl | rfl | rfl | rfl | rfl | rfl | rfl | rfl <;> rfl

theorem awake (w : World) : Calls Try.prog 9 #[] w fun e w' => e = .returned (.bool true) ∧ Below w.heap.size w w' := by
  obtain ⟨i0, hi, hz0, hz1, hz2⟩ := info_parts info5
  go_enter Try.func9, Try.ntmps9
  go_wp2_with fail
  go_loopw [2, 3, 4] (fun v _ i wr => ∃ k : Nat, k ≤ 16 ∧ i = .int .i64 k ∧ Own wr w.heap.size 16 (fun j => if j < k then (j : Int) else 0) ∧ wr.ownsRow (w.heap.size + 1) 5 1 v (min k 15) (firsts (min k 15)) ∧ Below w.heap.size w wr) (fun _ _ i _ => 16 - (intOf i).toNat)
  case atStart =>
    exact ⟨0, by omega, rfl, own_zeros w 23, World.ownsRow_nil _ _ _ _, (Below.refl _ _).alloc (Nat.le_refl _) _⟩
  case round =>
    obtain ⟨k, hk, rfl, hown, hrow, hbel⟩ := hrel
    rcases Nat.lt_or_ge k 15 with hlt | hge
    · obtain ⟨c1, f1⟩ := hown.2 k (by omega)
      rw [Nat.min_eq_left (by omega)] at hrow
      have HO := hidden hown
      have HB := hidden hbel
      have ho1 := ownsRow_setCell_below hrow (a := ⟨w.heap.size, k, none⟩) (by simp) (.int .u8 (k : Int))
      have hsz := hbel.size
      have hlt2 := hown.1
      have hm : (k : Int) % 256 = k := by omega
      clear hown hbel hrow
      go_wp2_with (at_builtin; go_loud (refine wpList_append_own _ rfl _ _ 24 rfl (w.heap.size + 1) 5 i0 (.int .u8 0) 1 1 Try.underlying24 hi hz0 hz1 hz2 rfl (by decide) _ _ _ rfl (ho1.alloc _) ⟨wr.heap.size, 0, none⟩ 1 1 [.int .u8 (k : Int)] rfl rfl (cell_one_at _ _ (size_set _ _ _).symm _ _) (by simp [Value.oneCell']) ?c3 ?c4 ?c5 ?_))
      case c3 => unfold maxLen; omega
      case c4 => omega
      intro v' w2 ho2 hg2 _
      have hs2 := hg2.size
      rw [size_alloc, size_set] at hs2
      have hb2 : Below w.heap.size w w2 := by
        refine ((HB.out.setCell (p := ⟨w.heap.size, k, none⟩) (Nat.le_refl _) (.int .u8 (k : Int))).alloc (by rw [size_set]; omega) _).grown hg2 (by rw [size_alloc, size_set]; omega) (fun j hj => ?_)
        have := (ho1.lt j hj).1
        omega
      have hO2 : Own w2 w.heap.size 16 (fun j => if j < k + 1 then (j : Int) else 0) := by
        have h1 := ((HO.out.set k (by omega) (k : Int)).cong (f' := fun j => if j < k + 1 then (j : Int) else 0) (fun j hj => by
          by_cases e : j = k
          · subst e; rw [if_pos rfl, if_pos (by omega)]
          · rw [if_neg e]
            by_cases e2 : j < k
            · rw [if_pos e2, if_pos (by omega)]
            · rw [if_neg e2, if_neg (by omega)]))
        refine Own.grown (Own.alloc h1 _) hg2 (fun e => ?_)
        have := (ho1.lt _ e).1
        omega
      rw [show firsts k ++ [Value.int .u8 (k : Int)] = firsts (k + 1) from (firsts_succ k).symm] at ho2
      clear ho1 HO HB hg2
      go_wp2
      go_roundw
      case rel => exact ⟨k + 1, by omega, by go_num, hO2, by rw [Nat.min_eq_left (by omega)]; exact ho2, hb2⟩
      case measure => simp [intOf]; omega
    · rcases Nat.lt_or_ge k 16 with hlt | hge2
      · obtain rfl : k = 15 := by omega
        obtain ⟨c1, f1⟩ := hown.2 15 (by omega)
        have HO := hidden hown
        have hO2 : Hid (Own (wr.setCell ⟨w.heap.size, 15, none⟩ (.int .u8 15)) w.heap.size 16 (fun j => if j < 15 + 1 then (j : Int) else 0)) := by
          refine (HO.out.set 15 (by omega) 15).cong (fun j hj => ?_)
          by_cases e : j = 15
          · subst e; rw [if_pos rfl, if_pos (by omega)]; rfl
          · rw [if_neg e, if_pos (by omega), if_pos (by omega)]
        have ho1 := ownsRow_setCell_below hrow (a := ⟨w.heap.size, 15, none⟩) (by simp) (.int .u8 15)
        have HR := hidden ho1
        have HB := hidden hbel
        clear hown hbel hrow HO ho1
        go_wp2
        go_roundw
        case rel => exact ⟨16, by omega, by go_num, hO2.out, HR.out, HB.out.setCell (p := ⟨w.heap.size, 15, none⟩) (Nat.le_refl _) _⟩
        case measure => simp [intOf]
      · obtain rfl : k = 16 := by omega
        have cc : ∀ j : Nat, j < 16 → wr.cell? ⟨w.heap.size, j, none⟩ = some (.int .u8 (j : Int)) := fun j hj => by rw [(hown.2 j hj).1]; simp only [if_pos hj]
        have d0 : wr.cell? ⟨w.heap.size, 0, none⟩ = some (.int .u8 0) := cc 0 (by decide)
        have d1 : wr.cell? ⟨w.heap.size, 1, none⟩ = some (.int .u8 1) := cc 1 (by decide)
        have d2 : wr.cell? ⟨w.heap.size, 2, none⟩ = some (.int .u8 2) := cc 2 (by decide)
        have d3 : wr.cell? ⟨w.heap.size, 3, none⟩ = some (.int .u8 3) := cc 3 (by decide)
        have d4 : wr.cell? ⟨w.heap.size, 4, none⟩ = some (.int .u8 4) := cc 4 (by decide)
        have d5 : wr.cell? ⟨w.heap.size, 5, none⟩ = some (.int .u8 5) := cc 5 (by decide)
        have d6 : wr.cell? ⟨w.heap.size, 6, none⟩ = some (.int .u8 6) := cc 6 (by decide)
        have d7 : wr.cell? ⟨w.heap.size, 7, none⟩ = some (.int .u8 7) := cc 7 (by decide)
        have d8 : wr.cell? ⟨w.heap.size, 8, none⟩ = some (.int .u8 8) := cc 8 (by decide)
        have d9 : wr.cell? ⟨w.heap.size, 9, none⟩ = some (.int .u8 9) := cc 9 (by decide)
        have d10 : wr.cell? ⟨w.heap.size, 10, none⟩ = some (.int .u8 10) := cc 10 (by decide)
        have d11 : wr.cell? ⟨w.heap.size, 11, none⟩ = some (.int .u8 11) := cc 11 (by decide)
        have d12 : wr.cell? ⟨w.heap.size, 12, none⟩ = some (.int .u8 12) := cc 12 (by decide)
        have d13 : wr.cell? ⟨w.heap.size, 13, none⟩ = some (.int .u8 13) := cc 13 (by decide)
        have d14 : wr.cell? ⟨w.heap.size, 14, none⟩ = some (.int .u8 14) := cc 14 (by decide)
        have d15 : wr.cell? ⟨w.heap.size, 15, none⟩ = some (.int .u8 15) := cc 15 (by decide)
        obtain ⟨g, cap, rfl⟩ := row_form hrow (by decide)
        have hrw : Row wr (some ⟨g, 0, none⟩) 15 zz := by
          refine ⟨rfl, bytes_zz, by decide, .inr ⟨_, _, rfl, fun j hj => ?_⟩⟩
          rw [Nat.zero_add, World.ownsRow.cellAt hrow j (by simpa using hj)]
          exact firsts_at j hj
        have B := hidden (bytes wr kz ⟨rfl, bytes_kz⟩ (some ⟨g, 0, none⟩) 15 cap zz hrw)
        rw [k_sip] at B
        have HB := hidden hbel
        clear cc hown hrow hrw hbel
        go_wp2_with fail
        refine Calls.mono B.out ?_
        rintro e w2 ⟨rfl, b2⟩
        go_wp2
        go_ret
        exact ⟨rfl, HB.out.trans (b2.mono HB.out.size)⟩
end Go.Proofs.Ytalfhcaggjgibaa.Mac
