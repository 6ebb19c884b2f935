/-
  A heap of timers: which of two items is ahead, an item laid at a place, two items that change places.
  Conditions: the heap lies in memory, the places are its own.
-/
import Derived.Test.YtinhhfnknlmdgaaTmC
namespace Go.Proofs.Ytinhhfnknlmdgaa.Tm
open Go.ChangeShapes Go.WideShapes Go.ChangeAt Go.RowKit Go.Sort
open Ba (hidden Only In Has own_ne own_stay own_len own_some own_mono cell_lt heap_lt)
set_option linter.unusedVariables false

theorem below_grow {w : World} {q : Nat} {os : Array Obj} : Below w.heap.size w (grow (w.drewN q) os) := by
  refine ⟨rfl, rfl, rfl, by simp [grow, World.drewN], fun k hk => ?_⟩
  show ((w.drewN q).heap ++ os)[k]? = _
  rw [Array.getElem?_append_left (by simpa [World.drewN] using hk)]
  rfl
theorem ord_lt {a b : D} (ha : Ok a) (hb : Ok b) : decide (ordD a b < 0) = decide (key a < key b) := by
  obtain ⟨⟨_, _⟩, _⟩ := ha
  obtain ⟨⟨_, _⟩, _⟩ := hb
  rw [Bool.eq_iff_iff]
  simp only [decide_eq_true_eq]
  unfold ordD pick2 cmpI key
  by_cases h1 : a.2 < b.2
  · simp only [h1, if_true]
    constructor <;> intro _ <;> (try split) <;> omega
  · by_cases h2 : b.2 < a.2
    · simp only [h1, h2, if_true, if_false]
      constructor
      · intro h; split at h <;> omega
      · intro h; omega
    · simp only [h1, h2, if_false, if_true]
      by_cases h3 : a.1 < b.1
      · simp only [h3, if_true]; constructor <;> intro _ <;> omega
      · by_cases h4 : b.1 < a.1
        · simp only [h3, h4, if_true, if_false]; constructor <;> intro _ <;> omega
        · simp only [h3, h4, if_false]; constructor <;> intro _ <;> omega
set_option maxHeartbeats 400000 in
theorem ahead {w : World} {b m n : Nat} {v : Value} {X : List D} {f : Int → Option Int} (h : Hp w b v m X f n) (i j : Nat) (hi : i < X.length) (hj : j < X.length) : Calls Try.prog 51 #[.pointer (some ⟨b, 0, none⟩), .int .i64 (i : Int), .int .i64 (j : Int)] w fun e w' => e = .returned (.bool (decide (ordD (at_ X i) (at_ X j) < 0))) ∧ Below w.heap.size w w' := by
  have hb := h.1.lt
  obtain ⟨g, cap, rfl, hg, _, hcap⟩ := h.2.1.get hi
  have c0 := h.1.cell 0 rfl
  have c3 := h.1.cell 3 rfl
  obtain ⟨a1, a2, _⟩ := h.2.1.cell hi
  obtain ⟨a3, a4, _⟩ := h.2.1.cell hj
  have C := hidden ordF
  unfold dv at C
  have EC : Hid (∀ (args : Array Value) (w : World), (callFunc 22 args).run Try.prog w = .ok (.enter 22 args) w) := enters_of Try.func22 (by kernel_rfl) rfl
  generalize at_ X i = di at a1 a2 ⊢
  generalize at_ X j = dj at a3 a4 ⊢
  have HC : Hid (∀ w', Below w.heap.size w w' → w'.cell? ⟨b, 0, none⟩ = some (.slice (some ⟨g, 0, none⟩) X.length cap) ∧ w'.cell? ⟨b, 3, none⟩ = some ford ∧ w'.cell? ⟨g, i * 2, none⟩ = some (.int .i64 di.1) ∧ w'.cell? ⟨g, i * 2 + 1, none⟩ = some (.int .i64 di.2) ∧ w'.cell? ⟨g, j * 2, none⟩ = some (.int .i64 dj.1) ∧ w'.cell? ⟨g, j * 2 + 1, none⟩ = some (.int .i64 dj.2)) :=
    fun w' hB => ⟨(hB.cell (p := ⟨b, 0, none⟩) hb).trans c0, (hB.cell (p := ⟨b, 3, none⟩) hb).trans c3, (hB.cell (p := ⟨g, i * 2, none⟩) hg).trans a1, (hB.cell (p := ⟨g, i * 2 + 1, none⟩) hg).trans a2, (hB.cell (p := ⟨g, j * 2, none⟩) hg).trans a3, (hB.cell (p := ⟨g, j * 2 + 1, none⟩) hg).trans a4⟩
  have HX : Hid (∀ k, k < X.length → ∀ {w : World}, (Instr.indexAt 26 (.slice (some ⟨g, 0, none⟩) X.length cap) (.int .i64 (k : Int))).run Try.prog w = .ok (.pointer (some ⟨g, k * 2, none⟩)) w) := fun k hk w => by
    have i1 : (k : Int) < (X.length : Int) := by omega
    go_simp
  have hi' := hi
  have hj' := hj
  clear h c0 c3 a1 a2 a3 a4 hi hj
  go_enter Try.func51, Try.ntmps51
  go_upto_region 1 with fail
  refine Ord.wp_region_ex0 (X := Unit) (by kernel_rfl) 27 (fun x => [(some 7, .pointer (some ⟨b, 0, none⟩)), (some 8, .pointer (some ⟨b, 0, none⟩)), (some 9, .pointer (some ⟨b, 3, none⟩)), (some 10, ford), (some 11, .pointer (some ⟨b, 0, none⟩)), (some 12, .pointer (some ⟨b, 0, none⟩)), (some 13, .pointer (some ⟨b, 0, none⟩)), (some 14, .slice (some ⟨g, 0, none⟩) X.length cap), (some 15, .int .i64 (i : Int)), (some 16, .pointer (some ⟨g, i * 2, none⟩)), (some 17, .agg #[.int .i64 di.1, .int .i64 di.2]), (some 18, .pointer (some ⟨b, 0, none⟩)), (some 19, .pointer (some ⟨b, 0, none⟩)), (some 20, .pointer (some ⟨b, 0, none⟩)), (some 21, .slice (some ⟨g, 0, none⟩) X.length cap), (some 22, .int .i64 (j : Int)), (some 23, .pointer (some ⟨g, j * 2, none⟩)), (some 24, .agg #[.int .i64 dj.1, .int .i64 dj.2]), (some 25, .int .i64 (ordD di dj)), (some 26, .bool (decide (ordD di dj < 0))), (some 6, .bool (decide (ordD di dj < 0)))]) [some 7, some 8, some 9, some 10, some 11, some 12, some 13, some 14, some 15, some 16, some 17, some 18, some 19, some 20, some 21, some 22, some 23, some 24, some 25, some 26, some 6] rfl (fun listed hsz hr => Ord.all_listedC (rank := [0, 1, 2, 3, 4, 5, 6, 7, 8, 9, 10, 11, 12, 13, 14, 15, 16, 17, 18, 19, 20]) (by kernel_rfl) hsz hr) (by rfl) (fun _ => rfl) (by kernel_rfl) (Rg.StM [18] (fun _ _ w' => Below w.heap.size w w')) (fun _ _ _ _ hL h => h.ext (n := 21) (by decide) hL) ?_ ?_ () ?_
  case refine_1 =>
    intro x Lq iq oq ac w' ho hi hcl hdep hF hW
    have f1 : ac.tmps.size = 27 := hF.1
    match iq, ho, hi, hdep with
    | 0, ho, hi, hdep =>
      cases ho
      have da0 : ac.eval (.tmp 0) = .pointer (some ⟨b, 0, none⟩) := hF.old 0 rfl
      exact Ord.ex_value x rfl rfl (Rg.mv da0 rfl) rfl (hW.keep (by decide))
    | 1, ho, hi, hdep =>
      cases ho
      have da0 : ac.eval (.tmp 7) = .pointer (some ⟨b, 0, none⟩) := hF.2.2.2 0 7 _ rfl (hdep ⟨0, .data⟩ (by simp) rfl)
      exact Ord.ex_value x rfl rfl (Rg.nilc da0 rfl) rfl (hW.keep (by decide))
    | 2, ho, hi, hdep =>
      cases ho
      have da0 : ac.eval (.tmp 8) = .pointer (some ⟨b, 0, none⟩) := hF.2.2.2 1 8 _ rfl (hdep ⟨1, .data⟩ (by simp) rfl)
      exact Ord.ex_value x rfl rfl (Rg.fa da0 rfl (by simp [go_sem])) rfl (hW.keep (by decide))
    | 3, ho, hi, hdep =>
      cases ho
      have da0 : ac.eval (.tmp 9) = .pointer (some ⟨b, 3, none⟩) := hF.2.2.2 2 9 _ rfl (hdep ⟨2, .data⟩ (by simp) rfl)
      obtain ⟨kq, hlo, hhi, hA⟩ := hW.range 0 0 (.inl rfl) (.inr ⟨18, rfl, (Rg.no_of (fun h => hcl 18 _ rfl (h) ⟨3, .data⟩ (by simp) rfl) hi)⟩)
      exact Ord.ex_value x rfl rfl (Rg.load da0 rfl (by simp [go_sem, (HC.out _ hA).2.1])) rfl (hW.keep (by decide))
    | 4, ho, hi, hdep =>
      cases ho
      have da0 : ac.eval (.tmp 0) = .pointer (some ⟨b, 0, none⟩) := hF.old 0 rfl
      exact Ord.ex_value x rfl rfl (Rg.mv da0 rfl) rfl (hW.keep (by decide))
    | 5, ho, hi, hdep =>
      cases ho
      have da0 : ac.eval (.tmp 11) = .pointer (some ⟨b, 0, none⟩) := hF.2.2.2 4 11 _ rfl (hdep ⟨4, .data⟩ (by simp) rfl)
      exact Ord.ex_value x rfl rfl (Rg.nilc da0 rfl) rfl (hW.keep (by decide))
    | 6, ho, hi, hdep =>
      cases ho
      have da0 : ac.eval (.tmp 12) = .pointer (some ⟨b, 0, none⟩) := hF.2.2.2 5 12 _ rfl (hdep ⟨5, .data⟩ (by simp) rfl)
      exact Ord.ex_value x rfl rfl (Rg.fa da0 rfl (by simp [go_sem])) rfl (hW.keep (by decide))
    | 7, ho, hi, hdep =>
      cases ho
      have da0 : ac.eval (.tmp 13) = .pointer (some ⟨b, 0, none⟩) := hF.2.2.2 6 13 _ rfl (hdep ⟨6, .data⟩ (by simp) rfl)
      obtain ⟨kq, hlo, hhi, hA⟩ := hW.range 0 0 (.inl rfl) (.inr ⟨18, rfl, (Rg.no_of (fun h => hcl 9 _ rfl (hcl 10 _ rfl (hcl 18 _ rfl (h) ⟨10, .data⟩ (by simp) rfl) ⟨9, .data⟩ (by simp) rfl) ⟨7, .data⟩ (by simp) rfl) hi)⟩)
      exact Ord.ex_value x rfl rfl (Rg.load da0 rfl (by simp [go_sem, (HC.out _ hA).1])) rfl (hW.keep (by decide))
    | 8, ho, hi, hdep =>
      cases ho
      have da0 : ac.eval (.tmp 1) = .int .i64 (i : Int) := hF.old 1 rfl
      exact Ord.ex_value x rfl rfl (Rg.mv da0 rfl) rfl (hW.keep (by decide))
    | 9, ho, hi, hdep =>
      cases ho
      have da0 : ac.eval (.tmp 14) = .slice (some ⟨g, 0, none⟩) X.length cap := hF.2.2.2 7 14 _ rfl (hdep ⟨7, .data⟩ (by simp) rfl)
      have da1 : ac.eval (.tmp 15) = .int .i64 (i : Int) := hF.2.2.2 8 15 _ rfl (hdep ⟨8, .data⟩ (by simp) rfl)
      exact Ord.ex_value x rfl rfl (Rg.ix da0 da1 rfl (HX.out i hi')) rfl (hW.keep (by decide))
    | 10, ho, hi, hdep =>
      cases ho
      have da0 : ac.eval (.tmp 16) = .pointer (some ⟨g, i * 2, none⟩) := hF.2.2.2 9 16 _ rfl (hdep ⟨9, .data⟩ (by simp) rfl)
      obtain ⟨kq, hlo, hhi, hA⟩ := hW.range 0 0 (.inl rfl) (.inr ⟨18, rfl, (Rg.no_of (fun h => hcl 18 _ rfl (h) ⟨10, .data⟩ (by simp) rfl) hi)⟩)
      exact Ord.ex_value x rfl rfl (Rg.load da0 rfl (by simp [go_sem, (HC.out _ hA).2.2.1, (HC.out _ hA).2.2.2.1])) rfl (hW.keep (by decide))
    | 11, ho, hi, hdep =>
      cases ho
      have da0 : ac.eval (.tmp 0) = .pointer (some ⟨b, 0, none⟩) := hF.old 0 rfl
      exact Ord.ex_value x rfl rfl (Rg.mv da0 rfl) rfl (hW.keep (by decide))
    | 12, ho, hi, hdep =>
      cases ho
      have da0 : ac.eval (.tmp 18) = .pointer (some ⟨b, 0, none⟩) := hF.2.2.2 11 18 _ rfl (hdep ⟨11, .data⟩ (by simp) rfl)
      exact Ord.ex_value x rfl rfl (Rg.nilc da0 rfl) rfl (hW.keep (by decide))
    | 13, ho, hi, hdep =>
      cases ho
      have da0 : ac.eval (.tmp 19) = .pointer (some ⟨b, 0, none⟩) := hF.2.2.2 12 19 _ rfl (hdep ⟨12, .data⟩ (by simp) rfl)
      exact Ord.ex_value x rfl rfl (Rg.fa da0 rfl (by simp [go_sem])) rfl (hW.keep (by decide))
    | 14, ho, hi, hdep =>
      cases ho
      have da0 : ac.eval (.tmp 20) = .pointer (some ⟨b, 0, none⟩) := hF.2.2.2 13 20 _ rfl (hdep ⟨13, .data⟩ (by simp) rfl)
      obtain ⟨kq, hlo, hhi, hA⟩ := hW.range 0 0 (.inl rfl) (.inr ⟨18, rfl, (Rg.no_of (fun h => hcl 16 _ rfl (hcl 17 _ rfl (hcl 18 _ rfl (h) ⟨17, .data⟩ (by simp) rfl) ⟨16, .data⟩ (by simp) rfl) ⟨14, .data⟩ (by simp) rfl) hi)⟩)
      exact Ord.ex_value x rfl rfl (Rg.load da0 rfl (by simp [go_sem, (HC.out _ hA).1])) rfl (hW.keep (by decide))
    | 15, ho, hi, hdep =>
      cases ho
      have da0 : ac.eval (.tmp 2) = .int .i64 (j : Int) := hF.old 2 rfl
      exact Ord.ex_value x rfl rfl (Rg.mv da0 rfl) rfl (hW.keep (by decide))
    | 16, ho, hi, hdep =>
      cases ho
      have da0 : ac.eval (.tmp 21) = .slice (some ⟨g, 0, none⟩) X.length cap := hF.2.2.2 14 21 _ rfl (hdep ⟨14, .data⟩ (by simp) rfl)
      have da1 : ac.eval (.tmp 22) = .int .i64 (j : Int) := hF.2.2.2 15 22 _ rfl (hdep ⟨15, .data⟩ (by simp) rfl)
      exact Ord.ex_value x rfl rfl (Rg.ix da0 da1 rfl (HX.out j hj')) rfl (hW.keep (by decide))
    | 17, ho, hi, hdep =>
      cases ho
      have da0 : ac.eval (.tmp 23) = .pointer (some ⟨g, j * 2, none⟩) := hF.2.2.2 16 23 _ rfl (hdep ⟨16, .data⟩ (by simp) rfl)
      obtain ⟨kq, hlo, hhi, hA⟩ := hW.range 0 0 (.inl rfl) (.inr ⟨18, rfl, (Rg.no_of (fun h => hcl 18 _ rfl (h) ⟨17, .data⟩ (by simp) rfl) hi)⟩)
      exact Ord.ex_value x rfl rfl (Rg.load da0 rfl (by simp [go_sem, (HC.out _ hA).2.2.2.2.1, (HC.out _ hA).2.2.2.2.2])) rfl (hW.keep (by decide))
    | 18, ho, hi, hdep =>
      cases ho
      have da0 : ac.eval (.tmp 10) = ford := hF.2.2.2 3 10 _ rfl (hdep ⟨3, .data⟩ (by simp) rfl)
      have da1 : ac.eval (.tmp 17) = .agg #[.int .i64 di.1, .int .i64 di.2] := hF.2.2.2 10 17 _ rfl (hdep ⟨10, .data⟩ (by simp) rfl)
      have da2 : ac.eval (.tmp 24) = .agg #[.int .i64 dj.1, .int .i64 dj.2] := hF.2.2.2 17 24 _ rfl (hdep ⟨17, .data⟩ (by simp) rfl)
      have hA := hW.at (k := 0) rfl hi (.inl rfl)
      exact Rg.ex_call x rfl rfl (Rg.enter (args := #[.agg #[.int .i64 di.1, .int .i64 di.2], .agg #[.int .i64 dj.1, .int .i64 dj.2]]) rfl da0 (by simp [da1, da2]) EC.out) (Calls.mono (C.out di dj _) (by rintro e w2 ⟨rfl, q, os, rfl⟩; exact ⟨rfl, hW.next (k := 0) rfl (by decide) hi (.inl rfl) (hA.trans (below_grow.mono hA.size))⟩))
    | 19, ho, hi, hdep =>
      cases ho
      have da0 : ac.eval (.tmp 25) = .int .i64 (ordD di dj) := hF.2.2.2 18 25 _ rfl (hdep ⟨18, .data⟩ (by simp) rfl)
      exact Ord.ex_value x rfl rfl (Rg.bin da0 rfl rfl (by simp [go_sem])) rfl (hW.keep (by decide))
    | 20, ho, hi, hdep =>
      cases ho
      have da0 : ac.eval (.tmp 26) = .bool (decide (ordD di dj < 0)) := hF.2.2.2 19 26 _ rfl (hdep ⟨19, .data⟩ (by simp) rfl)
      exact Ord.ex_value x rfl rfl (Rg.asg da0 rfl) rfl (hW.keep (by decide))
  case refine_2 =>
    intro x w' hW
    have hw := hW.last
    simp only [Ord.puts, Ord.prs]
    go_simp
    go_wp2
    go_ret
    exact ⟨rfl, hw⟩
  case refine_3 => exact Rg.StM.first (Below.refl _ w).drew
/-- how many numbers there are then -/
def more (f : Int → Option Int) (k : Int) (n : Nat) : Nat := if (f k).isSome then n else n + 1
/-- worlds while an item is laid -/
structure LayA (w : World) (b : Nat) (v : Value) (m : Nat) (X : List D) (f : Int → Option Int) (n i : Nat) (d : D) (k : Nat) (w' : World) : Prop where
  box : Has w' w.heap.size #[.int .i64 d.1, .int .i64 d.2] 43
  only : Only (hfoot v b m) w w'
  lt : ∀ k ∈ hfoot v b m, k < w.heap.size
  h0 : k = 0 → Hp w' b v m X f n
  h1 : 1 ≤ k → Hp w' b v m (X.set i d) f n
structure LayB (w : World) (b : Nat) (v : Value) (m : Nat) (X : List D) (f : Int → Option Int) (n i : Nat) (d : D) (k : Nat) (w' : World) : Prop where
  box : Has w' w.heap.size #[.int .i64 d.1, .int .i64 d.2] 43
  only : Only (hfoot v b m) w w'
  lt : ∀ k ∈ hfoot v b m, k < w.heap.size
  h0 : k ≤ 1 → Hp w' b v m (X.set i d) f n
  h1 : 2 ≤ k → Hp w' b v m (X.set i d) (upd f d.1 i) (more f d.1 n)
theorem st_due {w : World} {g cap l : Nat} {X : List D} (h : Own w (.slice (some ⟨g, 0, none⟩) l cap) X) {i : Nat} (hi : i < X.length) (d : D) : (Instr.storeAt 43 (.pointer (some ⟨g, i * 2, none⟩)) (.agg #[.int .i64 d.1, .int .i64 d.2])).run Try.prog w = .ok () ((w.setCell ⟨g, i * 2, none⟩ (.int .i64 d.1)).setCell ⟨g, i * 2 + 1, none⟩ (.int .i64 d.2)) := by
  obtain ⟨c1, c2, c3⟩ := h.cell hi
  have f1 := c3 (i * 2)
  have f2 := c3 (i * 2 + 1)
  simp [go_sem, c1, c2, f1, f2]
theorem LayA.one {w w' : World} {b m n i g cap : Nat} {X : List D} {f : Int → Option Int} {d : D} (h : LayA w b (.slice (some ⟨g, 0, none⟩) X.length cap) m X f n i d 0 w') (hi : i < X.length) : LayA w b (.slice (some ⟨g, 0, none⟩) X.length cap) m X f n i d (0 + 1) ((w'.setCell ⟨g, i * 2, none⟩ (.int .i64 d.1)).setCell ⟨g, i * 2 + 1, none⟩ (.int .i64 d.2)) := by
  obtain ⟨h1, h2, h4, h3, _⟩ := h
  have hH := h3 rfl
  have hgf : g ∈ hfoot (.slice (some ⟨g, 0, none⟩) X.length cap) b m := by simp [hfoot, Value.ownBlock]
  have ho : Only [g] w' ((w'.setCell ⟨g, i * 2, none⟩ (.int .i64 d.1)).setCell ⟨g, i * 2 + 1, none⟩ (.int .i64 d.2)) := (Only.setCell w' (p := ⟨g, i * 2, none⟩) (by simp) _).then (Only.setCell _ (p := ⟨g, i * 2 + 1, none⟩) (by simp) _)
  have hgw := h4 g hgf
  refine ⟨h1.stay ho (by simp; omega), h2.then (ho.mono (by simp; exact hgf)), h4, fun h => absurd h (by decide), fun _ => ⟨hH.1.stay ho ?_, hH.2.1.set hi d, hH.2.2.stay ho ?_⟩⟩
  · simp; exact own_ne hH.2.1 hH.1 (by decide) g rfl
  · simp; exact hH.2.2.ne_own hH.2.1 g rfl
theorem LayA.then {w w' : World} {b m n i : Nat} {v : Value} {X : List D} {f : Int → Option Int} {d : D} (h : LayA w b v m X f n i d 1 w') : LayB w b v m X f n i d 0 w'.drew :=
  ⟨h.box, h.only.drew, h.lt, fun _ => h.h1 (Nat.le_refl _), fun h => absurd h (by decide)⟩
theorem LayB.has {w w' : World} {b m n i k : Nat} {v : Value} {X : List D} {f : Int → Option Int} {d : D} (h : LayB w b v m X f n i d k w') : Has w' b #[v, .map (some m), fkey, ford] 66 := by
  rcases Nat.lt_or_ge k 2 with hk | hk
  · exact (h.h0 (by omega)).1
  · exact (h.h1 hk).1
theorem LayB.later {w w' w2 : World} {b m n i : Nat} {v : Value} {X : List D} {f : Int → Option Int} {d : D} (h : LayB w b v m X f n i d 0 w') (hb : Below w'.heap.size w' w2) : LayB w b v m X f n i d (0 + 1) w2 :=
  ⟨h.box.later hb, h.only.then (Only.of_below hb), h.lt, fun _ => (h.h0 (by decide)).later hb, fun h => absurd h (by decide)⟩
theorem turned_only {w w' : World} {m : Nat} (h : w.mapTurned w' m) : Only [m] w w' := Only.grown h.grown (by simp)
theorem LayB.two {w w' : World} {b m n i : Nat} {v : Value} {X : List D} {f : Int → Option Int} {d : D} (h : LayB w b v m X f n i d 1 w') (hd : I64 d.1) (hi : I64 i) (hn : n < 1000000) : ∃ w2, (Instr.mapUpdate 64 (.map (some m)) (.int .i64 d.1) (.int .i64 i)).run Try.prog w' = .ok () w2 ∧ LayB w b v m X f n i d (1 + 1) w2 := by
  have hH := h.h0 (Nat.le_refl _)
  obtain ⟨w2, hr, hM, ht⟩ := mp_store hH.2.2 hd hi hn
  have ho := turned_only ht
  have hm : m ∈ hfoot v b m := by simp [hfoot]
  have hml := h.lt m hm
  refine ⟨w2, hr, h.box.stay ho (by simp; omega), h.only.then (ho.mono (by simp; exact hm)), h.lt, fun h => absurd h (by decide), fun _ => ⟨hH.1.stay ho ?_, own_stay hH.2.1 ho ?_, hM⟩⟩
  · simp; exact fun e => hH.2.2.ne hH.1 e.symm
  · intro k hk; simp; exact fun e => hH.2.2.ne_own hH.2.1 k hk e.symm
set_option maxHeartbeats 1000000 in
theorem lay {w : World} {b m n : Nat} {v : Value} {X : List D} {f : Int → Option Int} (h : Hp w b v m X f n) (i : Nat) (hi : i < X.length) (d : D) (hd64 : I64 d.1) (hn : n < 1000000) (hl : X.length ≤ 1000000) : Calls Try.prog 40 #[.pointer (some ⟨b, 0, none⟩), .int .i64 (i : Int), dv d] w fun e w' => e = .returned (.tuple #[]) ∧ Hp w' b v m (X.set i d) (upd f d.1 i) (more f d.1 n) ∧ Only (hfoot v b m) w w' := by
  obtain ⟨g, cap, rfl, hg, _, hcap⟩ := h.2.1.get hi
  have C := hidden keyF
  unfold dv at C ⊢
  have EC : Hid (∀ (args : Array Value) (w : World), (callFunc 20 args).run Try.prog w = .ok (.enter 20 args) w) := enters_of Try.func20 (by kernel_rfl) rfl
  have HX : Hid (∀ k, k < X.length → ∀ {w : World}, (Instr.indexAt 26 (.slice (some ⟨g, 0, none⟩) X.length cap) (.int .i64 (k : Int))).run Try.prog w = .ok (.pointer (some ⟨g, k * 2, none⟩)) w) := fun k hk w => by
    have i1 : (k : Int) < (X.length : Int) := by omega
    go_simp
  have HI := hidden hi
  have HN := hidden hn
  have HI64 := hidden (show I64 (i : Int) by unfold I64; omega)
  have H := hidden h
  clear h hi hn hg hcap
  go_enter Try.func40, Try.ntmps40
  go_upto_region 1 with fail
  refine Ord.wp_region_ex0 (X := Unit) (by kernel_rfl) 24 (fun x => [(some 6, .pointer (some ⟨b, 0, none⟩)), (some 7, .pointer (some ⟨b, 0, none⟩)), (some 8, .pointer (some ⟨b, 0, none⟩)), (some 9, .slice (some ⟨g, 0, none⟩) X.length cap), (some 10, .int .i64 (i : Int)), (some 11, .agg #[.int .i64 d.1, .int .i64 d.2]), (some 12, .pointer (some ⟨g, i * 2, none⟩)), (none, undef)]) [some 6, some 7, some 8, some 9, some 10, some 11, some 12, none] rfl (fun listed hsz hr => Ord.all_listedC (rank := [0, 1, 2, 3, 4, 5, 6, 7]) (by kernel_rfl) hsz hr) (by rfl) (fun _ => rfl) (by kernel_rfl) (Rg.StM [7] (fun k _ w' => LayA w b (.slice (some ⟨g, 0, none⟩) X.length cap) m X f n i d k w')) (fun _ _ _ _ hL h => h.ext (n := 8) (by decide) hL) ?_ ?_ () ?_
  case refine_1 =>
    intro x Lq iq oq ac w' ho hi hcl hdep hF hW
    have f1 : ac.tmps.size = 24 := hF.1
    match iq, ho, hi, hdep with
    | 0, ho, hi, hdep =>
      cases ho
      have da0 : ac.eval (.tmp 0) = .pointer (some ⟨b, 0, none⟩) := hF.old 0 rfl
      exact Ord.ex_value x rfl rfl (Rg.mv da0 rfl) rfl (hW.keep (by decide))
    | 1, ho, hi, hdep =>
      cases ho
      have da0 : ac.eval (.tmp 6) = .pointer (some ⟨b, 0, none⟩) := hF.2.2.2 0 6 _ rfl (hdep ⟨0, .data⟩ (by simp) rfl)
      exact Ord.ex_value x rfl rfl (Rg.nilc da0 rfl) rfl (hW.keep (by decide))
    | 2, ho, hi, hdep =>
      cases ho
      have da0 : ac.eval (.tmp 7) = .pointer (some ⟨b, 0, none⟩) := hF.2.2.2 1 7 _ rfl (hdep ⟨1, .data⟩ (by simp) rfl)
      exact Ord.ex_value x rfl rfl (Rg.fa da0 rfl (by simp [go_sem])) rfl (hW.keep (by decide))
    | 3, ho, hi, hdep =>
      cases ho
      have da0 : ac.eval (.tmp 8) = .pointer (some ⟨b, 0, none⟩) := hF.2.2.2 2 8 _ rfl (hdep ⟨2, .data⟩ (by simp) rfl)
      obtain ⟨kq, hlo, hhi, hA⟩ := hW.range 0 0 (.inl rfl) (.inr ⟨7, rfl, (Rg.no_of (fun h => hcl 7 _ rfl (h) ⟨3, .phase⟩ (by simp) rfl) hi)⟩)
      exact Ord.ex_value x rfl rfl (Rg.load da0 rfl (by simp [go_sem, (hA.h0 (by omega)).1.cell 0 rfl])) rfl (hW.keep (by decide))
    | 4, ho, hi, hdep =>
      cases ho
      have da0 : ac.eval (.tmp 1) = .int .i64 (i : Int) := hF.old 1 rfl
      exact Ord.ex_value x rfl rfl (Rg.mv da0 rfl) rfl (hW.keep (by decide))
    | 5, ho, hi, hdep =>
      cases ho
      have da0 : ac.eval (.tmp 5) = .pointer (some ⟨w.heap.size, 0, none⟩) := hF.old 5 rfl
      obtain ⟨kq, hlo, hhi, hA⟩ := hW.range 0 0 (.inl rfl) (.inr ⟨7, rfl, (Rg.no_of (fun h => hcl 7 _ rfl (h) ⟨5, .data⟩ (by simp) rfl) hi)⟩)
      exact Ord.ex_value x rfl rfl (Rg.load da0 rfl (by simp [go_sem, hA.box.cell 0 rfl, hA.box.cell 1 rfl])) rfl (hW.keep (by decide))
    | 6, ho, hi, hdep =>
      cases ho
      have da0 : ac.eval (.tmp 9) = .slice (some ⟨g, 0, none⟩) X.length cap := hF.2.2.2 3 9 _ rfl (hdep ⟨3, .data⟩ (by simp) rfl)
      have da1 : ac.eval (.tmp 10) = .int .i64 (i : Int) := hF.2.2.2 4 10 _ rfl (hdep ⟨4, .data⟩ (by simp) rfl)
      exact Ord.ex_value x rfl rfl (Rg.ix da0 da1 rfl (HX.out i HI.out)) rfl (hW.keep (by decide))
    | 7, ho, hi, hdep =>
      cases ho
      have da0 : ac.eval (.tmp 12) = .pointer (some ⟨g, i * 2, none⟩) := hF.2.2.2 6 12 _ rfl (hdep ⟨6, .data⟩ (by simp) rfl)
      have da1 : ac.eval (.tmp 11) = .agg #[.int .i64 d.1, .int .i64 d.2] := hF.2.2.2 5 11 _ rfl (hdep ⟨5, .data⟩ (by simp) rfl)
      have hA := hW.at (k := 0) rfl hi (.inl rfl)
      have hH := hA.h0 rfl
      exact Rg.ex_skip x rfl rfl (Rg.sto da0 da1 rfl (st_due hH.2.1 HI.out d)) rfl (hW.next (k := 0) rfl (by decide) hi (.inl rfl) (hA.one HI.out))
  case refine_3 => exact Rg.StM.first ⟨Has.new w _ _, (Only.alloc _ w _).drew, H.out.lt, fun _ => (H.out.later ((Below.refl _ w).alloc (Nat.le_refl _) _).drew), fun h => absurd h (by decide)⟩
  case refine_2 =>
    intro x w1 hW
    have hw := hidden hW.last
    clear hW
    simp only [Ord.puts, Ord.prs]
    go_simp
    go_upto_region 2 with fail
    refine Ord.wp_region_ex0 (X := Unit) (by kernel_rfl) 24 (fun x => [(some 13, .pointer (some ⟨b, 0, none⟩)), (some 14, .pointer (some ⟨b, 0, none⟩)), (some 15, .pointer (some ⟨b, 1, none⟩)), (some 16, .map (some m)), (some 17, .pointer (some ⟨b, 0, none⟩)), (some 18, .pointer (some ⟨b, 0, none⟩)), (some 19, .pointer (some ⟨b, 2, none⟩)), (some 20, fkey), (some 21, .agg #[.int .i64 d.1, .int .i64 d.2]), (some 22, .int .i64 d.1), (some 23, .int .i64 (i : Int)), (none, undef)]) [some 13, some 14, some 15, some 16, some 17, some 18, some 19, some 20, some 21, some 22, some 23, none] rfl (fun listed hsz hr => Ord.all_listedC (rank := [0, 1, 2, 3, 4, 5, 6, 7, 8, 9, 10, 11]) (by kernel_rfl) hsz hr) (by rfl) (fun _ => rfl) (by kernel_rfl) (Rg.StM [9, 11] (fun k _ w' => LayB w b (.slice (some ⟨g, 0, none⟩) X.length cap) m X f n i d k w')) (fun _ _ _ _ hL h => h.ext (n := 12) (by decide) hL) ?_ ?_ () ?_
    case refine_1 =>
      intro x Lq iq oq ac w' ho hi hcl hdep hF hW
      have f1 : ac.tmps.size = 24 := hF.1
      match iq, ho, hi, hdep with
      | 0, ho, hi, hdep =>
        cases ho
        have da0 : ac.eval (.tmp 0) = .pointer (some ⟨b, 0, none⟩) := hF.old 0 rfl
        exact Ord.ex_value x rfl rfl (Rg.mv da0 rfl) rfl (hW.keep (by decide))
      | 1, ho, hi, hdep =>
        cases ho
        have da0 : ac.eval (.tmp 13) = .pointer (some ⟨b, 0, none⟩) := hF.2.2.2 0 13 _ rfl (hdep ⟨0, .data⟩ (by simp) rfl)
        exact Ord.ex_value x rfl rfl (Rg.nilc da0 rfl) rfl (hW.keep (by decide))
      | 2, ho, hi, hdep =>
        cases ho
        have da0 : ac.eval (.tmp 14) = .pointer (some ⟨b, 0, none⟩) := hF.2.2.2 1 14 _ rfl (hdep ⟨1, .data⟩ (by simp) rfl)
        exact Ord.ex_value x rfl rfl (Rg.fa da0 rfl (by simp [go_sem])) rfl (hW.keep (by decide))
      | 3, ho, hi, hdep =>
        cases ho
        have da0 : ac.eval (.tmp 15) = .pointer (some ⟨b, 1, none⟩) := hF.2.2.2 2 15 _ rfl (hdep ⟨2, .data⟩ (by simp) rfl)
        obtain ⟨kq, hlo, hhi, hA⟩ := hW.range 0 1 (.inl rfl) (.inr ⟨11, rfl, (Rg.no_of (fun h => hcl 11 _ rfl (h) ⟨3, .data⟩ (by simp) rfl) hi)⟩)
        exact Ord.ex_value x rfl rfl (Rg.load da0 rfl (by simp [go_sem, hA.has.cell 1 rfl])) rfl (hW.keep (by decide))
      | 4, ho, hi, hdep =>
        cases ho
        have da0 : ac.eval (.tmp 0) = .pointer (some ⟨b, 0, none⟩) := hF.old 0 rfl
        exact Ord.ex_value x rfl rfl (Rg.mv da0 rfl) rfl (hW.keep (by decide))
      | 5, ho, hi, hdep =>
        cases ho
        have da0 : ac.eval (.tmp 17) = .pointer (some ⟨b, 0, none⟩) := hF.2.2.2 4 17 _ rfl (hdep ⟨4, .data⟩ (by simp) rfl)
        exact Ord.ex_value x rfl rfl (Rg.nilc da0 rfl) rfl (hW.keep (by decide))
      | 6, ho, hi, hdep =>
        cases ho
        have da0 : ac.eval (.tmp 18) = .pointer (some ⟨b, 0, none⟩) := hF.2.2.2 5 18 _ rfl (hdep ⟨5, .data⟩ (by simp) rfl)
        exact Ord.ex_value x rfl rfl (Rg.fa da0 rfl (by simp [go_sem])) rfl (hW.keep (by decide))
      | 7, ho, hi, hdep =>
        cases ho
        have da0 : ac.eval (.tmp 19) = .pointer (some ⟨b, 2, none⟩) := hF.2.2.2 6 19 _ rfl (hdep ⟨6, .data⟩ (by simp) rfl)
        obtain ⟨kq, hlo, hhi, hA⟩ := hW.range 0 0 (.inl rfl) (.inr ⟨9, rfl, (Rg.no_of (fun h => hcl 9 _ rfl (h) ⟨7, .data⟩ (by simp) rfl) hi)⟩)
        exact Ord.ex_value x rfl rfl (Rg.load da0 rfl (by simp [go_sem, hA.has.cell 2 rfl])) rfl (hW.keep (by decide))
      | 8, ho, hi, hdep =>
        cases ho
        have da0 : ac.eval (.tmp 5) = .pointer (some ⟨w.heap.size, 0, none⟩) := hF.old 5 rfl
        obtain ⟨kq, hlo, hhi, hA⟩ := hW.range 0 0 (.inl rfl) (.inr ⟨9, rfl, (Rg.no_of (fun h => hcl 9 _ rfl (h) ⟨8, .data⟩ (by simp) rfl) hi)⟩)
        exact Ord.ex_value x rfl rfl (Rg.load da0 rfl (by simp [go_sem, hA.box.cell 0 rfl, hA.box.cell 1 rfl])) rfl (hW.keep (by decide))
      | 9, ho, hi, hdep =>
        cases ho
        have da0 : ac.eval (.tmp 20) = fkey := hF.2.2.2 7 20 _ rfl (hdep ⟨7, .data⟩ (by simp) rfl)
        have da1 : ac.eval (.tmp 21) = .agg #[.int .i64 d.1, .int .i64 d.2] := hF.2.2.2 8 21 _ rfl (hdep ⟨8, .data⟩ (by simp) rfl)
        have hA := hW.at (k := 0) rfl hi (.inl rfl)
        exact Rg.ex_call x rfl rfl (Rg.enter (args := #[.agg #[.int .i64 d.1, .int .i64 d.2]]) rfl da0 (by simp [da1]) EC.out) (Calls.mono (C.out d _) (by rintro e w2 ⟨rfl, hb2⟩; exact ⟨rfl, hW.next (k := 0) rfl (by decide) hi (.inl rfl) (hA.later hb2)⟩))
      | 10, ho, hi, hdep =>
        cases ho
        have da0 : ac.eval (.tmp 1) = .int .i64 (i : Int) := hF.old 1 rfl
        exact Ord.ex_value x rfl rfl (Rg.mv da0 rfl) rfl (hW.keep (by decide))
      | 11, ho, hi, hdep =>
        cases ho
        have da0 : ac.eval (.tmp 16) = .map (some m) := hF.2.2.2 3 16 _ rfl (hdep ⟨3, .data⟩ (by simp) rfl)
        have da1 : ac.eval (.tmp 22) = .int .i64 d.1 := hF.2.2.2 9 22 _ rfl (hdep ⟨9, .data⟩ (by simp) rfl)
        have da2 : ac.eval (.tmp 23) = .int .i64 (i : Int) := hF.2.2.2 10 23 _ rfl (hdep ⟨10, .data⟩ (by simp) rfl)
        have hA := hW.at (k := 1) rfl hi (.inr ⟨9, rfl, (hdep ⟨9, .data⟩ (by simp) rfl)⟩)
        obtain ⟨w2, hr, hA2⟩ := hA.two hd64 HI64.out HN.out
        exact Rg.ex_skip x rfl rfl (Rg.mapu da0 da1 da2 rfl hr) rfl (hW.next (k := 1) rfl (by decide) hi (.inr ⟨9, rfl, (hdep ⟨9, .data⟩ (by simp) rfl)⟩) hA2)
    case refine_3 => exact Rg.StM.first hw.out.then
    case refine_2 =>
      intro x w' hW
      have hw := hidden hW.last
      clear hW
      simp only [Ord.puts, Ord.prs]
      go_simp
      go_wp2
      go_end0
      exact ⟨rfl, hw.out.h1 (Nat.le_refl _), hw.out.only⟩
end Go.Proofs.Ytinhhfnknlmdgaa.Tm
