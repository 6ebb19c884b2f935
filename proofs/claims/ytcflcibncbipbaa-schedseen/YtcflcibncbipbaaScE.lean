/-
  Rows of numbers of one's own: some are struck, the rest put in order.
  Conditions: as at each lemma.
-/
import Derived.Test.YtcflcibncbipbaaScD
import Derived.Test.YtcflcibncbipbaaScLay
namespace Go.Proofs.Ytcflcibncbipbaa.Sc
open Go.ChangeShapes Go.WideShapes Go.ChangeAt Go.RowKit Go.Sort Go.Lib
open Ba (hidden Has Only)
open Ow (Own)
set_option linter.unusedVariables false

abbrev en (m : Nat) : Fin (m + 1) → Value := fun f => .int .i64 (f.val : Int)
theorem en_one (m : Nat) : OneCell (en m) := fun _ => rfl
def fins (m : Nat) (xs : List Int) : List (Fin (m + 1)) := xs.map fun x => Fin.ofNat (m + 1) x.toNat
def vals {m : Nat} (l : List (Fin (m + 1))) : List Int := l.map fun f => (f.val : Int)
theorem fins_len (m : Nat) (xs : List Int) : (fins m xs).length = xs.length := by simp [fins]
theorem fin_val {m : Nat} {x : Int} (h : 0 ≤ x ∧ x < (m + 1 : Nat)) : (((Fin.ofNat (m + 1) x.toNat).val : Nat) : Int) = x := by
  simp only [Fin.ofNat]
  rw [Nat.mod_eq_of_lt (by omega)]
  omega
theorem fins_vals {m : Nat} {xs : List Int} (h : ∀ x ∈ xs, 0 ≤ x ∧ x < (m + 1 : Nat)) : vals (fins m xs) = xs := by
  unfold vals fins
  rw [List.map_map]
  refine (List.map_congr_left fun x hx => ?_).trans (List.map_id xs)
  exact fin_val (h x hx)
theorem vals_filter {m : Nat} (p : Nat → Bool) (l : List (Fin (m + 1))) : vals (l.filter fun f => p f.val) = (vals l).filter fun x => p x.toNat := by
  unfold vals
  rw [List.filter_map]
  rfl
theorem lc_vals {m : Nat} (l : List (Fin (m + 1))) : lc (vals l) = l.map (en m) := by unfold lc vals; rw [List.map_map]; rfl
section
variable {w : World} {B g n cap m : Nat} {xs : List Int}
theorem own_holds (h : w.ownsRow B 3 1 (.slice (some ⟨g, 0, none⟩) n cap) n (lc xs)) (hx : ∀ x ∈ xs, 0 ≤ x ∧ x < (m + 1 : Nat)) : Holds (en m) w g 0 (fins m xs).toArray ∧ (fins m xs).toArray.size = n ∧ n ≤ cap ∧ cap ≤ maxLen := by
  have hl : xs.length = n := by have := h.1; rw [lc_len] at this; omega
  have hsz : (fins m xs).toArray.size = n := by rw [List.size_toArray, fins_len, hl]
  refine ⟨fun j hj => ?_, hsz, ?_⟩
  · have hj' : j < xs.length := by omega
    refine ⟨?_, ?_⟩
    · rw [Nat.zero_add, h.cellAt j (by omega), lc_get, List.getElem?_eq_getElem hj', getElem!_pos _ j hj]
      simp only [fins, List.getElem_toArray, List.getElem_map, Option.map_some, en]
      rw [fin_val (hx _ (List.getElem_mem hj'))]
    · rcases h.2 with ⟨h0, _⟩ | ⟨g', cap', cur, hv, _, hg, _⟩
      · cases h0
      · cases hv
        simp [World.frozen?, hg]
  · rcases h.2 with ⟨h0, _⟩ | ⟨g', cap', cur, hv, _, hg, h1, h2, _⟩
    · cases h0
    · cases hv
      exact ⟨h1, h2⟩
/-- the row's cells hold d -/
theorem own_put {W : World} (h : w.ownsRow B 3 1 (.slice (some ⟨g, 0, none⟩) n cap) n (lc xs)) (d : Array (Fin (m + 1))) (hd : d.size = n) {k : Nat} (hk : k ≤ n) (hW : W.heap = (putRow (en m) w g 0 d).heap) : W.ownsRow B 3 1 (.slice (some ⟨g, 0, none⟩) k cap) k (lc (vals (d.toList.take k))) := by
  rcases h.2 with ⟨h0, _⟩ | ⟨g', cap', cur, hv, hb, hg, h1, h2, h3, h4⟩
  · cases h0
  · cases hv
    refine ⟨by rw [lc_len]; simp [vals, hd]; omega, .inr ⟨g, cap, putCells (en m) 0 d cur, rfl, hb, ?_, by omega, h2, by simp [putCells, h3], ?_⟩⟩
    · rw [hW]
      simp [putRow, mapBlock, Array.getElem?_modify, hg, onCells]
    · rw [Nat.mul_one, lc_vals]
      apply List.ext_getElem?
      intro j
      by_cases hj : j < k
      · rw [List.getElem?_take_of_lt hj, Array.getElem?_toList]
        have hj2 : j < d.size := by omega
        have hj3 : j < cur.size := by omega
        simp [putCells, hj2, hj3, hj]
      · rw [List.getElem?_take_eq_none (by omega), List.getElem?_eq_none (by simp; omega)]
theorem only_put {W : World} {d : Array (Fin (m + 1))} {q : Nat} {os : Array Obj} (hW : W = grow (putRow (en m) (Sort.ahead w q) g 0 d) os) : Only [g] w W := by
  subst hW
  refine ⟨rfl, rfl, rfl, by simp [Sort.ahead], fun k hk hn => ?_⟩
  have hne : g ≠ k := fun e => hn (by simp [e])
  rw [heap_grow_old _ _ (by simpa [Sort.ahead] using hk)]
  simp [putRow, mapBlock, Sort.ahead, Array.getElem?_modify, hne]
end
theorem take_app {α : Type} (l r : List α) : (l ++ r).toArray.toList.take l.length = l := by simp
theorem drewN_0 (w : World) : w = w.drewN 0 := rfl
section
variable {w : World} {B n f : Nat} {v : Value} {xs : List Int} {cb : Array Value}
theorem zero_at {m : Nat} : ∀ w : World, (zeroValue (Try.delN_ren.t 23)).run Try.prog w = .ok (en m 0) w := fun w => by
  show (zeroValue 3).run Try.prog w = .ok (.int .i64 0) w
  exact Try.zeroValue3 w
theorem nil_index (fv : Value) (w : World) : Calls Try.prog 33 #[.slice none 0 0, fv] w fun e w' => e = .returned (.int .i64 (-1)) ∧ w = w' := by
  have B0 : Hid (w = w) := rfl
  go_enter Try.func33, Try.ntmps33
  go_wp2_with fail
  go_loopw [8] (fun i wr => i = .int .i64 0 ∧ Hid (w = wr)) (fun i _ => 0)
  case atStart => exact ⟨rfl, rfl⟩
  case round =>
    obtain ⟨rfl, HB⟩ := hrel
    go_wp2
    go_ret
    exact ⟨rfl, HB.out⟩
theorem del {n0 : Nat} {p : Nat → Bool} (h : w.ownsRow B 3 1 v n (lc xs)) (hn : n ≤ 100) (hn0 : 0 < n0) (hx : ∀ x ∈ xs, 0 ≤ x ∧ x < (n0 : Int)) (G : Gv v.ownBlock.toList w n0 f cb fun x => .bool (p x.toNat)) (eg : ∀ args w, (callFunc f args).run Try.prog w = .ok (.enter f args) w) :
    Calls Try.prog 22 #[v, .func (.func f) #[] cb] w fun e w' => ∃ v', e = .returned v' ∧ v'.ownBlock = v.ownBlock ∧ w'.ownsRow B 3 1 v' (xs.filter fun x => !p x.toNat).length (lc (xs.filter fun x => !p x.toNat)) ∧ Only v.ownBlock.toList w w' := by
  have hl : xs.length = n := by have := h.1; rw [lc_len] at this; omega
  rcases h.2 with ⟨rfl, rfl⟩ | ⟨g, cap, cur, rfl, hb, hg, hnc, hcm, _⟩
  · obtain rfl : xs = [] := List.length_eq_zero_iff.1 hl
    have NI := hidden (nil_index (.func (.func f) #[] cb))
    have END := hidden (World.ownsRow_nil w B 3 1)
    clear h hx G hl
    go_enter Try.func22, Try.ntmps22
    go_wp2_with fail
    refine Calls.mono (NI.out _) ?_
    rintro e w1 ⟨rfl, rfl⟩
    go_wp2
    go_ret
    exact ⟨_, rfl, rfl, END.out, Only.refl _ _⟩
  · have hpos := hn0
    · obtain ⟨m, rfl⟩ : ∃ m, n0 = m + 1 := ⟨n0 - 1, by omega⟩
      obtain ⟨hH, hsz, _, _⟩ := own_holds (m := m) h hx
      have gv : ∀ (W : World) (x : Fin (m + 1)), Only [g] w W → FnGives Try.prog f cb #[en m x] (.bool (p x.val)) W := fun W x hW => by
        have hlt := x.isLt
        have := G W hW (x.val : Int) (by omega) (by omega)
        refine this.mono fun e w' he => ⟨?_, 0, ?_⟩
        · rw [he.1]
          show Ending.returned (Value.bool (p ((x.val : Int)).toNat)) = _
          rw [Int.toNat_natCast]
        · exact he.2.symm
      have hcon := AnyE.slices_DeleteFunc Try.delN (en m) (en_one m) (fun x => p x.val) f cb eg 0 zero_at g 0 cap (fins m xs).toArray w
        (fun W x hW => gv W x (Only.of_below hW)) (fun q os dk x _ => gv _ x (only_put rfl)) hH (by omega) (by omega)
      rw [hsz] at hcon
      refine Calls.mono hcon ?_
      rintro e w' ⟨rfl, q, rfl⟩
      have hF : vals ((fins m xs).filter fun x : Fin (m + 1) => !p x.val) = xs.filter fun x => !p x.toNat := by
        rw [vals_filter (fun k => !p k), fins_vals hx]
      have hlF : (xs.filter fun x => !p x.toNat).length = ((fins m xs).filter fun x : Fin (m + 1) => !p x.val).length := by rw [← hF]; simp [vals]
      have hle : ((fins m xs).filter fun x : Fin (m + 1) => !p x.val).length ≤ n := by
        have := List.length_filter_le (fun x : Fin (m + 1) => !p x.val) (fins m xs)
        rw [fins_len, hl] at this
        exact this
      refine ⟨_, rfl, rfl, ?_, only_put (os := #[]) (by rw [grow_empty])⟩
      have := own_put (W := putRow (en m) (Sort.ahead w q) g 0 (((fins m xs).filter fun x : Fin (m + 1) => !p x.val) ++ List.replicate (n - ((fins m xs).filter fun x : Fin (m + 1) => !p x.val).length) 0).toArray) h (((fins m xs).filter fun x : Fin (m + 1) => !p x.val) ++ List.replicate (n - ((fins m xs).filter fun x : Fin (m + 1) => !p x.val).length) 0).toArray (by simp; omega) hle rfl
      rw [take_app, hF] at this
      rw [hlF]
      exact this
/-- put in order -/
theorem stable {n0 : Nat} {co : Nat → Int} {cf : Int → Int → Int} (hcf : ∀ x y, 0 ≤ x → 0 ≤ y → (cf x y < 0 ↔ co x.toNat < co y.toNat)) (h : w.ownsRow B 3 1 v n (lc xs)) (hn : n ≤ 8) (hn0 : 0 < n0) (hx : ∀ x ∈ xs, 0 ≤ x ∧ x < (n0 : Int)) (hr : xs.Pairwise (· < ·))
    (G : ∀ W, Only v.ownBlock.toList w W → ∀ x y : Int, 0 ≤ x → x < n0 → 0 ≤ y → y < n0 → Calls Try.prog f (#[.int .i64 x, .int .i64 y] ++ cb) W fun e w' => e = .returned (.int .i64 (cf x y)) ∧ ∃ q, w' = W.drewN q) (eg : ∀ args w, (callFunc f args).run Try.prog w = .ok (.enter f args) w) :
    Calls Try.prog 45 #[v, .int .i64 0, .int .i64 n, .func (.func f) #[] cb] w fun e w' => e = .returned (.tuple #[]) ∧ w'.ownsRow B 3 1 v n (lc (srt (lx co) xs)) ∧ Only v.ownBlock.toList w w' := by
  have hl : xs.length = n := by have := h.1; rw [lc_len] at this; omega
  rcases h.2 with ⟨rfl, rfl⟩ | ⟨g, cap, cur, rfl, hb, hg, hnc, hcm, _⟩
  · obtain rfl : xs = [] := List.length_eq_zero_iff.1 hl
    have END := hidden (World.ownsRow_nil w B 3 1)
    clear h hx G hl hcf hr
    go_enter Try.func45, Try.ntmps45
    go_wp2_with fail
    go_loopw [8] (fun i wr => i = .int .i64 1 ∧ Hid (w = wr)) (fun i _ => 0)
    case atStart => exact ⟨rfl, rfl⟩
    case round =>
      obtain ⟨rfl, HB⟩ := hrel
      go_wp2
      go_end0
      have e := HB.out
      subst e
      exact ⟨rfl, END.out, Only.refl _ _⟩
  · obtain ⟨m, rfl⟩ : ∃ m, n0 = m + 1 := ⟨n0 - 1, by omega⟩
    obtain ⟨hH, hsz, _, _⟩ := own_holds (m := m) h hx
    have gv : CmpReads Try.prog f cb (en m) (fun x y => cf (x.val : Int) (y.val : Int)) g 0 (fins m xs).toArray.size w := fun q os dk hdk x y => G _ (only_put rfl) _ _ (by omega) (by have := x.isLt; omega) (by omega) (by have := y.isLt; omega)
    have hcon := Any.insertionSortCmpFunc_one Try.sortIns (en m) (en_one m) (fun x y => cf (x.val : Int) (y.val : Int)) f cb g 0 cap 0 n (fins m xs).toArray w eg gv hH (Nat.zero_le _) (by omega) (by omega)
    rw [hsz] at hcon
    refine Calls.mono hcon ?_
    rintro e w' ⟨rfl, q, rfl⟩
    have hlt : ltOf (fun x y : Fin (m + 1) => cf (x.val : Int) (y.val : Int)) = fun x y => decide (co x.val < co y.val) := by
      funext x y
      unfold ltOf
      have := hcf (x.val : Int) (y.val : Int) (by omega) (by omega)
      rw [Int.toNat_natCast, Int.toNat_natCast] at this
      exact decide_eq_decide.2 this
    have hS : vals (Sort.insertionSort (fun x y : Fin (m + 1) => decide (co x.val < co y.val)) (fins m xs).toArray 0 (fins m xs).toArray.size).toList = srt (lx co) xs := by
      have h1 : (fins m xs).toArray.toList.Pairwise (fun x y => x.val < y.val) := by
        show (fins m xs).Pairwise _
        unfold fins
        rw [List.pairwise_map]
        refine (List.Pairwise.imp_of_mem ?_ hr)
        intro x y hxm hym hxy
        have e1 := fin_val (m := m) (hx x hxm)
        have e2 := fin_val (m := m) (hx y hym)
        omega
      have := sorted_fin co (fins m xs).toArray h1
      unfold vals
      rw [this]
      congr 1
      exact fins_vals hx
    have hszS : (Sort.insertionSort (ltOf fun x y : Fin (m + 1) => cf (x.val : Int) (y.val : Int)) (fins m xs).toArray 0 n).size = n := by
      have := congrArg List.length hS
      rw [hsz, ← hlt] at this
      simp only [vals, List.length_map, Array.length_toList] at this
      rw [this, (srt_perm _ _).length_eq, hl]
    refine ⟨rfl, ?_, only_put (q := q) (os := #[]) (d := Sort.insertionSort (ltOf fun x y : Fin (m + 1) => cf (x.val : Int) (y.val : Int)) (fins m xs).toArray 0 n) (by rw [grow_empty]; rfl)⟩
    have := own_put (W := (putRow (en m) w g 0 (Sort.insertionSort (ltOf fun x y : Fin (m + 1) => cf (x.val : Int) (y.val : Int)) (fins m xs).toArray 0 n)).drewN q) h _ hszS (Nat.le_refl n) rfl
    rw [List.take_of_length_le (by rw [Array.length_toList, hszS]; exact Nat.le_refl _)] at this
    rw [hlt] at this
    rw [hsz] at hS
    rw [hS] at this
    rw [hlt]
    exact this
end
end Go.Proofs.Ytcflcibncbipbaa.Sc
