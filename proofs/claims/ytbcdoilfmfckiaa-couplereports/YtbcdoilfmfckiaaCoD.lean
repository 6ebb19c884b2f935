/-
  Windows of several paths: how one of them grows by a report.
  Conditions: as at each lemma.
-/
import Derived.Test.YtbcdoilfmfckiaaCoC
namespace Go.Proofs.Ytbcdoilfmfckiaa.Co
open Go.ChangeShapes Go.WideShapes Go.ChangeAt Go.RowKit
open Ba (hidden Has Only)
open Ow (Own)
set_option linter.unusedVariables false

section
variable {w : World} {a : Option Addr} {n cap : Nat} {zs : List Fw}
theorem growth_s (h : Fl w a n zs) (m : Int) {i : Int} (hi : 0 ≤ i ∧ i < n) {y c t : Int} (hz : zs[i.toNat]? = some (c, t)) (hc : c ≤ t) : Calls Try.prog 39 #[.agg (mem a n cap m i y)] w fun e w' => e = .returned (.func (.func 29) #[] #[]) ∧ Below w.heap.size w w' := by
  obtain ⟨b, off, rfl, hb⟩ := Fl.open h (by omega)
  obtain ⟨c', t', hz', d0, d1⟩ := Fl.get h (q := i.toNat) (by omega)
  rw [hz] at hz'
  cases hz'
  obtain ⟨hi1, hi2⟩ := hi
  have HB := hidden (((Below.refl _ w).alloc (Nat.le_refl _) (.cells (mem (some ⟨b, off, none⟩) n cap m i y) 49)).alloc (by simp) (.cells #[.int .i64 c, .int .i64 t] 43))
  clear h hz
  go_enter Try.func39, Try.ntmps39
  go_wp2
  go_ret
  exact ⟨rfl, HB.out⟩
theorem growth_a (h : Fl w a n zs) (m : Int) {i : Int} (hi : 0 ≤ i ∧ i < n) {y c t : Int} (hz : zs[i.toNat]? = some (c, t)) (hc : t < c) (hy : c ≤ y) : Calls Try.prog 39 #[.agg (mem a n cap m i y)] w fun e w' => e = .returned (.func (.func 30) #[] #[]) ∧ Below w.heap.size w w' := by
  obtain ⟨b, off, rfl, hb⟩ := Fl.open h (by omega)
  obtain ⟨c', t', hz', d0, d1⟩ := Fl.get h (q := i.toNat) (by omega)
  rw [hz] at hz'
  cases hz'
  obtain ⟨hi1, hi2⟩ := hi
  have HB := hidden (((Below.refl _ w).alloc (Nat.le_refl _) (.cells (mem (some ⟨b, off, none⟩) n cap m i y) 49)).alloc (by simp) (.cells #[.int .i64 c, .int .i64 t] 43))
  clear h hz
  go_enter Try.func39, Try.ntmps39
  go_wp2
  go_ret
  exact ⟨rfl, HB.out⟩
theorem growth_n (h : Fl w a n zs) (m : Int) {i : Int} (hi : 0 ≤ i ∧ i < n) {y c t : Int} (hz : zs[i.toNat]? = some (c, t)) (hc : t < c) (hy : y < c) : Calls Try.prog 39 #[.agg (mem a n cap m i y)] w fun e w' => e = .returned (.func (.func 41) #[] #[]) ∧ Below w.heap.size w w' := by
  obtain ⟨b, off, rfl, hb⟩ := Fl.open h (by omega)
  obtain ⟨c', t', hz', d0, d1⟩ := Fl.get h (q := i.toNat) (by omega)
  rw [hz] at hz'
  cases hz'
  obtain ⟨hi1, hi2⟩ := hi
  have HB := hidden (((Below.refl _ w).alloc (Nat.le_refl _) (.cells (mem (some ⟨b, off, none⟩) n cap m i y) 49)).alloc (by simp) (.cells #[.int .i64 c, .int .i64 t] 43))
  clear h hz
  go_enter Try.func39, Try.ntmps39
  go_wp2
  go_ret
  exact ⟨rfl, HB.out⟩
end
/-- numbers in a row in memory -/
abbrev Nu (w : World) (a : Option Addr) (n : Nat) (ys : List Int) : Prop := Ag.Rows (fun n : Int => [.int .i64 n]) (fun n => (Lit.int .i64 n).wf = true) 1 w a n ys
theorem Nu.open {w : World} {a : Option Addr} {n : Nat} {ys : List Int} (h : Nu w a n ys) (hn : 0 < n) : ∃ b off, a = some ⟨b, off, none⟩ ∧ b < w.heap.size := by
  rcases h.2.2.2 with h0 | ⟨b, off, e, hb, _⟩
  · omega
  · exact ⟨b, off, e, hb⟩
theorem Nu.get {w : World} {b off n : Nat} {ys : List Int} (h : Nu w (some ⟨b, off, none⟩) n ys) {q : Nat} (hq : q < n) : ∃ y, ys[q]? = some y ∧ w.cell? ⟨b, off + q, none⟩ = some (.int .i64 y) := by
  obtain ⟨h1, _, _, h4⟩ := h
  have hz : ys[q]? = some ys[q] := List.getElem?_eq_getElem (by omega)
  rcases h4 with h4 | ⟨b', off', e, _, hc⟩
  · omega
  · cases e
    have := hc q _ hz 0 _ rfl
    rw [Nat.mul_one, Nat.add_zero] at this
    exact ⟨_, hz, this⟩
/-- a report, as a value -/
abbrev rep (a : Option Addr) (n cap : Nat) (m : Int) (a' : Option Addr) (n' cap' : Nat) (k : Int) : Array Value := #[.slice a n cap, .int .i64 m, .slice a' n' cap', .int .i64 k]
/-- by how much a window grows, and what it is then -/
def gr (zs : List Fw) (j : Nat) (y m : Int) : Int := if (zs.getD j (0, 0)).1 ≤ (zs.getD j (0, 0)).2 then share zs j (min y m) else if (zs.getD j (0, 0)).1 ≤ y then share zs j m else 0
def wn (zs : List Fw) (j : Nat) (y m k : Int) : Int := max (zs.getD j (0, 0)).1 (min ((zs.getD j (0, 0)).1 + gr zs j y m) k)
theorem getD_at {zs : List Fw} {j : Nat} {z : Fw} (h : zs[j]? = some z) : zs.getD j (0, 0) = z := by rw [List.getD_eq_getElem?_getD, h]; rfl
theorem wn_at {zs : List Fw} {j : Nat} {c t : Int} (h : zs[j]? = some (c, t)) (y m k : Int) : wn zs j y m k = max c (min (c + gr zs j y m) k) := by unfold wn; rw [getD_at h]
theorem gr_s {zs : List Fw} {j : Nat} {c t : Int} (h : zs[j]? = some (c, t)) (hc : c ≤ t) (y m : Int) : gr zs j y m = share zs j (min y m) := by unfold gr; rw [getD_at h, if_pos hc]
theorem gr_a {zs : List Fw} {j : Nat} {c t : Int} (h : zs[j]? = some (c, t)) (hc : t < c) {y : Int} (hy : c ≤ y) (m : Int) : gr zs j y m = share zs j m := by unfold gr; rw [getD_at h, if_neg (by simp only; omega), if_pos hy]
theorem gr_n {zs : List Fw} {j : Nat} {c t : Int} (h : zs[j]? = some (c, t)) (hc : t < c) {y : Int} (hy : y < c) (m : Int) : gr zs j y m = 0 := by unfold gr; rw [getD_at h, if_neg (by simp only; omega), if_neg (by simp only; omega)]
theorem gr_in {zs : List Fw} (hg : ∀ z ∈ zs, good z) {j : Nat} (hj : j < zs.length) {y m : Int} (hy : 0 ≤ y) (hm : 0 ≤ m) : 0 ≤ gr zs j y m ∧ gr zs j y m ≤ share zs j m := by
  have s1 := share_in hg hj (n := m) hm
  have s2 := share_in hg hj (n := min y m) (by omega)
  have s3 : share zs j (min y m) ≤ share zs j m := by
    obtain ⟨c, t, e⟩ := get_ hj
    have g := hg _ (List.mem_of_getElem? e)
    have h1 : t ≤ sumT zs := sT_one hg e zs.length hj (Nat.le_refl _)
    simp only [good] at g
    rw [share_at e, share_at e]
    exact Int.ediv_le_ediv (by omega) (Int.mul_le_mul_of_nonneg_right (Int.min_le_right _ _) (by omega))
  unfold gr
  split
  · exact ⟨s2.1, s3⟩
  · split
    · exact ⟨s1.1, Int.le_refl _⟩
    · exact ⟨Int.le_refl _, s1.1⟩
theorem alM (w : World) : (Instr.alloc 49 true (.tuple #[])).run Try.prog w = .ok (.pointer (some ⟨w.heap.size, 0, none⟩)) (w.alloc (.cells #[.slice none 0 0, .int .i64 0, .int .i64 0, .int .i64 0] 49)) := by kernel_rfl
set_option maxHeartbeats 4000000 in
set_option maxRecDepth 20000 in
theorem window_s {w : World} {a a2 : Option Addr} {n cap n2 cap2 : Nat} {zs : List Fw} {ys : List Int} (h : Fl w a n zs) (hg : ∀ z ∈ zs, good z) (h8 : n ≤ 8) {m k : Int} (hm : 1 ≤ m ∧ m ≤ 65536) (h2 : Nu w a2 n2 ys) {i : Int} (hi : 0 ≤ i ∧ i < n) (hi2 : i < n2) {y c t : Int} (hy : 0 ≤ y ∧ y ≤ 1073741824) (hyi : ys[i.toNat]? = some y) (hz : zs[i.toNat]? = some (c, t)) (hc : c ≤ t) : Calls Try.prog 34 #[.agg (rep a n cap m a2 n2 cap2 k), .int .i64 i] w fun e w' => e = .returned (.int .i64 (wn zs i.toNat y m k)) ∧ Below w.heap.size w w' := by
  obtain ⟨b, off, rfl, hb⟩ := Fl.open h (by omega)
  obtain ⟨g, of2, rfl, hgb⟩ := Nu.open h2 (by omega)
  obtain ⟨c', t', hz', d0, d1⟩ := Fl.get h (q := i.toNat) (by omega)
  rw [hz] at hz'
  cases hz'
  obtain ⟨y', hy', dy⟩ := Nu.get h2 (q := i.toNat) (by omega)
  rw [hyi] at hy'
  cases hy'
  have hgd := hg _ (List.mem_of_getElem? hz)
  simp only [good] at hgd
  have hgr := gr_in hg (j := i.toNat) (y := y) (m := m) (by have := h.len; omega) hy.1 (by omega)
  have hsh := share_in hg (j := i.toNat) (n := m) (by have := h.len; omega) (by omega)
  rw [wn_at hz, gr_s hz hc y m]
  rw [gr_s hz hc y m] at hgr
  have HM : Hid (∀ X, Fl X (some ⟨b, off, none⟩) n zs → Calls Try.prog 29 #[.agg #[.slice (some ⟨b, off, none⟩) n cap, .int .i64 m, .int .i64 i, .int .i64 y]] X fun e w' => e = .returned (.int .i64 (share zs i.toNat (min y m))) ∧ Below X.heap.size X w') := fun X hX => slow_ (cap := cap) hX hg h8 hm hi hy
  have GM : Hid (∀ X, Fl X (some ⟨b, off, none⟩) n zs → Calls Try.prog 39 #[.agg #[.slice (some ⟨b, off, none⟩) n cap, .int .i64 m, .int .i64 i, .int .i64 y]] X fun e w' => e = .returned (.func (.func 29) #[] #[]) ∧ Below X.heap.size X w') := fun X hX => growth_s (cap := cap) hX m hi hz hc
  generalize share zs i.toNat m = SM at *
  generalize share zs i.toNat (min y m) = G at *
  have hw : IntKind.i64.wrap (c + G) = c + G := by rw [IntKind.wrap_i64]; omega
  have DY : Hid (∀ X, Below w.heap.size w X → X.cell? ⟨g, of2 + i.toNat, none⟩ = some (.int .i64 y)) := fun X hX => keep_cell hX dy
  have DC : Hid (∀ X, Below w.heap.size w X → X.cell? ⟨b, off + i.toNat * 2, none⟩ = some (.int .i64 c)) := fun X hX => keep_cell hX d0
  have H := hidden h
  have O := hidden ((Own.refl w).alloc #[.slice (some ⟨b, off, none⟩) n cap, .int .i64 m, .slice (some ⟨g, of2, none⟩) n2 cap2, .int .i64 k] 57)
  obtain ⟨hi1, hi3⟩ := hi
  have IXR : Hid (∀ {W : World}, (Instr.indexAt 35 (.slice (some ⟨g, of2, none⟩) n2 cap2) (.int .i64 i)).run Try.prog W = .ok (.pointer (some ⟨g, of2 + i.toNat, none⟩)) W) := fun {W} => by simp [go_sem, hi1, hi2]
  clear h h2 hg hz hyi dy d0 d1 hgd hgr hsh hy hm hc
  go_enter Try.func34, Try.ntmps34
  go_upto_region 1 with fail
  refine Ord.wp_region_ex0 (X := Unit) (by kernel_rfl) 34 (fun x => [(some 7, .pointer (some ⟨w.heap.size, 0, none⟩)), (some 8, .agg #[.slice (some ⟨b, off, none⟩) n cap, .int .i64 m]), (some 9, .int .i64 i), (some 10, .pointer (some ⟨w.heap.size, 2, none⟩)), (some 11, .slice (some ⟨g, of2, none⟩) n2 cap2), (some 12, .int .i64 i), (some 13, .pointer (some ⟨g, of2 + i.toNat, none⟩)), (some 14, .int .i64 y), (some 15, .agg #[.slice (some ⟨b, off, none⟩) n cap, .int .i64 m, .int .i64 i, .int .i64 y]), (some 5, .pointer (some ⟨w.heap.size + 1, 0, none⟩)), (none, undef)]) [some 7, some 8, some 9, some 10, some 11, some 12, some 13, some 14, some 15, some 5, none] rfl (fun listed hsz hr => Ord.all_listedC (rank := [0, 1, 2, 3, 4, 5, 6, 7, 8, 9, 10]) (by kernel_rfl) hsz hr) (by rfl) (fun _ => rfl) (by kernel_rfl) (Rg.StM [9, 10] (fun kA _ w' => Own w w' [(w.heap.size, #[.slice (some ⟨b, off, none⟩) n cap, .int .i64 m, .slice (some ⟨g, of2, none⟩) n2 cap2, .int .i64 k], 57)] ∧ (kA = 0 → w'.heap.size = w.heap.size + 1) ∧ (kA = 1 → Own w w' [(w.heap.size + 1, #[.slice none 0 0, .int .i64 0, .int .i64 0, .int .i64 0], 49), (w.heap.size, #[.slice (some ⟨b, off, none⟩) n cap, .int .i64 m, .slice (some ⟨g, of2, none⟩) n2 cap2, .int .i64 k], 57)]) ∧ (kA = 2 → Own w w' [(w.heap.size + 1, #[.slice (some ⟨b, off, none⟩) n cap, .int .i64 m, .int .i64 i, .int .i64 y], 49), (w.heap.size, #[.slice (some ⟨b, off, none⟩) n cap, .int .i64 m, .slice (some ⟨g, of2, none⟩) n2 cap2, .int .i64 k], 57)]))) (fun _ _ _ _ hL h => h.ext (n := 11) (by decide) hL) ?_ ?_ () ?_
  case refine_1 =>
    intro x Lq iq oq ac w' ho hi hcl hdep hF hW
    have f1 : ac.tmps.size = 34 := hF.1
    match iq, ho, hi, hdep with
    | 0, ho, hi, hdep =>
      cases ho
      have da0 : ac.eval (.tmp 2) = .pointer (some ⟨w.heap.size, 0, none⟩) := hF.old 2 rfl
      exact Ord.ex_value x rfl rfl (Rg.fa da0 rfl (by simp [go_sem])) rfl (hW.keep (by decide))
    | 1, ho, hi, hdep =>
      cases ho
      have da0 : ac.eval (.tmp 7) = .pointer (some ⟨w.heap.size, 0, none⟩) := hF.2.2.2 0 7 _ rfl (hdep ⟨0, .data⟩ (by simp) rfl)
      obtain ⟨kq, hlo, hhi, hA⟩ := hW.range 0 1 (.inl rfl) (.inr ⟨10, rfl, (Rg.no_of (fun h => hcl 10 _ rfl (h) ⟨1, .phase⟩ (by simp) rfl) hi)⟩)
      obtain ⟨c0, c1, c2, c3⟩ := cells4 hA.1 (b := w.heap.size) (.head _)
      exact Ord.ex_value x rfl rfl (Rg.load da0 rfl (by simp [go_sem, c0, c1])) rfl (hW.keep (by decide))
    | 2, ho, hi, hdep =>
      cases ho
      have da0 : ac.eval (.tmp 1) = .int .i64 i := hF.old 1 rfl
      exact Ord.ex_value x rfl rfl (Rg.mv da0 rfl) rfl (hW.keep (by decide))
    | 3, ho, hi, hdep =>
      cases ho
      have da0 : ac.eval (.tmp 2) = .pointer (some ⟨w.heap.size, 0, none⟩) := hF.old 2 rfl
      exact Ord.ex_value x rfl rfl (Rg.fa da0 rfl (by simp [go_sem])) rfl (hW.keep (by decide))
    | 4, ho, hi, hdep =>
      cases ho
      have da0 : ac.eval (.tmp 10) = .pointer (some ⟨w.heap.size, 2, none⟩) := hF.2.2.2 3 10 _ rfl (hdep ⟨3, .data⟩ (by simp) rfl)
      obtain ⟨kq, hlo, hhi, hA⟩ := hW.range 0 1 (.inl rfl) (.inr ⟨10, rfl, (Rg.no_of (fun h => hcl 10 _ rfl (h) ⟨4, .phase⟩ (by simp) rfl) hi)⟩)
      obtain ⟨c0, c1, c2, c3⟩ := cells4 hA.1 (b := w.heap.size) (.head _)
      exact Ord.ex_value x rfl rfl (Rg.load da0 rfl (by simp [go_sem, c2])) rfl (hW.keep (by decide))
    | 5, ho, hi, hdep =>
      cases ho
      have da0 : ac.eval (.tmp 1) = .int .i64 i := hF.old 1 rfl
      exact Ord.ex_value x rfl rfl (Rg.mv da0 rfl) rfl (hW.keep (by decide))
    | 6, ho, hi, hdep =>
      cases ho
      have da0 : ac.eval (.tmp 11) = .slice (some ⟨g, of2, none⟩) n2 cap2 := hF.2.2.2 4 11 _ rfl (hdep ⟨4, .data⟩ (by simp) rfl)
      have da1 : ac.eval (.tmp 12) = .int .i64 i := hF.2.2.2 5 12 _ rfl (hdep ⟨5, .data⟩ (by simp) rfl)
      exact Ord.ex_value x rfl rfl (Rg.ix da0 da1 rfl IXR.out) rfl (hW.keep (by decide))
    | 7, ho, hi, hdep =>
      cases ho
      have da0 : ac.eval (.tmp 13) = .pointer (some ⟨g, of2 + i.toNat, none⟩) := hF.2.2.2 6 13 _ rfl (hdep ⟨6, .data⟩ (by simp) rfl)
      obtain ⟨kq, hlo, hhi, hA⟩ := hW.range 0 1 (.inl rfl) (.inr ⟨10, rfl, (Rg.no_of (fun h => hcl 10 _ rfl (h) ⟨7, .phase⟩ (by simp) rfl) hi)⟩)
      have dy := DY.out _ hA.1.below
      exact Ord.ex_value x rfl rfl (Rg.load da0 rfl (by simp [go_sem, dy])) rfl (hW.keep (by decide))
    | 8, ho, hi, hdep =>
      cases ho
      have da0 : ac.eval (.tmp 8) = .agg #[.slice (some ⟨b, off, none⟩) n cap, .int .i64 m] := hF.2.2.2 1 8 _ rfl (hdep ⟨1, .data⟩ (by simp) rfl)
      have da1 : ac.eval (.tmp 9) = .int .i64 i := hF.2.2.2 2 9 _ rfl (hdep ⟨2, .data⟩ (by simp) rfl)
      have da2 : ac.eval (.tmp 14) = .int .i64 y := hF.2.2.2 7 14 _ rfl (hdep ⟨7, .data⟩ (by simp) rfl)
      exact Ord.ex_value x rfl rfl (Rg.bld (ys := #[(0, .agg #[.slice (some ⟨b, off, none⟩) n cap, .int .i64 m]), (1, .int .i64 i), (2, .int .i64 y)]) rfl (by simp [da0, da1, da2]) (by simp [go_sem])) rfl (hW.keep (by decide))
    | 9, ho, hi, hdep =>
      cases ho
      have hA := hW.at (k := 0) rfl hi (.inl rfl)
      have al := alM w'
      rw [hA.2.1 rfl] at al
      exact Ord.ex_value x rfl rfl (Rg.alo rfl al) rfl (hW.next (k := 0) rfl (by decide) hi (.inl rfl) ⟨(hA.1.alloc _ _).sub (by simp), fun h => absurd h (by decide), fun _ => by have q := hA.1.alloc #[.slice none 0 0, .int .i64 0, .int .i64 0, .int .i64 0] 49; rw [hA.2.1 rfl] at q; exact q, fun h => absurd h (by decide)⟩)
    | 10, ho, hi, hdep =>
      cases ho
      have da0 : ac.eval (.tmp 5) = .pointer (some ⟨w.heap.size + 1, 0, none⟩) := hF.2.2.2 9 5 _ rfl (hdep ⟨9, .data⟩ (by simp) rfl)
      have da1 : ac.eval (.tmp 15) = .agg #[.slice (some ⟨b, off, none⟩) n cap, .int .i64 m, .int .i64 i, .int .i64 y] := hF.2.2.2 8 15 _ rfl (hdep ⟨8, .data⟩ (by simp) rfl)
      have hA := hW.at (k := 1) rfl hi (.inr ⟨9, rfl, (hdep ⟨9, .data⟩ (by simp) rfl)⟩)
      have hO := hA.2.2.1 rfl
      have hR := hO.row #[.slice (some ⟨b, off, none⟩) n cap, .int .i64 m, .int .i64 i, .int .i64 y] (by simp)
      exact Rg.ex_skip x rfl rfl (Rg.sto da0 da1 rfl (Ow.store_row (hO.has (.head _)) (by kernel_rfl) rfl (by simp [Value.oneCell']))) rfl (hW.next (k := 1) rfl (by decide) hi (.inr ⟨9, rfl, (hdep ⟨9, .data⟩ (by simp) rfl)⟩) ⟨hR.sub (by simp), fun h => absurd h (by decide), fun h => absurd h (by decide), fun _ => hR⟩)
  case refine_2 =>
    intro x w8 hW
    have hA := hW.last
    have Q8 := hidden (hA.2.2.2 rfl)
    clear hW hA IXR DY O
    obtain ⟨c0, c1, c2, c3⟩ := cells4 Q8.out (b := w.heap.size) (.tail _ (.head _))
    obtain ⟨e0, e1, e2, e3⟩ := cells4 Q8.out (b := w.heap.size + 1) (.head _)
    have dc := DC.out _ Q8.out.below
    have HH : Hid (∀ X : World, Below w8.heap.size w8 X → X.cell? ⟨w.heap.size, 3, none⟩ = some (.int .i64 k) ∧ X.cell? ⟨w.heap.size + 1, 0, none⟩ = some (.slice (some ⟨b, off, none⟩) n cap) ∧ X.cell? ⟨w.heap.size + 1, 1, none⟩ = some (.int .i64 m) ∧ X.cell? ⟨w.heap.size + 1, 2, none⟩ = some (.int .i64 i) ∧ X.cell? ⟨w.heap.size + 1, 3, none⟩ = some (.int .i64 y) ∧ Below w8.heap.size w8 X) := fun X hX =>
      ⟨keep_cell hX c3, keep_cell hX e0, keep_cell hX e1, keep_cell hX e2, keep_cell hX e3, hX⟩
    have GX : Hid (∀ X : World, Below w8.heap.size w8 X → Calls Try.prog 39 #[.agg #[.slice (some ⟨b, off, none⟩) n cap, .int .i64 m, .int .i64 i, .int .i64 y]] X fun e w' => e = .returned (.func (.func 29) #[] #[]) ∧ Below w8.heap.size w8 w') := fun X hX =>
      (GM.out X ((H.out.later Q8.out.below).later hX)).mono (by rintro e w' ⟨rfl, hB⟩; exact ⟨rfl, hX.trans (hB.mono hX.size)⟩)
    have MX : Hid (∀ X : World, Below w8.heap.size w8 X → Calls Try.prog 29 #[.agg #[.slice (some ⟨b, off, none⟩) n cap, .int .i64 m, .int .i64 i, .int .i64 y]] X fun e w' => e = .returned (.int .i64 G) ∧ Below w8.heap.size w8 w') := fun X hX =>
      (HM.out X ((H.out.later Q8.out.below).later hX)).mono (by rintro e w' ⟨rfl, hB⟩; exact ⟨rfl, hX.trans (hB.mono hX.size)⟩)
    clear GM HM H DC
    simp only [Ord.puts, Ord.prs]
    go_simp
    go_wp2_with fail
    go_region_held3 (fun X => X.cell? ⟨w.heap.size, 3, none⟩ = some (.int .i64 k) ∧ X.cell? ⟨w.heap.size + 1, 0, none⟩ = some (.slice (some ⟨b, off, none⟩) n cap) ∧ X.cell? ⟨w.heap.size + 1, 1, none⟩ = some (.int .i64 m) ∧ X.cell? ⟨w.heap.size + 1, 2, none⟩ = some (.int .i64 i) ∧ X.cell? ⟨w.heap.size + 1, 3, none⟩ = some (.int .i64 y) ∧ Below w8.heap.size w8 X)
      (first | (exact HH.out _ (below_drew (Below.refl _ _))) | (exact HH.out _ (by assumption)) | (trace_state; fail))
      (first
        | (go_at_call 39; refine Calls.mono (GX.out _ ?_) ?_; (first | assumption | exact below_drew (Below.refl _ _)); rintro e X ⟨rfl, hX⟩)
        | (go_at_call 29; refine Calls.mono (MX.out _ ?_) ?_; (first | assumption | exact below_drew (Below.refl _ _)); rintro e Y ⟨rfl, hY⟩))
    go_wp2
    go_ret
    exact ⟨rfl, Q8.out.below.trans (hY.mono Q8.out.below.size)⟩
  case refine_3 => exact Rg.StM.first ⟨O.out.drew, fun _ => by simp, fun h => absurd h (by decide), fun h => absurd h (by decide)⟩
set_option maxHeartbeats 4000000 in
set_option maxRecDepth 20000 in
theorem window_a {w : World} {a a2 : Option Addr} {n cap n2 cap2 : Nat} {zs : List Fw} {ys : List Int} (h : Fl w a n zs) (hg : ∀ z ∈ zs, good z) (h8 : n ≤ 8) {m k : Int} (hm : 1 ≤ m ∧ m ≤ 65536) (h2 : Nu w a2 n2 ys) {i : Int} (hi : 0 ≤ i ∧ i < n) (hi2 : i < n2) {y c t : Int} (hy : 0 ≤ y ∧ y ≤ 1073741824) (hyi : ys[i.toNat]? = some y) (hz : zs[i.toNat]? = some (c, t)) (hc : t < c) (hyc : c ≤ y) : Calls Try.prog 34 #[.agg (rep a n cap m a2 n2 cap2 k), .int .i64 i] w fun e w' => e = .returned (.int .i64 (wn zs i.toNat y m k)) ∧ Below w.heap.size w w' := by
  obtain ⟨b, off, rfl, hb⟩ := Fl.open h (by omega)
  obtain ⟨g, of2, rfl, hgb⟩ := Nu.open h2 (by omega)
  obtain ⟨c', t', hz', d0, d1⟩ := Fl.get h (q := i.toNat) (by omega)
  rw [hz] at hz'
  cases hz'
  obtain ⟨y', hy', dy⟩ := Nu.get h2 (q := i.toNat) (by omega)
  rw [hyi] at hy'
  cases hy'
  have hgd := hg _ (List.mem_of_getElem? hz)
  simp only [good] at hgd
  have hgr := gr_in hg (j := i.toNat) (y := y) (m := m) (by have := h.len; omega) hy.1 (by omega)
  have hsh := share_in hg (j := i.toNat) (n := m) (by have := h.len; omega) (by omega)
  rw [wn_at hz, gr_a hz hc hyc m]
  rw [gr_a hz hc hyc m] at hgr
  have HM : Hid (∀ X, Fl X (some ⟨b, off, none⟩) n zs → Calls Try.prog 30 #[.agg #[.slice (some ⟨b, off, none⟩) n cap, .int .i64 m, .int .i64 i, .int .i64 y]] X fun e w' => e = .returned (.int .i64 (share zs i.toNat m)) ∧ Below X.heap.size X w') := fun X hX => avoid_ (cap := cap) hX hg h8 hm hi y
  have GM : Hid (∀ X, Fl X (some ⟨b, off, none⟩) n zs → Calls Try.prog 39 #[.agg #[.slice (some ⟨b, off, none⟩) n cap, .int .i64 m, .int .i64 i, .int .i64 y]] X fun e w' => e = .returned (.func (.func 30) #[] #[]) ∧ Below X.heap.size X w') := fun X hX => growth_a (cap := cap) hX m hi hz hc hyc
  generalize share zs i.toNat m = SM at *
  have hw : IntKind.i64.wrap (c + SM) = c + SM := by rw [IntKind.wrap_i64]; omega
  have DY : Hid (∀ X, Below w.heap.size w X → X.cell? ⟨g, of2 + i.toNat, none⟩ = some (.int .i64 y)) := fun X hX => keep_cell hX dy
  have DC : Hid (∀ X, Below w.heap.size w X → X.cell? ⟨b, off + i.toNat * 2, none⟩ = some (.int .i64 c)) := fun X hX => keep_cell hX d0
  have H := hidden h
  have O := hidden ((Own.refl w).alloc #[.slice (some ⟨b, off, none⟩) n cap, .int .i64 m, .slice (some ⟨g, of2, none⟩) n2 cap2, .int .i64 k] 57)
  obtain ⟨hi1, hi3⟩ := hi
  have IXR : Hid (∀ {W : World}, (Instr.indexAt 35 (.slice (some ⟨g, of2, none⟩) n2 cap2) (.int .i64 i)).run Try.prog W = .ok (.pointer (some ⟨g, of2 + i.toNat, none⟩)) W) := fun {W} => by simp [go_sem, hi1, hi2]
  clear h h2 hg hz hyi dy d0 d1 hgd hgr hsh hy hm hc hyc
  go_enter Try.func34, Try.ntmps34
  go_upto_region 1 with fail
  refine Ord.wp_region_ex0 (X := Unit) (by kernel_rfl) 34 (fun x => [(some 7, .pointer (some ⟨w.heap.size, 0, none⟩)), (some 8, .agg #[.slice (some ⟨b, off, none⟩) n cap, .int .i64 m]), (some 9, .int .i64 i), (some 10, .pointer (some ⟨w.heap.size, 2, none⟩)), (some 11, .slice (some ⟨g, of2, none⟩) n2 cap2), (some 12, .int .i64 i), (some 13, .pointer (some ⟨g, of2 + i.toNat, none⟩)), (some 14, .int .i64 y), (some 15, .agg #[.slice (some ⟨b, off, none⟩) n cap, .int .i64 m, .int .i64 i, .int .i64 y]), (some 5, .pointer (some ⟨w.heap.size + 1, 0, none⟩)), (none, undef)]) [some 7, some 8, some 9, some 10, some 11, some 12, some 13, some 14, some 15, some 5, none] rfl (fun listed hsz hr => Ord.all_listedC (rank := [0, 1, 2, 3, 4, 5, 6, 7, 8, 9, 10]) (by kernel_rfl) hsz hr) (by rfl) (fun _ => rfl) (by kernel_rfl) (Rg.StM [9, 10] (fun kA _ w' => Own w w' [(w.heap.size, #[.slice (some ⟨b, off, none⟩) n cap, .int .i64 m, .slice (some ⟨g, of2, none⟩) n2 cap2, .int .i64 k], 57)] ∧ (kA = 0 → w'.heap.size = w.heap.size + 1) ∧ (kA = 1 → Own w w' [(w.heap.size + 1, #[.slice none 0 0, .int .i64 0, .int .i64 0, .int .i64 0], 49), (w.heap.size, #[.slice (some ⟨b, off, none⟩) n cap, .int .i64 m, .slice (some ⟨g, of2, none⟩) n2 cap2, .int .i64 k], 57)]) ∧ (kA = 2 → Own w w' [(w.heap.size + 1, #[.slice (some ⟨b, off, none⟩) n cap, .int .i64 m, .int .i64 i, .int .i64 y], 49), (w.heap.size, #[.slice (some ⟨b, off, none⟩) n cap, .int .i64 m, .slice (some ⟨g, of2, none⟩) n2 cap2, .int .i64 k], 57)]))) (fun _ _ _ _ hL h => h.ext (n := 11) (by decide) hL) ?_ ?_ () ?_
  case refine_1 =>
    intro x Lq iq oq ac w' ho hi hcl hdep hF hW
    have f1 : ac.tmps.size = 34 := hF.1
    match iq, ho, hi, hdep with
    | 0, ho, hi, hdep =>
      cases ho
      have da0 : ac.eval (.tmp 2) = .pointer (some ⟨w.heap.size, 0, none⟩) := hF.old 2 rfl
      exact Ord.ex_value x rfl rfl (Rg.fa da0 rfl (by simp [go_sem])) rfl (hW.keep (by decide))
    | 1, ho, hi, hdep =>
      cases ho
      have da0 : ac.eval (.tmp 7) = .pointer (some ⟨w.heap.size, 0, none⟩) := hF.2.2.2 0 7 _ rfl (hdep ⟨0, .data⟩ (by simp) rfl)
      obtain ⟨kq, hlo, hhi, hA⟩ := hW.range 0 1 (.inl rfl) (.inr ⟨10, rfl, (Rg.no_of (fun h => hcl 10 _ rfl (h) ⟨1, .phase⟩ (by simp) rfl) hi)⟩)
      obtain ⟨c0, c1, c2, c3⟩ := cells4 hA.1 (b := w.heap.size) (.head _)
      exact Ord.ex_value x rfl rfl (Rg.load da0 rfl (by simp [go_sem, c0, c1])) rfl (hW.keep (by decide))
    | 2, ho, hi, hdep =>
      cases ho
      have da0 : ac.eval (.tmp 1) = .int .i64 i := hF.old 1 rfl
      exact Ord.ex_value x rfl rfl (Rg.mv da0 rfl) rfl (hW.keep (by decide))
    | 3, ho, hi, hdep =>
      cases ho
      have da0 : ac.eval (.tmp 2) = .pointer (some ⟨w.heap.size, 0, none⟩) := hF.old 2 rfl
      exact Ord.ex_value x rfl rfl (Rg.fa da0 rfl (by simp [go_sem])) rfl (hW.keep (by decide))
    | 4, ho, hi, hdep =>
      cases ho
      have da0 : ac.eval (.tmp 10) = .pointer (some ⟨w.heap.size, 2, none⟩) := hF.2.2.2 3 10 _ rfl (hdep ⟨3, .data⟩ (by simp) rfl)
      obtain ⟨kq, hlo, hhi, hA⟩ := hW.range 0 1 (.inl rfl) (.inr ⟨10, rfl, (Rg.no_of (fun h => hcl 10 _ rfl (h) ⟨4, .phase⟩ (by simp) rfl) hi)⟩)
      obtain ⟨c0, c1, c2, c3⟩ := cells4 hA.1 (b := w.heap.size) (.head _)
      exact Ord.ex_value x rfl rfl (Rg.load da0 rfl (by simp [go_sem, c2])) rfl (hW.keep (by decide))
    | 5, ho, hi, hdep =>
      cases ho
      have da0 : ac.eval (.tmp 1) = .int .i64 i := hF.old 1 rfl
      exact Ord.ex_value x rfl rfl (Rg.mv da0 rfl) rfl (hW.keep (by decide))
    | 6, ho, hi, hdep =>
      cases ho
      have da0 : ac.eval (.tmp 11) = .slice (some ⟨g, of2, none⟩) n2 cap2 := hF.2.2.2 4 11 _ rfl (hdep ⟨4, .data⟩ (by simp) rfl)
      have da1 : ac.eval (.tmp 12) = .int .i64 i := hF.2.2.2 5 12 _ rfl (hdep ⟨5, .data⟩ (by simp) rfl)
      exact Ord.ex_value x rfl rfl (Rg.ix da0 da1 rfl IXR.out) rfl (hW.keep (by decide))
    | 7, ho, hi, hdep =>
      cases ho
      have da0 : ac.eval (.tmp 13) = .pointer (some ⟨g, of2 + i.toNat, none⟩) := hF.2.2.2 6 13 _ rfl (hdep ⟨6, .data⟩ (by simp) rfl)
      obtain ⟨kq, hlo, hhi, hA⟩ := hW.range 0 1 (.inl rfl) (.inr ⟨10, rfl, (Rg.no_of (fun h => hcl 10 _ rfl (h) ⟨7, .phase⟩ (by simp) rfl) hi)⟩)
      have dy := DY.out _ hA.1.below
      exact Ord.ex_value x rfl rfl (Rg.load da0 rfl (by simp [go_sem, dy])) rfl (hW.keep (by decide))
    | 8, ho, hi, hdep =>
      cases ho
      have da0 : ac.eval (.tmp 8) = .agg #[.slice (some ⟨b, off, none⟩) n cap, .int .i64 m] := hF.2.2.2 1 8 _ rfl (hdep ⟨1, .data⟩ (by simp) rfl)
      have da1 : ac.eval (.tmp 9) = .int .i64 i := hF.2.2.2 2 9 _ rfl (hdep ⟨2, .data⟩ (by simp) rfl)
      have da2 : ac.eval (.tmp 14) = .int .i64 y := hF.2.2.2 7 14 _ rfl (hdep ⟨7, .data⟩ (by simp) rfl)
      exact Ord.ex_value x rfl rfl (Rg.bld (ys := #[(0, .agg #[.slice (some ⟨b, off, none⟩) n cap, .int .i64 m]), (1, .int .i64 i), (2, .int .i64 y)]) rfl (by simp [da0, da1, da2]) (by simp [go_sem])) rfl (hW.keep (by decide))
    | 9, ho, hi, hdep =>
      cases ho
      have hA := hW.at (k := 0) rfl hi (.inl rfl)
      have al := alM w'
      rw [hA.2.1 rfl] at al
      exact Ord.ex_value x rfl rfl (Rg.alo rfl al) rfl (hW.next (k := 0) rfl (by decide) hi (.inl rfl) ⟨(hA.1.alloc _ _).sub (by simp), fun h => absurd h (by decide), fun _ => by have q := hA.1.alloc #[.slice none 0 0, .int .i64 0, .int .i64 0, .int .i64 0] 49; rw [hA.2.1 rfl] at q; exact q, fun h => absurd h (by decide)⟩)
    | 10, ho, hi, hdep =>
      cases ho
      have da0 : ac.eval (.tmp 5) = .pointer (some ⟨w.heap.size + 1, 0, none⟩) := hF.2.2.2 9 5 _ rfl (hdep ⟨9, .data⟩ (by simp) rfl)
      have da1 : ac.eval (.tmp 15) = .agg #[.slice (some ⟨b, off, none⟩) n cap, .int .i64 m, .int .i64 i, .int .i64 y] := hF.2.2.2 8 15 _ rfl (hdep ⟨8, .data⟩ (by simp) rfl)
      have hA := hW.at (k := 1) rfl hi (.inr ⟨9, rfl, (hdep ⟨9, .data⟩ (by simp) rfl)⟩)
      have hO := hA.2.2.1 rfl
      have hR := hO.row #[.slice (some ⟨b, off, none⟩) n cap, .int .i64 m, .int .i64 i, .int .i64 y] (by simp)
      exact Rg.ex_skip x rfl rfl (Rg.sto da0 da1 rfl (Ow.store_row (hO.has (.head _)) (by kernel_rfl) rfl (by simp [Value.oneCell']))) rfl (hW.next (k := 1) rfl (by decide) hi (.inr ⟨9, rfl, (hdep ⟨9, .data⟩ (by simp) rfl)⟩) ⟨hR.sub (by simp), fun h => absurd h (by decide), fun h => absurd h (by decide), fun _ => hR⟩)
  case refine_2 =>
    intro x w8 hW
    have hA := hW.last
    have Q8 := hidden (hA.2.2.2 rfl)
    clear hW hA IXR DY O
    obtain ⟨c0, c1, c2, c3⟩ := cells4 Q8.out (b := w.heap.size) (.tail _ (.head _))
    obtain ⟨e0, e1, e2, e3⟩ := cells4 Q8.out (b := w.heap.size + 1) (.head _)
    have dc := DC.out _ Q8.out.below
    have HH : Hid (∀ X : World, Below w8.heap.size w8 X → X.cell? ⟨w.heap.size, 3, none⟩ = some (.int .i64 k) ∧ X.cell? ⟨w.heap.size + 1, 0, none⟩ = some (.slice (some ⟨b, off, none⟩) n cap) ∧ X.cell? ⟨w.heap.size + 1, 1, none⟩ = some (.int .i64 m) ∧ X.cell? ⟨w.heap.size + 1, 2, none⟩ = some (.int .i64 i) ∧ X.cell? ⟨w.heap.size + 1, 3, none⟩ = some (.int .i64 y) ∧ Below w8.heap.size w8 X) := fun X hX =>
      ⟨keep_cell hX c3, keep_cell hX e0, keep_cell hX e1, keep_cell hX e2, keep_cell hX e3, hX⟩
    have GX : Hid (∀ X : World, Below w8.heap.size w8 X → Calls Try.prog 39 #[.agg #[.slice (some ⟨b, off, none⟩) n cap, .int .i64 m, .int .i64 i, .int .i64 y]] X fun e w' => e = .returned (.func (.func 30) #[] #[]) ∧ Below w8.heap.size w8 w') := fun X hX =>
      (GM.out X ((H.out.later Q8.out.below).later hX)).mono (by rintro e w' ⟨rfl, hB⟩; exact ⟨rfl, hX.trans (hB.mono hX.size)⟩)
    have MX : Hid (∀ X : World, Below w8.heap.size w8 X → Calls Try.prog 30 #[.agg #[.slice (some ⟨b, off, none⟩) n cap, .int .i64 m, .int .i64 i, .int .i64 y]] X fun e w' => e = .returned (.int .i64 SM) ∧ Below w8.heap.size w8 w') := fun X hX =>
      (HM.out X ((H.out.later Q8.out.below).later hX)).mono (by rintro e w' ⟨rfl, hB⟩; exact ⟨rfl, hX.trans (hB.mono hX.size)⟩)
    clear GM HM H DC
    simp only [Ord.puts, Ord.prs]
    go_simp
    go_wp2_with fail
    go_region_held3 (fun X => X.cell? ⟨w.heap.size, 3, none⟩ = some (.int .i64 k) ∧ X.cell? ⟨w.heap.size + 1, 0, none⟩ = some (.slice (some ⟨b, off, none⟩) n cap) ∧ X.cell? ⟨w.heap.size + 1, 1, none⟩ = some (.int .i64 m) ∧ X.cell? ⟨w.heap.size + 1, 2, none⟩ = some (.int .i64 i) ∧ X.cell? ⟨w.heap.size + 1, 3, none⟩ = some (.int .i64 y) ∧ Below w8.heap.size w8 X)
      (first | (exact HH.out _ (below_drew (Below.refl _ _))) | (exact HH.out _ (by assumption)) | (trace_state; fail))
      (first
        | (go_at_call 39; refine Calls.mono (GX.out _ ?_) ?_; (first | assumption | exact below_drew (Below.refl _ _)); rintro e X ⟨rfl, hX⟩)
        | (go_at_call 30; refine Calls.mono (MX.out _ ?_) ?_; (first | assumption | exact below_drew (Below.refl _ _)); rintro e Y ⟨rfl, hY⟩))
    go_wp2
    go_ret
    exact ⟨rfl, Q8.out.below.trans (hY.mono Q8.out.below.size)⟩
  case refine_3 => exact Rg.StM.first ⟨O.out.drew, fun _ => by simp, fun h => absurd h (by decide), fun h => absurd h (by decide)⟩
set_option maxHeartbeats 4000000 in
set_option maxRecDepth 20000 in
theorem window_n {w : World} {a a2 : Option Addr} {n cap n2 cap2 : Nat} {zs : List Fw} {ys : List Int} (h : Fl w a n zs) (hg : ∀ z ∈ zs, good z) (h8 : n ≤ 8) {m k : Int} (hm : 1 ≤ m ∧ m ≤ 65536) (h2 : Nu w a2 n2 ys) {i : Int} (hi : 0 ≤ i ∧ i < n) (hi2 : i < n2) {y c t : Int} (hy : 0 ≤ y ∧ y ≤ 1073741824) (hyi : ys[i.toNat]? = some y) (hz : zs[i.toNat]? = some (c, t)) (hc : t < c) (hyc : y < c) : Calls Try.prog 34 #[.agg (rep a n cap m a2 n2 cap2 k), .int .i64 i] w fun e w' => e = .returned (.int .i64 (wn zs i.toNat y m k)) ∧ Below w.heap.size w w' := by
  obtain ⟨b, off, rfl, hb⟩ := Fl.open h (by omega)
  obtain ⟨g, of2, rfl, hgb⟩ := Nu.open h2 (by omega)
  obtain ⟨c', t', hz', d0, d1⟩ := Fl.get h (q := i.toNat) (by omega)
  rw [hz] at hz'
  cases hz'
  obtain ⟨y', hy', dy⟩ := Nu.get h2 (q := i.toNat) (by omega)
  rw [hyi] at hy'
  cases hy'
  have hgd := hg _ (List.mem_of_getElem? hz)
  simp only [good] at hgd
  have hgr := gr_in hg (j := i.toNat) (y := y) (m := m) (by have := h.len; omega) hy.1 (by omega)
  have hsh := share_in hg (j := i.toNat) (n := m) (by have := h.len; omega) (by omega)
  rw [wn_at hz, gr_n hz hc hyc m, Int.add_zero]
  rw [gr_n hz hc hyc m] at hgr
  have HM : Hid (∀ X, Fl X (some ⟨b, off, none⟩) n zs → Calls Try.prog 41 #[.agg #[.slice (some ⟨b, off, none⟩) n cap, .int .i64 m, .int .i64 i, .int .i64 y]] X fun e w' => e = .returned (.int .i64 (0)) ∧ Below X.heap.size X w') := fun X hX => still (a := some ⟨b, off, none⟩) (n := n) (cap := cap) m i y
  have GM : Hid (∀ X, Fl X (some ⟨b, off, none⟩) n zs → Calls Try.prog 39 #[.agg #[.slice (some ⟨b, off, none⟩) n cap, .int .i64 m, .int .i64 i, .int .i64 y]] X fun e w' => e = .returned (.func (.func 41) #[] #[]) ∧ Below X.heap.size X w') := fun X hX => growth_n (cap := cap) hX m hi hz hc hyc
  generalize share zs i.toNat m = SM at *
  have hw : IntKind.i64.wrap c = c := by rw [IntKind.wrap_i64]; omega
  have DY : Hid (∀ X, Below w.heap.size w X → X.cell? ⟨g, of2 + i.toNat, none⟩ = some (.int .i64 y)) := fun X hX => keep_cell hX dy
  have DC : Hid (∀ X, Below w.heap.size w X → X.cell? ⟨b, off + i.toNat * 2, none⟩ = some (.int .i64 c)) := fun X hX => keep_cell hX d0
  have H := hidden h
  have O := hidden ((Own.refl w).alloc #[.slice (some ⟨b, off, none⟩) n cap, .int .i64 m, .slice (some ⟨g, of2, none⟩) n2 cap2, .int .i64 k] 57)
  obtain ⟨hi1, hi3⟩ := hi
  have IXR : Hid (∀ {W : World}, (Instr.indexAt 35 (.slice (some ⟨g, of2, none⟩) n2 cap2) (.int .i64 i)).run Try.prog W = .ok (.pointer (some ⟨g, of2 + i.toNat, none⟩)) W) := fun {W} => by simp [go_sem, hi1, hi2]
  clear h h2 hg hz hyi dy d0 d1 hgd hgr hsh hy hm hc hyc
  go_enter Try.func34, Try.ntmps34
  go_upto_region 1 with fail
  refine Ord.wp_region_ex0 (X := Unit) (by kernel_rfl) 34 (fun x => [(some 7, .pointer (some ⟨w.heap.size, 0, none⟩)), (some 8, .agg #[.slice (some ⟨b, off, none⟩) n cap, .int .i64 m]), (some 9, .int .i64 i), (some 10, .pointer (some ⟨w.heap.size, 2, none⟩)), (some 11, .slice (some ⟨g, of2, none⟩) n2 cap2), (some 12, .int .i64 i), (some 13, .pointer (some ⟨g, of2 + i.toNat, none⟩)), (some 14, .int .i64 y), (some 15, .agg #[.slice (some ⟨b, off, none⟩) n cap, .int .i64 m, .int .i64 i, .int .i64 y]), (some 5, .pointer (some ⟨w.heap.size + 1, 0, none⟩)), (none, undef)]) [some 7, some 8, some 9, some 10, some 11, some 12, some 13, some 14, some 15, some 5, none] rfl (fun listed hsz hr => Ord.all_listedC (rank := [0, 1, 2, 3, 4, 5, 6, 7, 8, 9, 10]) (by kernel_rfl) hsz hr) (by rfl) (fun _ => rfl) (by kernel_rfl) (Rg.StM [9, 10] (fun kA _ w' => Own w w' [(w.heap.size, #[.slice (some ⟨b, off, none⟩) n cap, .int .i64 m, .slice (some ⟨g, of2, none⟩) n2 cap2, .int .i64 k], 57)] ∧ (kA = 0 → w'.heap.size = w.heap.size + 1) ∧ (kA = 1 → Own w w' [(w.heap.size + 1, #[.slice none 0 0, .int .i64 0, .int .i64 0, .int .i64 0], 49), (w.heap.size, #[.slice (some ⟨b, off, none⟩) n cap, .int .i64 m, .slice (some ⟨g, of2, none⟩) n2 cap2, .int .i64 k], 57)]) ∧ (kA = 2 → Own w w' [(w.heap.size + 1, #[.slice (some ⟨b, off, none⟩) n cap, .int .i64 m, .int .i64 i, .int .i64 y], 49), (w.heap.size, #[.slice (some ⟨b, off, none⟩) n cap, .int .i64 m, .slice (some ⟨g, of2, none⟩) n2 cap2, .int .i64 k], 57)]))) (fun _ _ _ _ hL h => h.ext (n := 11) (by decide) hL) ?_ ?_ () ?_
  case refine_1 =>
    intro x Lq iq oq ac w' ho hi hcl hdep hF hW
    have f1 : ac.tmps.size = 34 := hF.1
    match iq, ho, hi, hdep with
    | 0, ho, hi, hdep =>
      cases ho
      have da0 : ac.eval (.tmp 2) = .pointer (some ⟨w.heap.size, 0, none⟩) := hF.old 2 rfl
      exact Ord.ex_value x rfl rfl (Rg.fa da0 rfl (by simp [go_sem])) rfl (hW.keep (by decide))
    | 1, ho, hi, hdep =>
      cases ho
      have da0 : ac.eval (.tmp 7) = .pointer (some ⟨w.heap.size, 0, none⟩) := hF.2.2.2 0 7 _ rfl (hdep ⟨0, .data⟩ (by simp) rfl)
      obtain ⟨kq, hlo, hhi, hA⟩ := hW.range 0 1 (.inl rfl) (.inr ⟨10, rfl, (Rg.no_of (fun h => hcl 10 _ rfl (h) ⟨1, .phase⟩ (by simp) rfl) hi)⟩)
      obtain ⟨c0, c1, c2, c3⟩ := cells4 hA.1 (b := w.heap.size) (.head _)
      exact Ord.ex_value x rfl rfl (Rg.load da0 rfl (by simp [go_sem, c0, c1])) rfl (hW.keep (by decide))
    | 2, ho, hi, hdep =>
      cases ho
      have da0 : ac.eval (.tmp 1) = .int .i64 i := hF.old 1 rfl
      exact Ord.ex_value x rfl rfl (Rg.mv da0 rfl) rfl (hW.keep (by decide))
    | 3, ho, hi, hdep =>
      cases ho
      have da0 : ac.eval (.tmp 2) = .pointer (some ⟨w.heap.size, 0, none⟩) := hF.old 2 rfl
      exact Ord.ex_value x rfl rfl (Rg.fa da0 rfl (by simp [go_sem])) rfl (hW.keep (by decide))
    | 4, ho, hi, hdep =>
      cases ho
      have da0 : ac.eval (.tmp 10) = .pointer (some ⟨w.heap.size, 2, none⟩) := hF.2.2.2 3 10 _ rfl (hdep ⟨3, .data⟩ (by simp) rfl)
      obtain ⟨kq, hlo, hhi, hA⟩ := hW.range 0 1 (.inl rfl) (.inr ⟨10, rfl, (Rg.no_of (fun h => hcl 10 _ rfl (h) ⟨4, .phase⟩ (by simp) rfl) hi)⟩)
      obtain ⟨c0, c1, c2, c3⟩ := cells4 hA.1 (b := w.heap.size) (.head _)
      exact Ord.ex_value x rfl rfl (Rg.load da0 rfl (by simp [go_sem, c2])) rfl (hW.keep (by decide))
    | 5, ho, hi, hdep =>
      cases ho
      have da0 : ac.eval (.tmp 1) = .int .i64 i := hF.old 1 rfl
      exact Ord.ex_value x rfl rfl (Rg.mv da0 rfl) rfl (hW.keep (by decide))
    | 6, ho, hi, hdep =>
      cases ho
      have da0 : ac.eval (.tmp 11) = .slice (some ⟨g, of2, none⟩) n2 cap2 := hF.2.2.2 4 11 _ rfl (hdep ⟨4, .data⟩ (by simp) rfl)
      have da1 : ac.eval (.tmp 12) = .int .i64 i := hF.2.2.2 5 12 _ rfl (hdep ⟨5, .data⟩ (by simp) rfl)
      exact Ord.ex_value x rfl rfl (Rg.ix da0 da1 rfl IXR.out) rfl (hW.keep (by decide))
    | 7, ho, hi, hdep =>
      cases ho
      have da0 : ac.eval (.tmp 13) = .pointer (some ⟨g, of2 + i.toNat, none⟩) := hF.2.2.2 6 13 _ rfl (hdep ⟨6, .data⟩ (by simp) rfl)
      obtain ⟨kq, hlo, hhi, hA⟩ := hW.range 0 1 (.inl rfl) (.inr ⟨10, rfl, (Rg.no_of (fun h => hcl 10 _ rfl (h) ⟨7, .phase⟩ (by simp) rfl) hi)⟩)
      have dy := DY.out _ hA.1.below
      exact Ord.ex_value x rfl rfl (Rg.load da0 rfl (by simp [go_sem, dy])) rfl (hW.keep (by decide))
    | 8, ho, hi, hdep =>
      cases ho
      have da0 : ac.eval (.tmp 8) = .agg #[.slice (some ⟨b, off, none⟩) n cap, .int .i64 m] := hF.2.2.2 1 8 _ rfl (hdep ⟨1, .data⟩ (by simp) rfl)
      have da1 : ac.eval (.tmp 9) = .int .i64 i := hF.2.2.2 2 9 _ rfl (hdep ⟨2, .data⟩ (by simp) rfl)
      have da2 : ac.eval (.tmp 14) = .int .i64 y := hF.2.2.2 7 14 _ rfl (hdep ⟨7, .data⟩ (by simp) rfl)
      exact Ord.ex_value x rfl rfl (Rg.bld (ys := #[(0, .agg #[.slice (some ⟨b, off, none⟩) n cap, .int .i64 m]), (1, .int .i64 i), (2, .int .i64 y)]) rfl (by simp [da0, da1, da2]) (by simp [go_sem])) rfl (hW.keep (by decide))
    | 9, ho, hi, hdep =>
      cases ho
      have hA := hW.at (k := 0) rfl hi (.inl rfl)
      have al := alM w'
      rw [hA.2.1 rfl] at al
      exact Ord.ex_value x rfl rfl (Rg.alo rfl al) rfl (hW.next (k := 0) rfl (by decide) hi (.inl rfl) ⟨(hA.1.alloc _ _).sub (by simp), fun h => absurd h (by decide), fun _ => by have q := hA.1.alloc #[.slice none 0 0, .int .i64 0, .int .i64 0, .int .i64 0] 49; rw [hA.2.1 rfl] at q; exact q, fun h => absurd h (by decide)⟩)
    | 10, ho, hi, hdep =>
      cases ho
      have da0 : ac.eval (.tmp 5) = .pointer (some ⟨w.heap.size + 1, 0, none⟩) := hF.2.2.2 9 5 _ rfl (hdep ⟨9, .data⟩ (by simp) rfl)
      have da1 : ac.eval (.tmp 15) = .agg #[.slice (some ⟨b, off, none⟩) n cap, .int .i64 m, .int .i64 i, .int .i64 y] := hF.2.2.2 8 15 _ rfl (hdep ⟨8, .data⟩ (by simp) rfl)
      have hA := hW.at (k := 1) rfl hi (.inr ⟨9, rfl, (hdep ⟨9, .data⟩ (by simp) rfl)⟩)
      have hO := hA.2.2.1 rfl
      have hR := hO.row #[.slice (some ⟨b, off, none⟩) n cap, .int .i64 m, .int .i64 i, .int .i64 y] (by simp)
      exact Rg.ex_skip x rfl rfl (Rg.sto da0 da1 rfl (Ow.store_row (hO.has (.head _)) (by kernel_rfl) rfl (by simp [Value.oneCell']))) rfl (hW.next (k := 1) rfl (by decide) hi (.inr ⟨9, rfl, (hdep ⟨9, .data⟩ (by simp) rfl)⟩) ⟨hR.sub (by simp), fun h => absurd h (by decide), fun h => absurd h (by decide), fun _ => hR⟩)
  case refine_2 =>
    intro x w8 hW
    have hA := hW.last
    have Q8 := hidden (hA.2.2.2 rfl)
    clear hW hA IXR DY O
    obtain ⟨c0, c1, c2, c3⟩ := cells4 Q8.out (b := w.heap.size) (.tail _ (.head _))
    obtain ⟨e0, e1, e2, e3⟩ := cells4 Q8.out (b := w.heap.size + 1) (.head _)
    have dc := DC.out _ Q8.out.below
    have HH : Hid (∀ X : World, Below w8.heap.size w8 X → X.cell? ⟨w.heap.size, 3, none⟩ = some (.int .i64 k) ∧ X.cell? ⟨w.heap.size + 1, 0, none⟩ = some (.slice (some ⟨b, off, none⟩) n cap) ∧ X.cell? ⟨w.heap.size + 1, 1, none⟩ = some (.int .i64 m) ∧ X.cell? ⟨w.heap.size + 1, 2, none⟩ = some (.int .i64 i) ∧ X.cell? ⟨w.heap.size + 1, 3, none⟩ = some (.int .i64 y) ∧ Below w8.heap.size w8 X) := fun X hX =>
      ⟨keep_cell hX c3, keep_cell hX e0, keep_cell hX e1, keep_cell hX e2, keep_cell hX e3, hX⟩
    have GX : Hid (∀ X : World, Below w8.heap.size w8 X → Calls Try.prog 39 #[.agg #[.slice (some ⟨b, off, none⟩) n cap, .int .i64 m, .int .i64 i, .int .i64 y]] X fun e w' => e = .returned (.func (.func 41) #[] #[]) ∧ Below w8.heap.size w8 w') := fun X hX =>
      (GM.out X ((H.out.later Q8.out.below).later hX)).mono (by rintro e w' ⟨rfl, hB⟩; exact ⟨rfl, hX.trans (hB.mono hX.size)⟩)
    have MX : Hid (∀ X : World, Below w8.heap.size w8 X → Calls Try.prog 41 #[.agg #[.slice (some ⟨b, off, none⟩) n cap, .int .i64 m, .int .i64 i, .int .i64 y]] X fun e w' => e = .returned (.int .i64 0) ∧ Below w8.heap.size w8 w') := fun X hX =>
      (HM.out X ((H.out.later Q8.out.below).later hX)).mono (by rintro e w' ⟨rfl, hB⟩; exact ⟨rfl, hX.trans (hB.mono hX.size)⟩)
    clear GM HM H DC
    simp only [Ord.puts, Ord.prs]
    go_simp
    go_wp2_with fail
    go_region_held3 (fun X => X.cell? ⟨w.heap.size, 3, none⟩ = some (.int .i64 k) ∧ X.cell? ⟨w.heap.size + 1, 0, none⟩ = some (.slice (some ⟨b, off, none⟩) n cap) ∧ X.cell? ⟨w.heap.size + 1, 1, none⟩ = some (.int .i64 m) ∧ X.cell? ⟨w.heap.size + 1, 2, none⟩ = some (.int .i64 i) ∧ X.cell? ⟨w.heap.size + 1, 3, none⟩ = some (.int .i64 y) ∧ Below w8.heap.size w8 X)
      (first | (exact HH.out _ (below_drew (Below.refl _ _))) | (exact HH.out _ (by assumption)) | (trace_state; fail))
      (first
        | (go_at_call 39; refine Calls.mono (GX.out _ ?_) ?_; (first | assumption | exact below_drew (Below.refl _ _)); rintro e X ⟨rfl, hX⟩)
        | (go_at_call 41; refine Calls.mono (MX.out _ ?_) ?_; (first | assumption | exact below_drew (Below.refl _ _)); rintro e Y ⟨rfl, hY⟩))
    go_wp2
    go_ret
    exact ⟨rfl, Q8.out.below.trans (hY.mono Q8.out.below.size)⟩
  case refine_3 => exact Rg.StM.first ⟨O.out.drew, fun _ => by simp, fun h => absurd h (by decide), fun h => absurd h (by decide)⟩
end Go.Proofs.Ytbcdoilfmfckiaa.Co
