/-
  A network is made; what became of packets, which are on their way.
  Conditions: the network lies in memory.
-/
import Derived.Test.YtmogacccffkkbaaNtB
namespace Go.Proofs.Ytmogacccffkkbaa.Nt
open Go.ChangeShapes Go.WideShapes Go.ChangeAt Go.RowKit
open Ba (hidden Only In Has own_ne own_stay own_len own_some own_mono cell_lt heap_lt)
set_option linter.unusedVariables false
/-- a new row, with no name for the new world -/
theorem make_wide {P : Program} {t e : TypeId} {z : Value} {size bytes : Nat} (ht : P.underlying t = some (.slice e)) (hinfo : (P.info? e).map (fun i => (i.zero, i.size, i.bytes)) = some (some z, size, bytes)) (c : Nat) (hb : bytes * c ≤ 281474976710656) (h63 : c ≤ 9223372036854775807) :
    ∃ mk : World → World, (∀ w : World, (Instr.makeSlice t (.int .i64 (c : Int)) (.int .i64 (c : Int))).run P w = .ok (.slice (some ⟨w.heap.size, 0, none⟩) c c) (mk w)) ∧ (∀ w : World, Has (mk w) w.heap.size (madeCells z.cells (c * size)) e) ∧ (∀ w : World, Below w.heap.size w (mk w)) ∧ ∀ w : World, (mk w).heap.size = w.heap.size + 1 := by
  obtain ⟨i, hi, hz, rfl, rfl⟩ := info_parts hinfo
  refine ⟨fun w => w.alloc (.cells (madeCells z.cells (c * i.size)) e), fun w => ?_, fun w => Has.new w _ _, fun w => (Below.refl _ w).alloc (Nat.le_refl _) _, fun w => by simp [World.alloc, -World.alloc_eq]⟩
  have h2 : (i.bytes : Int) * (c : Int) ≤ 281474976710656 := by
    have h : ((i.bytes * c : Nat) : Int) ≤ 281474976710656 := by omega
    rwa [Int.natCast_mul] at h
  have := run_make (P := P) w t e i z ht hi hz .i64 .i64 (c : Int) (c : Int) (by omega) (Int.le_refl _) h2 (by omega)
  simp only [Int.toNat_natCast] at this
  exact this
theorem made_at (z : Array Value) {n j : Nat} (h : j < n) : (madeCells z n)[j]? = some (z[j % z.size]!) := by
  unfold madeCells
  rw [Array.getElem?_map, Array.getElem?_range, if_pos h]
  rfl
theorem info_lane : (Try.prog.info? 101).map (fun i => (i.zero, i.size, i.bytes)) = some (some (.agg #[.int .i64 0, .int .i64 0, .int .i64 0, .int .i64 0, .slice none 0 0, .int .i64 0, .int .i64 0, .int .i64 0, .int .i64 0, .slice none 0 0, .bool false]), 11, 120) := by kernel_rfl
theorem info_fl : (Try.prog.info? 51).map (fun i => (i.zero, i.size, i.bytes)) = some (some (.agg #[.int .i64 0, .int .i64 0, .int .i64 0, .bool false]), 4, 32) := by kernel_rfl
theorem lane_made {w : World} {b p : Nat} {cs : Array Value} (h : Has w b (madeCells cs (p * 11)) 101) (hcs : cs = #[.int .i64 0, .int .i64 0, .int .i64 0, .int .i64 0, .slice none 0 0, .int .i64 0, .int .i64 0, .int .i64 0, .int .i64 0, .slice none 0 0, .bool false]) : Ln w b p (fun _ _ => ⟨0, 0, 0, 0⟩) (fun _ _ => .slice none 0 0) (fun _ => false) := by
  subst hcs
  refine ⟨_, h, fun i e k hi he hk => ?_, fun i hi => ?_⟩
  · rw [made_at _ (by omega)]
    have e1 : (i * 11 + e * 5 + k) % 11 = e * 5 + k := by omega
    show some (_[(i * 11 + e * 5 + k) % 11]!) = _
    rw [e1]
    rcases (show e = 0 ∨ e = 1 by omega) with rfl | rfl
    · rcases (show k = 0 ∨ k = 1 ∨ k = 2 ∨ k = 3 ∨ k = 4 by omega) with rfl | rfl | rfl | rfl | rfl <;> rfl
    · rcases (show k = 0 ∨ k = 1 ∨ k = 2 ∨ k = 3 ∨ k = 4 by omega) with rfl | rfl | rfl | rfl | rfl <;> rfl
  · rw [made_at _ (by omega)]
    have e1 : (i * 11 + 10) % 11 = 10 := by omega
    show some (_[(i * 11 + 10) % 11]!) = _
    rw [e1]
    rfl
section
variable {base : Nat} {w w' w1 : World} {t b : Nat} {vs : Nat → Nat → Value} {S : St} {i e : Nat}
theorem new_no (p : Int) (hp : ¬ (1 ≤ p ∧ p ≤ 8)) (w : World) : Calls Try.prog 7 #[.int .i64 p] w fun e w' => e = .returned (.tuple #[.pointer none, .int .i64 1]) ∧ w = w' := by
  by_cases h : p < 1
  · go_enter Try.func7, Try.ntmps7
    go_wp2
    go_ret2
    exact ⟨rfl, rfl⟩
  · have h2 : 8 < p := by omega
    go_enter Try.func7, Try.ntmps7
    go_wp2
    go_ret2
    exact ⟨rfl, rfl⟩
theorem new (p : Nat) (hp : 1 ≤ p ∧ p ≤ 8) (w : World) : Calls Try.prog 7 #[.int .i64 p] w fun e w' => ∃ t b, e = .returned (.tuple #[.pointer (some ⟨t, 0, none⟩), .int .i64 0]) ∧ No w.heap.size w' t b (fun _ _ => .slice none 0 0) (fresh p) ∧ Below w.heap.size w w' := by
  obtain ⟨mk, h1, h2, h3, h4⟩ := make_wide (P := Try.prog) Try.underlying55 info_lane p (by omega) (by omega)
  have H2 := hidden h2
  have H3 := hidden h3
  have H4 := hidden h4
  clear h2 h3 h4
  go_enter Try.func7, Try.ntmps7
  go_wp2
  go_ret2
  have hl := H2.out w
  have hs := H4.out w
  have hN := Has.new (mk w) #[.slice (some ⟨w.heap.size, 0, none⟩) p p, .int .i64 0] 57
  have hB : Below (mk w).heap.size (mk w) ((mk w).alloc (.cells #[.slice (some ⟨w.heap.size, 0, none⟩) p p, .int .i64 0] 57)) := (Below.refl _ _).alloc (Nat.le_refl _) _
  refine ⟨_, w.heap.size, rfl, ⟨by omega, by omega, hN, lane_made (hl.later hB) rfl, fun i e => World.ownsRow_nil _ _ _ _, fun i e i' e' k hk => by cases hk⟩, (H3.out w).trans (hB.mono (by omega))⟩
theorem traffic_no (h : No base w t b vs S) {en path : Int} (hp : ok S en path = false) (hS : S.p ≤ 8) : Calls Try.prog 13 #[.pointer (some ⟨t, 0, none⟩), .int .i64 en, .int .i64 path] w fun e w' => e = .returned (.tuple #[tv zT, .int .i64 90]) ∧ Below w.heap.size w w' := by
  have hB : Below w.heap.size w (w.alloc (.cells #[.int .i64 0, .int .i64 0, .int .i64 0, .int .i64 0] 45)) := (Below.refl _ w).alloc (Nat.le_refl _) _
  have LA := hidden (row_no (h.later hB) hp hS)
  clear h hp
  go_enter Try.func13, Try.ntmps13
  go_wp2_with fail
  refine Calls.mono LA.out ?_
  rintro e w' ⟨rfl, rfl⟩
  go_wp2
  refine bodyPost_ret (v := .tuple #[tv zT, .int .i64 90]) (by rw [results_cell_tmp rfl]; go_simp; rfl) rfl ⟨rfl, hB⟩
theorem At.of {S : St} {en path : Int} (h : ok S en path = true) : At S path.toNat en.toNat (path.toNat * 11 + en.toNat * 5) := by
  have := ok_iff.1 h
  exact ⟨by omega, by omega, rfl⟩
theorem traffic_ok (h : No base w t b vs S) {en path : Int} (hp : ok S en path = true) (hS : S.p ≤ 8) : Calls Try.prog 13 #[.pointer (some ⟨t, 0, none⟩), .int .i64 en, .int .i64 path] w fun e w' => e = .returned (.tuple #[tv (S.R path.toNat en.toNat).T, .int .i64 0]) ∧ Below w.heap.size w w' := by
  have hB : Below w.heap.size w (w.alloc (.cells #[.int .i64 0, .int .i64 0, .int .i64 0, .int .i64 0] 45)) := (Below.refl _ w).alloc (Nat.le_refl _) _
  have h' := h.later hB
  have LA := hidden (row_ok h' hp hS)
  have ha := At.of hp
  have c0 := h.ln.cell ha.li ha.le 0 rfl
  have c1 := h.ln.cell ha.li ha.le 1 rfl
  have c2 := h.ln.cell ha.li ha.le 2 rfl
  have c3 := h.ln.cell ha.li ha.le 3 rfl
  have hlt : b < w.heap.size := by obtain ⟨cs, hc⟩ := h.ln.has; exact hc.lt
  rw [Nat.add_zero] at c0
  clear h hp h'
  generalize (S.R path.toNat en.toNat).T = T at c0 c1 c2 c3 ⊢
  generalize path.toNat * 11 + en.toNat * 5 = o at LA c0 c1 c2 c3 ha
  go_enter Try.func13, Try.ntmps13
  go_wp2_with fail
  refine Calls.mono LA.out ?_
  rintro e w' ⟨rfl, rfl⟩
  go_wp2
  refine bodyPost_ret (v := .tuple #[tv T, .int .i64 0]) (by rw [results_cell_tmp rfl]; go_simp; rfl) rfl ⟨rfl, ?_⟩
  exact (Below.refl _ w).alloc (Nat.le_refl _) _
end
end Go.Proofs.Ytmogacccffkkbaa.Nt
