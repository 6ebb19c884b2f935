/-
  A queue is made; what it holds, what is freed, how many messages a stream has.
  Conditions: the queue lies in memory, or is nil, or was made by no call.
-/
import Derived.Test.YtfgoamfoddkafaaSqA
namespace Go.Proofs.Ytfgoamfoddkafaa.Sq
open Go.ChangeShapes Go.WideShapes Go.ChangeAt Go.RowKit
open Ba (hidden Has Only cell_lt heap_lt)
open Ow (Own)
set_option linter.unusedVariables false

/-- a new row, with no name for the new world -/
theorem make_wide {P : Program} {t e : TypeId} {z : Value} {size bytes : Nat} (ht : P.underlying t = some (.slice e)) (hinfo : (P.info? e).map (fun i => (i.zero, i.size, i.bytes)) = some (some z, size, bytes)) (c : Nat) (hb : bytes * c ≤ 281474976710656) (h63 : c ≤ 9223372036854775807) :
    ∃ mk : World → World, (∀ w : World, (Instr.makeSlice t (.int .i64 (c : Int)) (.int .i64 (c : Int))).run P w = .ok (.slice (some ⟨w.heap.size, 0, none⟩) c c) (mk w)) ∧ (∀ w : World, Has (mk w) w.heap.size (madeCells z.cells (c * size)) e) ∧ (∀ w : World, Below w.heap.size w (mk w)) ∧ ∀ w : World, (mk w).heap.size = w.heap.size + 1 := by
  obtain ⟨i, hi, hz, rfl, rfl⟩ := info_parts hinfo
  refine ⟨fun w => w.alloc (.cells (madeCells z.cells (c * i.size)) e), fun w => ?_, fun w => Has.new w _ _, fun w => (Below.refl _ w).alloc (Nat.le_refl _) _, fun w => by simp [World.alloc, -World.alloc_eq]⟩
  have h2 : (i.bytes : Int) * (c : Int) ≤ 281474976710656 := by
    have h : ((i.bytes * c : Nat) : Int) ≤ 281474976710656 := by omega
    rwa [Int.natCast_mul] at h
  have := run_make (P := P) w t e i z ht hi hz .i64 .i64 (c : Int) (c : Int) (by omega) (Int.le_refl _) h2 (by omega)
  simp only [Int.toNat_natCast] at this
  exact this
theorem made_at (z : Array Value) {n j : Nat} (h : j < n) : (madeCells z n)[j]? = some (z[j % z.size]!) := by
  unfold madeCells
  rw [Array.getElem?_map, Array.getElem?_range, if_pos h]
  rfl
theorem info_ln : (Try.prog.info? 71).map (fun i => (i.zero, i.size, i.bytes)) = some (some (.agg #[.slice none 0 0, .int .u16 0]), 2, 32) := by kernel_rfl
theorem lane_made {w : World} {b p : Nat} {cs : Array Value} (h : Has w b (madeCells cs (p * 2)) 71) (hcs : cs = #[.slice none 0 0, .int .u16 0]) : Ln w b p (fun _ => .slice none 0 0) (fun _ => 0) := by
  subst hcs
  refine ⟨_, h, fun i hi => ⟨?_, ?_⟩⟩
  · rw [made_at _ (by omega)]
    show some (_[(i * 2) % 2]!) = _
    rw [show (i * 2) % 2 = 0 by omega]
    rfl
  · rw [made_at _ (by omega)]
    show some (_[(i * 2 + 1) % 2]!) = _
    rw [show (i * 2 + 1) % 2 = 1 by omega]
    rfl
theorem new_no (n lim : Int) (h : ¬ (1 ≤ n ∧ n ≤ 1024 ∧ 1 ≤ lim ∧ lim ≤ 1073741824)) (w : World) : Calls Try.prog 9 #[.int .i64 n, .int .i64 lim] w fun e w' => e = .returned (.tuple #[.pointer none, .int .i64 1]) ∧ w = w' := by
  by_cases h1 : n < 1
  · clear h
    go_enter Try.func9, Try.ntmps9
    go_wp2
    go_ret2
    exact ⟨rfl, rfl⟩
  · by_cases h2 : 1024 < n
    · clear h
      go_enter Try.func9, Try.ntmps9
      go_wp2
      go_ret2
      exact ⟨rfl, rfl⟩
    · by_cases h3 : lim < 1
      · clear h
        go_enter Try.func9, Try.ntmps9
        go_wp2
        go_ret2
        exact ⟨rfl, rfl⟩
      · have h4 : 1073741824 < lim := by omega
        clear h
        go_enter Try.func9, Try.ntmps9
        go_wp2
        go_ret2
        exact ⟨rfl, rfl⟩
theorem new (D : Nat → Prop) (n lim : Int) (h1 : 1 ≤ n) (h2 : n ≤ 1024) (h3 : 1 ≤ lim) (h4 : lim ≤ 1073741824) (w : World) :
    Calls Try.prog 9 #[.int .i64 n, .int .i64 lim] w fun e w' => ∃ t, e = .returned (.tuple #[.pointer (some ⟨t, 0, none⟩), .int .i64 0]) ∧ (∃ F, Cd D w' t (newS n.toNat lim) F ∧ ∀ k, F k → w.heap.size ≤ k) ∧ Below w.heap.size w w' := by
  obtain ⟨mk, k1, k2, k3, k4⟩ := make_wide (P := Try.prog) Try.underlying55 info_ln n.toNat (by omega) (by omega)
  have hn : ((n.toNat : Nat) : Int) = n := Int.toNat_of_nonneg (by omega)
  rw [hn] at k1
  have hw : IntKind.i64.wrap (n - 1) = n - 1 := by rw [IntKind.wrap_i64]; omega
  have H2 := hidden k2
  have H3 := hidden k3
  have H4 := hidden k4
  have HN := hidden hn
  clear k2 k3 k4 hn
  go_enter Try.func9, Try.ntmps9
  go_wp2
  go_ret2
  have hl := H2.out w
  have hs := H4.out w
  have e1 : n - 1 = ((n.toNat - 1 : Nat) : Int) := by have := HN.out; omega
  rw [e1]
  have hN := Has.new (mk w) #[.slice (some ⟨w.heap.size, 0, none⟩) n.toNat n.toNat, .int .i64 ((n.toNat - 1 : Nat) : Int), .bool false, .int .i64 lim, .int .i64 0, .int .i64 0] 57
  have hB : Below (mk w).heap.size (mk w) ((mk w).alloc (.cells #[.slice (some ⟨w.heap.size, 0, none⟩) n.toNat n.toNat, .int .i64 ((n.toNat - 1 : Nat) : Int), .bool false, .int .i64 lim, .int .i64 0, .int .i64 0] 57)) := (Below.refl _ _).alloc (Nat.le_refl _) _
  refine ⟨_, rfl, ⟨FC (mk w).heap.size w.heap.size n.toNat (fun _ => .slice none 0 0), ⟨Good.new (by omega) (by omega) h3 h4, w.heap.size, fun _ => .slice none 0 0, fun _ => [], ⟨hN, lane_made (hl.later hB) rfl, fun i hi => .inl ⟨rfl, rfl⟩, fun i hi => rfl, (fun i p hi hp => by cases hp), (fun i j k hi hj hk => by cases hk)⟩, fun k => Iff.rfl⟩, fun k hk => ?_⟩, (H3.out w).trans (hB.mono (by omega))⟩
  rcases hk with rfl | rfl | ⟨i, hi, hk⟩
  · omega
  · omega
  · cases hk
section
variable {D F : Nat → Prop} {w w' : World} {t b : Nat} {vs : Nat → Value} {P : Nat → List RV} {S : St}
theorem unmade (h : No D w t b vs P S) : Calls Try.prog 28 #[.pointer (some ⟨t, 0, none⟩)] w fun e w' => e = .returned (.bool false) ∧ w = w' := by
  have c0 := h.q.cell 0 rfl
  have hN := fun w => Lib.run_eql_slice_nil (P := Try.prog) w 55 71 (some ⟨b, 0, none⟩) S.n S.n 0 0 Try.underlying55
  clear h
  go_enter Try.func28, Try.ntmps28
  go_wp2
  go_ret
  exact ⟨rfl, rfl⟩
/-- no queue -/
def Un (w : World) (p : Option Addr) : Prop := p = none ∨ ∃ t, p = some ⟨t, 0, none⟩ ∧ w.cell? ⟨t, 0, none⟩ = some (.slice none 0 0)
theorem unmade_no {p : Option Addr} (h : Un w p) : Calls Try.prog 28 #[.pointer p] w fun e w' => e = .returned (.bool true) ∧ w = w' := by
  rcases h with rfl | ⟨t, rfl, c0⟩
  · go_enter Try.func28, Try.ntmps28
    go_wp2
    go_ret
    exact ⟨rfl, rfl⟩
  · have hN := fun w => Lib.run_eql_slice_nil (P := Try.prog) w 55 71 none 0 0 0 0 Try.underlying55
    go_enter Try.func28, Try.ntmps28
    go_wp2
    go_ret
    exact ⟨rfl, rfl⟩
theorem has (h : No D w t b vs P S) (s : Int) (hs : 0 ≤ s ∧ s < 65536) : Calls Try.prog 29 #[.pointer (some ⟨t, 0, none⟩), .int .u16 s] w fun e w' => e = .returned (.bool (decide (s < (S.n : Int)))) ∧ w = w' := by
  have c0 := h.q.cell 0 rfl
  obtain ⟨hs0, hs1⟩ := hs
  clear h
  have hw : IntKind.i64.wrap s = s := by rw [IntKind.wrap_i64]; omega
  go_enter Try.func29, Try.ntmps29
  go_wp2
  go_ret
  exact ⟨rfl, rfl⟩
theorem waiting (h : No D w t b vs P S) : Calls Try.prog 15 #[.pointer (some ⟨t, 0, none⟩)] w fun e w' => e = .returned (.int .i64 S.wt) ∧ w = w' := by
  have U := hidden (unmade h)
  have c4 := h.q.cell 4 rfl
  clear h
  go_enter Try.func15, Try.ntmps15
  go_wp2_with fail
  refine Calls.mono U.out ?_
  rintro e w' ⟨rfl, rfl⟩
  go_wp2
  go_ret
  exact ⟨rfl, rfl⟩
theorem waiting_no {p : Option Addr} (h : Un w p) : Calls Try.prog 15 #[.pointer p] w fun e w' => e = .returned (.int .i64 0) ∧ w = w' := by
  have U := hidden (unmade_no h)
  clear h
  go_enter Try.func15, Try.ntmps15
  go_wp2_with fail
  refine Calls.mono U.out ?_
  rintro e w' ⟨rfl, rfl⟩
  go_wp2
  go_ret
  exact ⟨rfl, rfl⟩
theorem taken (h : No D w t b vs P S) : Calls Try.prog 19 #[.pointer (some ⟨t, 0, none⟩)] w fun e w' => e = .returned (.int .i64 S.tk) ∧ w = w' := by
  have U := hidden (unmade h)
  have c5 := h.q.cell 5 rfl
  clear h
  go_enter Try.func19, Try.ntmps19
  go_wp2_with fail
  refine Calls.mono U.out ?_
  rintro e w' ⟨rfl, rfl⟩
  go_wp2
  go_ret
  exact ⟨rfl, rfl⟩
theorem taken_no {p : Option Addr} (h : Un w p) : Calls Try.prog 19 #[.pointer p] w fun e w' => e = .returned (.int .i64 0) ∧ w = w' := by
  have U := hidden (unmade_no h)
  clear h
  go_enter Try.func19, Try.ntmps19
  go_wp2_with fail
  refine Calls.mono U.out ?_
  rintro e w' ⟨rfl, rfl⟩
  go_wp2
  go_ret
  exact ⟨rfl, rfl⟩
theorem held (h : No D w t b vs P S) (hg : Good S) : Calls Try.prog 16 #[.pointer (some ⟨t, 0, none⟩)] w fun e w' => e = .returned (.int .i64 (S.wt + S.tk)) ∧ w = w' := by
  have W := hidden (waiting h)
  have T := hidden (taken h)
  have b1 := hg.h
  have b2 := hg.w1
  have b3 := hg.t0
  have b4 := hg.l2
  have hw : IntKind.i64.wrap (S.wt + S.tk) = S.wt + S.tk := by rw [IntKind.wrap_i64]; omega
  clear h hg
  go_enter Try.func16, Try.ntmps16
  go_wp2_with fail
  refine Calls.mono W.out ?_
  rintro e w' ⟨rfl, rfl⟩
  go_wp2_with fail
  refine Calls.mono T.out ?_
  rintro e w' ⟨rfl, rfl⟩
  go_wp2
  go_ret
  exact ⟨rfl, rfl⟩
theorem held_no {p : Option Addr} (h : Un w p) : Calls Try.prog 16 #[.pointer p] w fun e w' => e = .returned (.int .i64 0) ∧ w = w' := by
  have W := hidden (waiting_no h)
  have T := hidden (taken_no h)
  clear h
  go_enter Try.func16, Try.ntmps16
  go_wp2_with fail
  refine Calls.mono W.out ?_
  rintro e w' ⟨rfl, rfl⟩
  go_wp2_with fail
  refine Calls.mono T.out ?_
  rintro e w' ⟨rfl, rfl⟩
  go_wp2
  go_ret
  exact ⟨rfl, rfl⟩
theorem free_no {p : Option Addr} (h : Un w p) (n : Int) : Calls Try.prog 18 #[.pointer p, .int .i64 n] w fun e w' => e = .returned (.int .i64 4) ∧ w = w' := by
  have U := hidden (unmade_no h)
  clear h
  go_enter Try.func18, Try.ntmps18
  go_wp2_with fail
  refine Calls.mono U.out ?_
  rintro e w' ⟨rfl, rfl⟩
  go_wp2
  go_ret
  exact ⟨rfl, rfl⟩
theorem free_bad (h : No D w t b vs P S) {n : Int} (hn : n < 0 ∨ S.tk < n) : Calls Try.prog 18 #[.pointer (some ⟨t, 0, none⟩), .int .i64 n] w fun e w' => e = .returned (.int .i64 5) ∧ w = w' := by
  have U := hidden (unmade h)
  have c5 := h.q.cell 5 rfl
  clear h
  by_cases h1 : n < 0
  · clear hn
    go_enter Try.func18, Try.ntmps18
    go_wp2_with fail
    refine Calls.mono U.out ?_
    rintro e w' ⟨rfl, rfl⟩
    go_wp2
    go_ret
    exact ⟨rfl, rfl⟩
  · have h2 : S.tk < n := hn.resolve_left h1
    clear hn
    go_enter Try.func18, Try.ntmps18
    go_wp2_with fail
    refine Calls.mono U.out ?_
    rintro e w' ⟨rfl, rfl⟩
    go_wp2
    go_ret
    exact ⟨rfl, rfl⟩
theorem free_ok (h : No D w t b vs P S) (hg : Good S) {n : Int} (h1 : ¬ n < 0) (h2 : ¬ S.tk < n) : Calls Try.prog 18 #[.pointer (some ⟨t, 0, none⟩), .int .i64 n] w fun e w' => e = .returned (.int .i64 0) ∧ w.setCell ⟨t, 5, none⟩ (.int .i64 (S.tk - n)) = w' := by
  have U := hidden (unmade h)
  have c5 := h.q.cell 5 rfl
  have f5 := h.q.frozen 5
  have b1 := hg.h
  have b2 := hg.w1
  have b4 := hg.l2
  have hw : IntKind.i64.wrap (S.tk - n) = S.tk - n := by rw [IntKind.wrap_i64]; omega
  clear h hg
  go_enter Try.func18, Try.ntmps18
  go_wp2_with fail
  refine Calls.mono U.out ?_
  rintro e w' ⟨rfl, rfl⟩
  go_wp2
  go_ret
  exact ⟨rfl, rfl⟩
end
/-- Free, whatever is freed -/
theorem freeX {D F : Nat → Prop} {w : World} {t : Nat} {S : St} (h : Cd D w t S F) (n : Int) : Calls Try.prog 18 #[.pointer (some ⟨t, 0, none⟩), .int .i64 n] w fun e w' => e = .returned (.int .i64 (freeE S n)) ∧ Cd D w' t (if freeE S n = 0 then freeS S n else S) F ∧ Mod F w w' := by
  have h0 := h
  obtain ⟨hg, b, vs, P, hN, hF⟩ := h
  unfold freeE
  by_cases hb : n < 0 ∨ S.tk < n
  · rw [if_pos hb]
    refine (free_bad hN hb).mono ?_
    rintro e w' ⟨rfl, rfl⟩
    exact ⟨rfl, by rw [if_neg (by decide)]; exact h0, Mod.refl _ _⟩
  · rw [if_neg hb]
    refine (free_ok hN hg (fun h => hb (.inl h)) (fun h => hb (.inr h))).mono ?_
    rintro e w' ⟨rfl, rfl⟩
    refine ⟨rfl, ?_, Mod.setCell w (p := ⟨t, 5, none⟩) ((hF t).2 (.inl rfl)) _⟩
    rw [if_pos rfl]
    exact ⟨hg.free (by omega) (by omega), b, vs, P, hN.setQ rfl, hF⟩
theorem waitingX {D F : Nat → Prop} {w : World} {t : Nat} {S : St} (h : Cd D w t S F) : Calls Try.prog 15 #[.pointer (some ⟨t, 0, none⟩)] w fun e w' => e = .returned (.int .i64 S.wt) ∧ w = w' := by
  obtain ⟨hg, b, vs, P, hN, hF⟩ := h
  exact waiting hN
theorem takenX {D F : Nat → Prop} {w : World} {t : Nat} {S : St} (h : Cd D w t S F) : Calls Try.prog 19 #[.pointer (some ⟨t, 0, none⟩)] w fun e w' => e = .returned (.int .i64 S.tk) ∧ w = w' := by
  obtain ⟨hg, b, vs, P, hN, hF⟩ := h
  exact taken hN
theorem heldX {D F : Nat → Prop} {w : World} {t : Nat} {S : St} (h : Cd D w t S F) : Calls Try.prog 16 #[.pointer (some ⟨t, 0, none⟩)] w fun e w' => e = .returned (.int .i64 (S.wt + S.tk)) ∧ w = w' := by
  obtain ⟨hg, b, vs, P, hN, hF⟩ := h
  exact held hN hg
/-- how many messages a stream has -/
def cntS (S : St) (s : Int) : Int := if s < (S.n : Int) then ((S.R s.toNat).length : Int) else 0
theorem countX {D F : Nat → Prop} {w : World} {t : Nat} {S : St} (h : Cd D w t S F) (s : Int) (hs : 0 ≤ s ∧ s < 65536) : Calls Try.prog 20 #[.pointer (some ⟨t, 0, none⟩), .int .u16 s] w fun e w' => e = .returned (.int .i64 (cntS S s)) ∧ w = w' := by
  obtain ⟨hg, b, vs, P, hN, hF⟩ := h
  have U := hidden (unmade hN)
  have H := hidden (has hN s hs)
  obtain ⟨hs0, hs1⟩ := hs
  unfold cntS
  by_cases hl : s < (S.n : Int)
  · rw [if_pos hl]
    have c0 := hN.q.cell 0 rfl
    obtain ⟨i, rfl⟩ : ∃ i : Nat, s = i := ⟨s.toNat, by omega⟩
    rw [Int.toNat_natCast]
    have hi : i < S.n := by omega
    obtain ⟨cs, hc, hlc⟩ := hN.ln
    have cv := hc.cell (i * 2) (hlc i hi).1
    obtain ⟨a, cap, hv⟩ := (hN.rw_ i hi).slice
    have hlen : (P i).length = (S.R i).length := by rw [← hN.pr i hi]; simp
    rw [hlen] at hv
    rw [hv] at cv
    generalize (S.R i).length = m at *
    have hd : decide ((i : Int) < (S.n : Int)) = true := decide_eq_true hl
    rw [hd] at H
    obtain ⟨iI, hiI⟩ : ∃ iI : Int, iI = i := ⟨_, rfl⟩
    rw [← hiI] at H hs0 hs1 hl ⊢
    have hix : iI.toNat = i := by omega
    have cv' : w.cell? ⟨b, iI.toNat * 2, none⟩ = some (.slice a m cap) := by rw [hix]; exact cv
    clear cv hv hlen hc hlc hN hg hF hd hiI hix
    go_enter Try.func20, Try.ntmps20
    go_wp2_with fail
    refine Calls.mono U.out ?_
    rintro e w' ⟨rfl, rfl⟩
    go_wp2_with fail
    refine Calls.mono H.out ?_
    rintro e w' ⟨rfl, rfl⟩
    go_wp2
    go_ret
    exact ⟨rfl, rfl⟩
  · rw [if_neg hl]
    have hd : decide (s < (S.n : Int)) = false := decide_eq_false hl
    rw [hd] at H
    clear hN hg hF hd
    go_enter Try.func20, Try.ntmps20
    go_wp2_with fail
    refine Calls.mono U.out ?_
    rintro e w' ⟨rfl, rfl⟩
    go_wp2_with fail
    refine Calls.mono H.out ?_
    rintro e w' ⟨rfl, rfl⟩
    go_wp2
    go_ret
    exact ⟨rfl, rfl⟩
theorem count_no {w : World} {p : Option Addr} (h : Un w p) (s : Int) : Calls Try.prog 20 #[.pointer p, .int .u16 s] w fun e w' => e = .returned (.int .i64 0) ∧ w = w' := by
  have U := hidden (unmade_no h)
  clear h
  go_enter Try.func20, Try.ntmps20
  go_wp2_with fail
  refine Calls.mono U.out ?_
  rintro e w' ⟨rfl, rfl⟩
  go_wp2
  go_ret
  exact ⟨rfl, rfl⟩
end Go.Proofs.Ytfgoamfoddkafaa.Sq
