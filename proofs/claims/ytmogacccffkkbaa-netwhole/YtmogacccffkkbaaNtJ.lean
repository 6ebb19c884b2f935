/-
  An i-th packet is looked for, and something is done with it: Deliver, Drop.
  Conditions: the network lies in memory.
-/
import Derived.Test.YtmogacccffkkbaaNtI
namespace Go.Proofs.Ytmogacccffkkbaa.Nt
open Go.ChangeShapes Go.WideShapes Go.ChangeAt Go.RowKit
open Ba (hidden Only In Has own_ne own_stay own_len own_some own_mono cell_lt heap_lt)
set_option linter.unusedVariables false
def zv : Value := .agg #[.int .i64 0, .int .i64 0, .int .i64 0, .bool false, .string ByteArray.empty]
def sv (en path j at_ bits : Int) : Value := .agg #[.int .i64 en, .int .i64 path, .int .i64 j, .int .i64 at_, .int .u8 bits]
theorem res_zero {fn : Func} {p u : Tmp} (h : fn.results = #[.cell p 88, .tmp u]) (tmps : Array Value) {w : World} {g : Nat} (hp : tmps.getD p undef = .pointer (some ⟨g, 0, none⟩)) (hg : Has w g #[.int .i64 0, .int .i64 0, .int .i64 0, .bool false, .string ByteArray.empty] 88) : (results fn tmps).run Try.prog w = .ok (.tuple #[zv, tmps.getD u undef]) w := by
  rw [results_cell_tmp h, hp]
  simp [asAddr, run_loadVar_row w g 88 88 _ (0, 0) _ hg Try.underlying88 rfl (by kernel_rfl), zv]
section
variable {base : Nat} {w w' w1 : World} {t b : Nat} {vs : Nat → Nat → Value} {S : St} {i e : Nat}
/-- the spot and the answer's place -/
def spotW (w : World) (en path j at_ bits : Int) : World := (w.alloc (.cells #[.int .i64 en, .int .i64 path, .int .i64 j, .int .i64 at_, .int .u8 bits] 92)).alloc (.cells #[.int .i64 0, .int .i64 0, .int .i64 0, .bool false, .string ByteArray.empty] 88)
theorem spotW_below (w : World) (en path j at_ bits : Int) : Below w.heap.size w (spotW w en path j at_ bits) := ((Below.refl _ _).alloc (Nat.le_refl _) _).alloc (by simp) _
theorem spotW_res (w : World) (en path j at_ bits : Int) : Has (spotW w en path j at_ bits) (w.heap.size + 1) #[.int .i64 0, .int .i64 0, .int .i64 0, .bool false, .string ByteArray.empty] 88 := by
  have := Has.new (w.alloc (.cells #[.int .i64 en, .int .i64 path, .int .i64 j, .int .i64 at_, .int .u8 bits] 92)) #[.int .i64 0, .int .i64 0, .int .i64 0, .bool false, .string ByteArray.empty] 88
  unfold spotW
  simpa using this
set_option maxHeartbeats 2000000 in
theorem treat_no_deliver (h : No base w t b vs S) (hI : Inv S) (hn : S.next ≤ 1000) {en path j at_ bits : Int} (hE : trE S en path j ≠ 0) :
    Calls Try.prog 38 #[.pointer (some ⟨t, 0, none⟩), sv en path j at_ bits, .func (.func 39) #[] #[]] w fun e' w' => e' = .returned (.tuple #[zv, .int .i64 (trE S en path j)]) ∧ Below w.heap.size w w' := by
  have hB := spotW_below w en path j at_ bits
  have hR := spotW_res w en path j at_ bits
  have h1 := h.later hB
  unfold sv
  cases hp : ok S en path with
  | false =>
    rw [show trE S en path j = 90 by unfold trE; rw [hp]; rfl]
    have LA := hidden (row_no h1 hp hI.p)
    unfold spotW at LA hB hR
    have HB := hidden hB
    have HR := hidden hR
    clear h h1 hp hE hB hR
    go_enter Try.func38, Try.ntmps38
    go_wp2_with fail
    refine Calls.mono LA.out ?_
    rintro e w' ⟨rfl, rfl⟩
    go_wp2
    exact bodyPost_ret (v := .tuple #[zv, .int .i64 90]) (by exact res_zero (p := 6) (u := 7) rfl _ rfl HR.out) rfl ⟨rfl, HB.out⟩
  | true =>
    have hd : decide (0 ≤ j ∧ j < ((S.R path.toNat en.toNat).L.length : Int)) = false := by
      refine decide_eq_false fun hh => hE ?_
      exact trE_iff.2 ⟨hp, hh⟩
    rw [show trE S en path j = 91 by unfold trE; rw [hp, if_pos rfl, if_neg (of_decide_eq_false hd)]]
    have LA := hidden (row_ok h1 hp hI.p)
    have hl := (hI.rows path.toNat en.toNat).len
    have HA := hidden (has_ h1 (At.of hp) (by omega) j)
    rw [hd] at HA
    generalize path.toNat * 11 + en.toNat * 5 = o at LA HA
    unfold spotW at LA HA hB hR
    have HB := hidden hB
    have HR := hidden hR
    clear h h1 hp hE hB hR hd hl
    go_enter Try.func38, Try.ntmps38
    go_wp2_with fail
    refine Calls.mono LA.out ?_
    rintro e w' ⟨rfl, rfl⟩
    go_wp2_with fail
    refine Calls.mono HA.out ?_
    rintro e w' ⟨rfl, rfl⟩
    go_wp2
    exact bodyPost_ret (v := .tuple #[zv, .int .i64 91]) (by exact res_zero (p := 6) (u := 7) rfl _ rfl HR.out) rfl ⟨rfl, HB.out⟩
set_option maxHeartbeats 2000000 in
theorem treat_ok_deliver (h : No base w t b vs S) (hI : Inv S) (hn : S.next ≤ 1000) {en path j at_ bits : Int} (hE : trE S en path j = 0) {S' : St} {q : Pk} {c : Int} (HD : No base (spotW w en path j at_ bits) t b vs S → Calls Try.prog 39 #[.pointer (some ⟨b, path.toNat * 11 + en.toNat * 5, none⟩), sv en path j at_ bits] (spotW w en path j at_ bits) fun e' w' => DoO base (spotW w en path j at_ bits) t b vs S' (pv q) c e' w') :
    Calls Try.prog 38 #[.pointer (some ⟨t, 0, none⟩), sv en path j at_ bits, .func (.func 39) #[] #[]] w fun e' w' => DoO base w t b vs S' (pv q) c e' w' := by
  have hB := spotW_below w en path j at_ bits
  have hR := spotW_res w en path j at_ bits
  have h1 := h.later hB
  obtain ⟨hp, hj⟩ := trE_iff.1 hE
  have LA := hidden (row_ok h1 hp hI.p)
  have hl := (hI.rows path.toNat en.toNat).len
  have HA := hidden (has_ h1 (At.of hp) (by omega) j)
  rw [decide_eq_true hj] at HA
  have DO := hidden (HD h1)
  obtain ⟨hlt, hlb, hlv⟩ := h.lts
  obtain ⟨W1, hW1⟩ : ∃ W1, W1 = spotW w en path j at_ bits := ⟨_, rfl⟩
  have FIN : Hid (∀ e' w2, DoO base W1 t b vs S' (pv q) c e' w2 → Has w2 (w.heap.size + 1) #[.int .i64 0, .int .i64 0, .int .i64 0, .bool false, .string ByteArray.empty] 88 ∧ Has (set5 w2 (w.heap.size + 1) q) (w.heap.size + 1) (pa q) 88 ∧ DoO base w t b vs S' (pv q) c (.returned (.tuple #[pv q, .int .i64 c])) (set5 w2 (w.heap.size + 1) q)) := fun e' w2 hD => by
    rw [hW1] at hD
    obtain ⟨_, ⟨vs', hN, hG⟩, hK, hBs⟩ := hD
    have hh := hBs _ _ hR (fun i' e' hk => by have := hlv _ _ _ hk; omega)
    have hs1 := hR.lt
    have hs2 := hB.size
    refine ⟨hh, set5_has hh q, rfl, ⟨vs', hN.set5 (fun i e k hk ek => ?_) (by omega) (by omega) q, fun i e k hk => (hG i e k hk).imp id (fun hx => by omega)⟩, set5_kept ((Kept.of_below hB).trans hK) (by omega) q, fun r cs hrr hne => set5_other (hBs r cs (hrr.later hB) hne) (by have := hrr.lt; omega) q⟩
    rcases hG i e k hk with h5 | h5
    · have := hlv _ _ _ h5; omega
    · omega
  have HW1 : Hid (W1 = spotW w en path j at_ bits) := hW1
  unfold sv pv at *
  unfold spotW at LA HA DO HW1
  generalize path.toNat * 11 + en.toNat * 5 = o at LA HA DO
  clear h h1 hp hE hB hR hj hl HD hW1 hlv
  go_enter Try.func38, Try.ntmps38
  go_wp2_with fail
  refine Calls.mono LA.out ?_
  rintro e w' ⟨rfl, rfl⟩
  go_wp2_with fail
  refine Calls.mono HA.out ?_
  rintro e w' ⟨rfl, rfl⟩
  go_wp2_with fail
  refine Calls.mono DO.out ?_
  intro e' w2 hD
  rw [← HW1.out] at hD
  obtain ⟨g1, g2, g3⟩ := FIN.out e' w2 hD
  obtain rfl := hD.1
  have a0 := g1.cell 0 rfl
  have a1 := g1.cell 1 rfl
  have a2 := g1.cell 2 rfl
  have a3 := g1.cell 3 rfl
  have a4 := g1.cell 4 rfl
  have af0 := g1.frozen 0
  have af1 := g1.frozen 1
  have af2 := g1.frozen 2
  have af3 := g1.frozen 3
  have af4 := g1.frozen 4
  have G2 := hidden g2
  have G3 := hidden g3
  clear g1 g2 g3 hD
  go_wp2
  exact bodyPost_ret (v := .tuple #[.agg #[.int .i64 q.id, .int .i64 q.sent, .int .i64 q.len, .bool q.forged, .string (strOfNums q.bs)], .int .i64 c]) (by exact res_pkt (p := 6) (u := 7) rfl _ q rfl G2.out) rfl G3.out
set_option maxHeartbeats 2000000 in
theorem treat_no_drop (h : No base w t b vs S) (hI : Inv S) (hn : S.next ≤ 1000) {en path j at_ bits : Int} (hE : trE S en path j ≠ 0) :
    Calls Try.prog 38 #[.pointer (some ⟨t, 0, none⟩), sv en path j at_ bits, .func (.func 42) #[] #[]] w fun e' w' => e' = .returned (.tuple #[zv, .int .i64 (trE S en path j)]) ∧ Below w.heap.size w w' := by
  have hB := spotW_below w en path j at_ bits
  have hR := spotW_res w en path j at_ bits
  have h1 := h.later hB
  unfold sv
  cases hp : ok S en path with
  | false =>
    rw [show trE S en path j = 90 by unfold trE; rw [hp]; rfl]
    have LA := hidden (row_no h1 hp hI.p)
    unfold spotW at LA hB hR
    have HB := hidden hB
    have HR := hidden hR
    clear h h1 hp hE hB hR
    go_enter Try.func38, Try.ntmps38
    go_wp2_with fail
    refine Calls.mono LA.out ?_
    rintro e w' ⟨rfl, rfl⟩
    go_wp2
    exact bodyPost_ret (v := .tuple #[zv, .int .i64 90]) (by exact res_zero (p := 6) (u := 7) rfl _ rfl HR.out) rfl ⟨rfl, HB.out⟩
  | true =>
    have hd : decide (0 ≤ j ∧ j < ((S.R path.toNat en.toNat).L.length : Int)) = false := by
      refine decide_eq_false fun hh => hE ?_
      exact trE_iff.2 ⟨hp, hh⟩
    rw [show trE S en path j = 91 by unfold trE; rw [hp, if_pos rfl, if_neg (of_decide_eq_false hd)]]
    have LA := hidden (row_ok h1 hp hI.p)
    have hl := (hI.rows path.toNat en.toNat).len
    have HA := hidden (has_ h1 (At.of hp) (by omega) j)
    rw [hd] at HA
    generalize path.toNat * 11 + en.toNat * 5 = o at LA HA
    unfold spotW at LA HA hB hR
    have HB := hidden hB
    have HR := hidden hR
    clear h h1 hp hE hB hR hd hl
    go_enter Try.func38, Try.ntmps38
    go_wp2_with fail
    refine Calls.mono LA.out ?_
    rintro e w' ⟨rfl, rfl⟩
    go_wp2_with fail
    refine Calls.mono HA.out ?_
    rintro e w' ⟨rfl, rfl⟩
    go_wp2
    exact bodyPost_ret (v := .tuple #[zv, .int .i64 91]) (by exact res_zero (p := 6) (u := 7) rfl _ rfl HR.out) rfl ⟨rfl, HB.out⟩
set_option maxHeartbeats 2000000 in
theorem treat_ok_drop (h : No base w t b vs S) (hI : Inv S) (hn : S.next ≤ 1000) {en path j at_ bits : Int} (hE : trE S en path j = 0) {S' : St} {q : Pk} {c : Int} (HD : No base (spotW w en path j at_ bits) t b vs S → Calls Try.prog 42 #[.pointer (some ⟨b, path.toNat * 11 + en.toNat * 5, none⟩), sv en path j at_ bits] (spotW w en path j at_ bits) fun e' w' => DoO base (spotW w en path j at_ bits) t b vs S' (pv q) c e' w') :
    Calls Try.prog 38 #[.pointer (some ⟨t, 0, none⟩), sv en path j at_ bits, .func (.func 42) #[] #[]] w fun e' w' => DoO base w t b vs S' (pv q) c e' w' := by
  have hB := spotW_below w en path j at_ bits
  have hR := spotW_res w en path j at_ bits
  have h1 := h.later hB
  obtain ⟨hp, hj⟩ := trE_iff.1 hE
  have LA := hidden (row_ok h1 hp hI.p)
  have hl := (hI.rows path.toNat en.toNat).len
  have HA := hidden (has_ h1 (At.of hp) (by omega) j)
  rw [decide_eq_true hj] at HA
  have DO := hidden (HD h1)
  obtain ⟨hlt, hlb, hlv⟩ := h.lts
  obtain ⟨W1, hW1⟩ : ∃ W1, W1 = spotW w en path j at_ bits := ⟨_, rfl⟩
  have FIN : Hid (∀ e' w2, DoO base W1 t b vs S' (pv q) c e' w2 → Has w2 (w.heap.size + 1) #[.int .i64 0, .int .i64 0, .int .i64 0, .bool false, .string ByteArray.empty] 88 ∧ Has (set5 w2 (w.heap.size + 1) q) (w.heap.size + 1) (pa q) 88 ∧ DoO base w t b vs S' (pv q) c (.returned (.tuple #[pv q, .int .i64 c])) (set5 w2 (w.heap.size + 1) q)) := fun e' w2 hD => by
    rw [hW1] at hD
    obtain ⟨_, ⟨vs', hN, hG⟩, hK, hBs⟩ := hD
    have hh := hBs _ _ hR (fun i' e' hk => by have := hlv _ _ _ hk; omega)
    have hs1 := hR.lt
    have hs2 := hB.size
    refine ⟨hh, set5_has hh q, rfl, ⟨vs', hN.set5 (fun i e k hk ek => ?_) (by omega) (by omega) q, fun i e k hk => (hG i e k hk).imp id (fun hx => by omega)⟩, set5_kept ((Kept.of_below hB).trans hK) (by omega) q, fun r cs hrr hne => set5_other (hBs r cs (hrr.later hB) hne) (by have := hrr.lt; omega) q⟩
    rcases hG i e k hk with h5 | h5
    · have := hlv _ _ _ h5; omega
    · omega
  have HW1 : Hid (W1 = spotW w en path j at_ bits) := hW1
  unfold sv pv at *
  unfold spotW at LA HA DO HW1
  generalize path.toNat * 11 + en.toNat * 5 = o at LA HA DO
  clear h h1 hp hE hB hR hj hl HD hW1 hlv
  go_enter Try.func38, Try.ntmps38
  go_wp2_with fail
  refine Calls.mono LA.out ?_
  rintro e w' ⟨rfl, rfl⟩
  go_wp2_with fail
  refine Calls.mono HA.out ?_
  rintro e w' ⟨rfl, rfl⟩
  go_wp2_with fail
  refine Calls.mono DO.out ?_
  intro e' w2 hD
  rw [← HW1.out] at hD
  obtain ⟨g1, g2, g3⟩ := FIN.out e' w2 hD
  obtain rfl := hD.1
  have a0 := g1.cell 0 rfl
  have a1 := g1.cell 1 rfl
  have a2 := g1.cell 2 rfl
  have a3 := g1.cell 3 rfl
  have a4 := g1.cell 4 rfl
  have af0 := g1.frozen 0
  have af1 := g1.frozen 1
  have af2 := g1.frozen 2
  have af3 := g1.frozen 3
  have af4 := g1.frozen 4
  have G2 := hidden g2
  have G3 := hidden g3
  clear g1 g2 g3 hD
  go_wp2
  exact bodyPost_ret (v := .tuple #[.agg #[.int .i64 q.id, .int .i64 q.sent, .int .i64 q.len, .bool q.forged, .string (strOfNums q.bs)], .int .i64 c]) (by exact res_pkt (p := 6) (u := 7) rfl _ q rfl G2.out) rfl G3.out
set_option maxHeartbeats 2000000 in
theorem treat_no_double (h : No base w t b vs S) (hI : Inv S) (hn : S.next ≤ 1000) {en path j at_ bits : Int} (hE : trE S en path j ≠ 0) :
    Calls Try.prog 38 #[.pointer (some ⟨t, 0, none⟩), sv en path j at_ bits, .func (.func 40) #[] #[]] w fun e' w' => e' = .returned (.tuple #[zv, .int .i64 (trE S en path j)]) ∧ Below w.heap.size w w' := by
  have hB := spotW_below w en path j at_ bits
  have hR := spotW_res w en path j at_ bits
  have h1 := h.later hB
  unfold sv
  cases hp : ok S en path with
  | false =>
    rw [show trE S en path j = 90 by unfold trE; rw [hp]; rfl]
    have LA := hidden (row_no h1 hp hI.p)
    unfold spotW at LA hB hR
    have HB := hidden hB
    have HR := hidden hR
    clear h h1 hp hE hB hR
    go_enter Try.func38, Try.ntmps38
    go_wp2_with fail
    refine Calls.mono LA.out ?_
    rintro e w' ⟨rfl, rfl⟩
    go_wp2
    exact bodyPost_ret (v := .tuple #[zv, .int .i64 90]) (by exact res_zero (p := 6) (u := 7) rfl _ rfl HR.out) rfl ⟨rfl, HB.out⟩
  | true =>
    have hd : decide (0 ≤ j ∧ j < ((S.R path.toNat en.toNat).L.length : Int)) = false := by
      refine decide_eq_false fun hh => hE ?_
      exact trE_iff.2 ⟨hp, hh⟩
    rw [show trE S en path j = 91 by unfold trE; rw [hp, if_pos rfl, if_neg (of_decide_eq_false hd)]]
    have LA := hidden (row_ok h1 hp hI.p)
    have hl := (hI.rows path.toNat en.toNat).len
    have HA := hidden (has_ h1 (At.of hp) (by omega) j)
    rw [hd] at HA
    generalize path.toNat * 11 + en.toNat * 5 = o at LA HA
    unfold spotW at LA HA hB hR
    have HB := hidden hB
    have HR := hidden hR
    clear h h1 hp hE hB hR hd hl
    go_enter Try.func38, Try.ntmps38
    go_wp2_with fail
    refine Calls.mono LA.out ?_
    rintro e w' ⟨rfl, rfl⟩
    go_wp2_with fail
    refine Calls.mono HA.out ?_
    rintro e w' ⟨rfl, rfl⟩
    go_wp2
    exact bodyPost_ret (v := .tuple #[zv, .int .i64 91]) (by exact res_zero (p := 6) (u := 7) rfl _ rfl HR.out) rfl ⟨rfl, HB.out⟩
set_option maxHeartbeats 2000000 in
theorem treat_ok_double (h : No base w t b vs S) (hI : Inv S) (hn : S.next ≤ 1000) {en path j at_ bits : Int} (hE : trE S en path j = 0) {S' : St} {q : Pk} {c : Int} (HD : No base (spotW w en path j at_ bits) t b vs S → Calls Try.prog 40 #[.pointer (some ⟨b, path.toNat * 11 + en.toNat * 5, none⟩), sv en path j at_ bits] (spotW w en path j at_ bits) fun e' w' => DoO base (spotW w en path j at_ bits) t b vs S' (pv q) c e' w') :
    Calls Try.prog 38 #[.pointer (some ⟨t, 0, none⟩), sv en path j at_ bits, .func (.func 40) #[] #[]] w fun e' w' => DoO base w t b vs S' (pv q) c e' w' := by
  have hB := spotW_below w en path j at_ bits
  have hR := spotW_res w en path j at_ bits
  have h1 := h.later hB
  obtain ⟨hp, hj⟩ := trE_iff.1 hE
  have LA := hidden (row_ok h1 hp hI.p)
  have hl := (hI.rows path.toNat en.toNat).len
  have HA := hidden (has_ h1 (At.of hp) (by omega) j)
  rw [decide_eq_true hj] at HA
  have DO := hidden (HD h1)
  obtain ⟨hlt, hlb, hlv⟩ := h.lts
  obtain ⟨W1, hW1⟩ : ∃ W1, W1 = spotW w en path j at_ bits := ⟨_, rfl⟩
  have FIN : Hid (∀ e' w2, DoO base W1 t b vs S' (pv q) c e' w2 → Has w2 (w.heap.size + 1) #[.int .i64 0, .int .i64 0, .int .i64 0, .bool false, .string ByteArray.empty] 88 ∧ Has (set5 w2 (w.heap.size + 1) q) (w.heap.size + 1) (pa q) 88 ∧ DoO base w t b vs S' (pv q) c (.returned (.tuple #[pv q, .int .i64 c])) (set5 w2 (w.heap.size + 1) q)) := fun e' w2 hD => by
    rw [hW1] at hD
    obtain ⟨_, ⟨vs', hN, hG⟩, hK, hBs⟩ := hD
    have hh := hBs _ _ hR (fun i' e' hk => by have := hlv _ _ _ hk; omega)
    have hs1 := hR.lt
    have hs2 := hB.size
    refine ⟨hh, set5_has hh q, rfl, ⟨vs', hN.set5 (fun i e k hk ek => ?_) (by omega) (by omega) q, fun i e k hk => (hG i e k hk).imp id (fun hx => by omega)⟩, set5_kept ((Kept.of_below hB).trans hK) (by omega) q, fun r cs hrr hne => set5_other (hBs r cs (hrr.later hB) hne) (by have := hrr.lt; omega) q⟩
    rcases hG i e k hk with h5 | h5
    · have := hlv _ _ _ h5; omega
    · omega
  have HW1 : Hid (W1 = spotW w en path j at_ bits) := hW1
  unfold sv pv at *
  unfold spotW at LA HA DO HW1
  generalize path.toNat * 11 + en.toNat * 5 = o at LA HA DO
  clear h h1 hp hE hB hR hj hl HD hW1 hlv
  go_enter Try.func38, Try.ntmps38
  go_wp2_with fail
  refine Calls.mono LA.out ?_
  rintro e w' ⟨rfl, rfl⟩
  go_wp2_with fail
  refine Calls.mono HA.out ?_
  rintro e w' ⟨rfl, rfl⟩
  go_wp2_with fail
  refine Calls.mono DO.out ?_
  intro e' w2 hD
  rw [← HW1.out] at hD
  obtain ⟨g1, g2, g3⟩ := FIN.out e' w2 hD
  obtain rfl := hD.1
  have a0 := g1.cell 0 rfl
  have a1 := g1.cell 1 rfl
  have a2 := g1.cell 2 rfl
  have a3 := g1.cell 3 rfl
  have a4 := g1.cell 4 rfl
  have af0 := g1.frozen 0
  have af1 := g1.frozen 1
  have af2 := g1.frozen 2
  have af3 := g1.frozen 3
  have af4 := g1.frozen 4
  have G2 := hidden g2
  have G3 := hidden g3
  clear g1 g2 g3 hD
  go_wp2
  exact bodyPost_ret (v := .tuple #[.agg #[.int .i64 q.id, .int .i64 q.sent, .int .i64 q.len, .bool q.forged, .string (strOfNums q.bs)], .int .i64 c]) (by exact res_pkt (p := 6) (u := 7) rfl _ q rfl G2.out) rfl G3.out
set_option maxHeartbeats 2000000 in
theorem treat_no_spoil (h : No base w t b vs S) (hI : Inv S) (hn : S.next ≤ 1000) {en path j at_ bits : Int} (hE : trE S en path j ≠ 0) :
    Calls Try.prog 38 #[.pointer (some ⟨t, 0, none⟩), sv en path j at_ bits, .func (.func 43) #[] #[]] w fun e' w' => e' = .returned (.tuple #[zv, .int .i64 (trE S en path j)]) ∧ Below w.heap.size w w' := by
  have hB := spotW_below w en path j at_ bits
  have hR := spotW_res w en path j at_ bits
  have h1 := h.later hB
  unfold sv
  cases hp : ok S en path with
  | false =>
    rw [show trE S en path j = 90 by unfold trE; rw [hp]; rfl]
    have LA := hidden (row_no h1 hp hI.p)
    unfold spotW at LA hB hR
    have HB := hidden hB
    have HR := hidden hR
    clear h h1 hp hE hB hR
    go_enter Try.func38, Try.ntmps38
    go_wp2_with fail
    refine Calls.mono LA.out ?_
    rintro e w' ⟨rfl, rfl⟩
    go_wp2
    exact bodyPost_ret (v := .tuple #[zv, .int .i64 90]) (by exact res_zero (p := 6) (u := 7) rfl _ rfl HR.out) rfl ⟨rfl, HB.out⟩
  | true =>
    have hd : decide (0 ≤ j ∧ j < ((S.R path.toNat en.toNat).L.length : Int)) = false := by
      refine decide_eq_false fun hh => hE ?_
      exact trE_iff.2 ⟨hp, hh⟩
    rw [show trE S en path j = 91 by unfold trE; rw [hp, if_pos rfl, if_neg (of_decide_eq_false hd)]]
    have LA := hidden (row_ok h1 hp hI.p)
    have hl := (hI.rows path.toNat en.toNat).len
    have HA := hidden (has_ h1 (At.of hp) (by omega) j)
    rw [hd] at HA
    generalize path.toNat * 11 + en.toNat * 5 = o at LA HA
    unfold spotW at LA HA hB hR
    have HB := hidden hB
    have HR := hidden hR
    clear h h1 hp hE hB hR hd hl
    go_enter Try.func38, Try.ntmps38
    go_wp2_with fail
    refine Calls.mono LA.out ?_
    rintro e w' ⟨rfl, rfl⟩
    go_wp2_with fail
    refine Calls.mono HA.out ?_
    rintro e w' ⟨rfl, rfl⟩
    go_wp2
    exact bodyPost_ret (v := .tuple #[zv, .int .i64 91]) (by exact res_zero (p := 6) (u := 7) rfl _ rfl HR.out) rfl ⟨rfl, HB.out⟩
set_option maxHeartbeats 2000000 in
theorem treat_ok_spoil (h : No base w t b vs S) (hI : Inv S) (hn : S.next ≤ 1000) {en path j at_ bits : Int} (hE : trE S en path j = 0) {S' : St} {q : Pk} {c : Int} (HD : No base (spotW w en path j at_ bits) t b vs S → Calls Try.prog 43 #[.pointer (some ⟨b, path.toNat * 11 + en.toNat * 5, none⟩), sv en path j at_ bits] (spotW w en path j at_ bits) fun e' w' => DoO base (spotW w en path j at_ bits) t b vs S' (pv q) c e' w') :
    Calls Try.prog 38 #[.pointer (some ⟨t, 0, none⟩), sv en path j at_ bits, .func (.func 43) #[] #[]] w fun e' w' => DoO base w t b vs S' (pv q) c e' w' := by
  have hB := spotW_below w en path j at_ bits
  have hR := spotW_res w en path j at_ bits
  have h1 := h.later hB
  obtain ⟨hp, hj⟩ := trE_iff.1 hE
  have LA := hidden (row_ok h1 hp hI.p)
  have hl := (hI.rows path.toNat en.toNat).len
  have HA := hidden (has_ h1 (At.of hp) (by omega) j)
  rw [decide_eq_true hj] at HA
  have DO := hidden (HD h1)
  obtain ⟨hlt, hlb, hlv⟩ := h.lts
  obtain ⟨W1, hW1⟩ : ∃ W1, W1 = spotW w en path j at_ bits := ⟨_, rfl⟩
  have FIN : Hid (∀ e' w2, DoO base W1 t b vs S' (pv q) c e' w2 → Has w2 (w.heap.size + 1) #[.int .i64 0, .int .i64 0, .int .i64 0, .bool false, .string ByteArray.empty] 88 ∧ Has (set5 w2 (w.heap.size + 1) q) (w.heap.size + 1) (pa q) 88 ∧ DoO base w t b vs S' (pv q) c (.returned (.tuple #[pv q, .int .i64 c])) (set5 w2 (w.heap.size + 1) q)) := fun e' w2 hD => by
    rw [hW1] at hD
    obtain ⟨_, ⟨vs', hN, hG⟩, hK, hBs⟩ := hD
    have hh := hBs _ _ hR (fun i' e' hk => by have := hlv _ _ _ hk; omega)
    have hs1 := hR.lt
    have hs2 := hB.size
    refine ⟨hh, set5_has hh q, rfl, ⟨vs', hN.set5 (fun i e k hk ek => ?_) (by omega) (by omega) q, fun i e k hk => (hG i e k hk).imp id (fun hx => by omega)⟩, set5_kept ((Kept.of_below hB).trans hK) (by omega) q, fun r cs hrr hne => set5_other (hBs r cs (hrr.later hB) hne) (by have := hrr.lt; omega) q⟩
    rcases hG i e k hk with h5 | h5
    · have := hlv _ _ _ h5; omega
    · omega
  have HW1 : Hid (W1 = spotW w en path j at_ bits) := hW1
  unfold sv pv at *
  unfold spotW at LA HA DO HW1
  generalize path.toNat * 11 + en.toNat * 5 = o at LA HA DO
  clear h h1 hp hE hB hR hj hl HD hW1 hlv
  go_enter Try.func38, Try.ntmps38
  go_wp2_with fail
  refine Calls.mono LA.out ?_
  rintro e w' ⟨rfl, rfl⟩
  go_wp2_with fail
  refine Calls.mono HA.out ?_
  rintro e w' ⟨rfl, rfl⟩
  go_wp2_with fail
  refine Calls.mono DO.out ?_
  intro e' w2 hD
  rw [← HW1.out] at hD
  obtain ⟨g1, g2, g3⟩ := FIN.out e' w2 hD
  obtain rfl := hD.1
  have a0 := g1.cell 0 rfl
  have a1 := g1.cell 1 rfl
  have a2 := g1.cell 2 rfl
  have a3 := g1.cell 3 rfl
  have a4 := g1.cell 4 rfl
  have af0 := g1.frozen 0
  have af1 := g1.frozen 1
  have af2 := g1.frozen 2
  have af3 := g1.frozen 3
  have af4 := g1.frozen 4
  have G2 := hidden g2
  have G3 := hidden g3
  clear g1 g2 g3 hD
  go_wp2
  exact bodyPost_ret (v := .tuple #[.agg #[.int .i64 q.id, .int .i64 q.sent, .int .i64 q.len, .bool q.forged, .string (strOfNums q.bs)], .int .i64 c]) (by exact res_pkt (p := 6) (u := 7) rfl _ q rfl G2.out) rfl G3.out
end
end Go.Proofs.Ytmogacccffkkbaa.Nt
