/-
  What a report tells of a chunk, and whether it tells of what was not sent.
  Conditions: the box lies in memory, the report's blocks can be read.
-/
import Derived.Test.YtjceeckcfjjkkaaOdC
namespace Go.Proofs.Ytjceeckcfjjkkaa.Ob
open Go.ChangeShapes Go.WideShapes Go.ChangeAt Go.RowKit
open Ba (hidden Has cell_lt heap_lt)
set_option linter.unusedVariables false
/-- told for good, told -/
def gdD (q : Rq) (d : Int) : Bool := decide (d ≤ 0) || ins q.ns d
def tlD (q : Rq) (d : Int) : Bool := gdD q d || ins q.gs d
section
variable {D F G Q : Nat → Prop} {w w' : World} {r : Nat} {v : Value} {P : List CV} {n : Nat} {c : Ck} {q : Rq} {L : List Ch} {i g o : Nat} {x y : Ch} {gs : List (Int × Int)}
set_option maxRecDepth 8000 in
set_option maxHeartbeats 1000000 in
theorem r_tells (hR : Rp Q w c q) (x : Ch) (u : Value) (ht : 0 ≤ x.ts ∧ x.ts < 4294967296) : Calls Try.prog 70 #[kv c, ov x u] w fun e w' => e = .returned (.tuple #[.bool (tlD q (Ser.dist 4294967296 q.tsn x.ts)), .bool (gdD q (Ser.dist 4294967296 q.tsn x.ts))]) ∧ Below w.heap.size w w' := by
  obtain ⟨W1, hW1⟩ : ∃ W1, W1 = (w.alloc (.cells (kcs c) 48)).alloc (.cells (oc x u) 59) := ⟨_, rfl⟩
  have hO1 : Ow.Own w W1 [(w.heap.size + 1, oc x u, 59), (w.heap.size, kcs c, 48)] := by
    have := ((Ow.Own.refl w).alloc (kcs c) 48).alloc (oc x u) 59
    simp only [World.size_alloc] at this
    rw [hW1]
    exact this
  have hR1 := hR.later hO1.below
  have RD := hidden (Ser.rdiff c.tsn x.ts (by rw [hR.ts]; exact ⟨hR.t0, hR.t1⟩) ht W1)
  have NR := hidden (r_nr c W1)
  have hh := hO1.has (b := w.heap.size) (List.mem_cons_of_mem _ (List.mem_cons_self ..))
  have HB1 := hidden hO1.below
  have HG : Hid (∀ d X, Below W1.heap.size W1 X → Calls Try.prog 86 #[c.gv, .int .i64 d] X fun e w' => e = .returned (.bool (ins q.gs d)) ∧ X = w') := fun d X hB => r_inside (hR1.g.later hB) d
  have HF : Hid (∀ d X, Below W1.heap.size W1 X → Calls Try.prog 86 #[c.fv, .int .i64 d] X fun e w' => e = .returned (.bool (ins q.ns d)) ∧ X = w') := fun d X hB => r_inside (hR1.f.later hB) d
  have HH := hidden hh
  have HTS := hidden hR.ts
  unfold kcs oc at hW1
  have HW1 := hidden hW1
  clear hR hR1 ht hW1 hO1 hh
  unfold kv kcs ov
  rw [HTS.out] at RD
  obtain ⟨d, hd⟩ : ∃ d, d = Ser.dist 4294967296 q.tsn x.ts := ⟨_, rfl⟩
  rw [← hd] at RD ⊢
  clear hd
  go_enter Try.func70, Try.ntmps70
  go_wp2_with fail
  rw [← HW1.out]
  refine Calls.mono (by have := RD.out; rw [← HTS.out] at this; exact this) ?_
  rintro e X ⟨rfl, rfl⟩
  have l0 := HH.out.cell 0 (v := .int .u8 c.kd) rfl
  have l1 := HH.out.cell 1 (v := .int .u8 c.fg) rfl
  have l2 := HH.out.cell 2 (v := .int .u32 c.tsn) rfl
  have l3 := HH.out.cell 3 (v := .int .u16 c.sm) rfl
  have l4 := HH.out.cell 4 (v := .int .u16 c.sn) rfl
  have l5 := HH.out.cell 5 (v := .int .u32 c.pr) rfl
  have l6 := HH.out.cell 6 (v := .int .u32 c.tag) rfl
  have l7 := HH.out.cell 7 (v := .int .u32 c.win) rfl
  have l8 := HH.out.cell 8 (v := .int .u16 c.out) rfl
  have l9 := HH.out.cell 9 (v := .int .u16 c.inn) rfl
  have l10 := HH.out.cell 10 (v := .slice c.ga c.gl c.gc) rfl
  have l11 := HH.out.cell 11 (v := .slice c.na c.nl c.nc) rfl
  have l12 := HH.out.cell 12 (v := .slice c.da c.dl c.dc) rfl
  have l13 := HH.out.cell 13 (v := .slice c.ba c.bl c.bc) rfl
  have l14 := HH.out.cell 14 (v := .slice c.pa c.pl c.pc) rfl
  by_cases h0 : d ≤ 0
  · have HT : Hid (gdD q d = true ∧ tlD q d = true) := by
      have : gdD q d = true := by unfold gdD; rw [decide_eq_true h0]; rfl
      exact ⟨this, by unfold tlD; rw [this]; rfl⟩
    go_wp2
    go_ret2
    refine ⟨?_, HB1.out⟩
    rw [HT.out.1, HT.out.2]
    rfl
  · have HD0 : Hid (decide (d ≤ 0) = false) := decide_eq_false h0
    have HT : Hid (gdD q d = ins q.ns d) := by
      show _ = _
      unfold gdD
      rw [decide_eq_false h0]
      rfl
    have HT2 : Hid (tlD q d = (ins q.ns d || ins q.gs d)) := by
      show _ = _
      unfold tlD
      rw [HT.out]
    go_wp2_with fail
    refine Calls.mono NR.out ?_
    rintro e X2 ⟨rfl, hB2⟩
    have HB2 := hidden hB2
    have k10 := (hB2.cell (p := ⟨w.heap.size, 10, none⟩) (cell_lt l10)).trans l10
    have F1 := hidden (HF.out d X2 hB2)
    have G1 := hidden (HG.out d X2 hB2)
    clear hB2 l0 l1 l2 l3 l4 l5 l6 l7 l8 l9 l10 l11 l12 l13 l14
    generalize ins q.ns d = b1 at *
    generalize ins q.gs d = b2 at *
    go_wp2_with fail
    refine Calls.mono F1.out ?_
    rintro e X3 ⟨rfl, rfl⟩
    cases b1 with
    | true =>
      go_wp2
      go_ret2
      refine ⟨?_, HB1.out.trans (HB2.out.mono HB1.out.size)⟩
      rw [HT.out, HT2.out]
      rfl
    | false =>
      go_wp2_with fail
      refine Calls.mono G1.out ?_
      rintro e X3 ⟨rfl, rfl⟩
      go_wp2
      go_ret2
      refine ⟨?_, HB1.out.trans (HB2.out.mono HB1.out.size)⟩
      rw [HT.out, HT2.out]
      show Ending.returned (.tuple #[.bool (decide (d ≤ 0) || b2), .bool (decide (d ≤ 0))]) = _
      rw [HD0.out]
/-- does a report tell of what was not sent -/
def pastV (nx tsn : Int) (gs : List (Int × Int)) : Bool := (gs.any fun g => decide (0 ≤ Ser.dist 4294967296 nx ((tsn + g.2) % 4294967296))) || decide (0 ≤ Ser.dist 4294967296 nx tsn)
theorem pastV_at {nx tsn : Int} {k : Nat} {a b : Int} (h : gs[k]? = some (a, b)) (hd : 0 ≤ Ser.dist 4294967296 nx ((tsn + b) % 4294967296)) : pastV nx tsn gs = true := by
  unfold pastV
  rw [List.any_eq_true.2 ⟨(a, b), List.mem_of_getElem? h, by simpa using hd⟩]
  rfl
theorem pastV_no {nx tsn : Int} (h : ∀ (k : Nat) (a b : Int), gs[k]? = some (a, b) → ¬ 0 ≤ Ser.dist 4294967296 nx ((tsn + b) % 4294967296)) : pastV nx tsn gs = decide (0 ≤ Ser.dist 4294967296 nx tsn) := by
  unfold pastV
  have : (gs.any fun g => decide (0 ≤ Ser.dist 4294967296 nx ((tsn + g.2) % 4294967296))) = false := by
    cases he : (gs.any fun g => decide (0 ≤ Ser.dist 4294967296 nx ((tsn + g.2) % 4294967296))) with
    | false => rfl
    | true =>
      obtain ⟨g, hg, h2⟩ := List.any_eq_true.1 he
      obtain ⟨k, hk, e⟩ := List.getElem_of_mem hg
      exact absurd (by simpa using h2) (h k g.1 g.2 (by rw [List.getElem?_eq_getElem hk, e]))
  rw [this, Bool.false_or]
set_option maxRecDepth 8000 in
set_option maxHeartbeats 2000000 in
theorem r_past {cc_ : Int} (hB : Ro D w r v P n cc_ L) (hc : 0 ≤ cc_ ∧ cc_ < 4294967296) (hl : L.length ≤ 1001) (ht : 0 ≤ c.tsn ∧ c.tsn < 4294967296) {gv : Value} (hg : Gp Q w gv gs) (hgl : gs.length ≤ 70368744177664) :
    Calls Try.prog 68 #[.pointer (some ⟨r, 0, none⟩), kv c, gv] w fun e w' => e = .returned (.bool (pastV ((cc_ + (L.length : Int) + 1) % 4294967296) c.tsn gs)) ∧ Below w.heap.size w w' := by
  obtain ⟨nx, hnx⟩ : ∃ nx, nx = (cc_ + (L.length : Int) + 1) % 4294967296 := ⟨_, rfl⟩
  have hx : 0 ≤ nx ∧ nx < 4294967296 := by omega
  obtain ⟨W1, hW1⟩ : ∃ W1, W1 = w.alloc (.cells (kcs c) 48) := ⟨_, rfl⟩
  have hN1 : Has W1 w.heap.size (kcs c) 48 := by rw [hW1]; exact Has.new _ _ _
  have hB1 : Below w.heap.size w W1 := by rw [hW1]; exact (Below.refl _ w).alloc (Nat.le_refl _) _
  have hbl : w.heap.size < W1.heap.size := hN1.lt
  have h2 := hN1.cell 2 (v := .int .u32 c.tsn) rfl
  have HN : Hid (∀ X, Below W1.heap.size W1 X → Calls Try.prog 36 #[.pointer (some ⟨r, 0, none⟩)] X fun e w' => e = .returned (.int .u32 nx) ∧ Below X.heap.size X w') := fun X hX => by
    rw [hnx]
    exact r_next ((hB.later hB1).later hX) hc (by omega)
  have HG := hidden (hg.later hB1)
  have H2 := hidden h2
  have HB1 := hidden hB1
  have HX := hidden hx
  have HT := hidden ht
  obtain ⟨tsn, hts⟩ : ∃ t, t = c.tsn := ⟨_, rfl⟩
  rw [← hts] at H2 HT
  have HTS := hidden hts
  rw [← hnx, ← hts]
  obtain ⟨ga, gcap, rfl, hgl2⟩ := hg.slice
  have HD : Hid (∀ b X, 0 ≤ b ∧ b < 4294967296 → Calls Try.prog 74 #[.int .u32 nx, .int .u32 b] X fun e w' => e = .returned (.int .i64 (Ser.dist 4294967296 nx b)) ∧ X = w') := fun b X hb => Ser.rdiff nx b hx hb X
  have HA : Hid (∀ b X, 0 ≤ b ∧ b < 65536 → Calls Try.prog 21 #[.int .u32 tsn, .int .u32 b] X fun e w' => e = .returned (.int .u32 ((tsn + b) % 4294967296)) ∧ X = w') := fun b X hb => Ser.radd tsn b HT.out (by omega) X
  unfold kcs at hW1
  rw [← hts] at hW1
  have HW1 := hidden hW1
  generalize hn : gs.length = m at hgl hgl2
  have HM := hidden hn
  unfold kv kcs
  rw [← hts]
  clear hW1 hN1 hB1 hg hB hc hl hx h2 ht hts hnx hn
  go_enter Try.func68, Try.ntmps68
  go_wp2_with fail
  rw [← HW1.out]
  go_loopw [7] (fun i X => ∃ k : Nat, k ≤ m ∧ i = .int .i64 k ∧ Hid ((∀ (j : Nat) (a b : Int), j < k → gs[j]? = some (a, b) → ¬ 0 ≤ Ser.dist 4294967296 nx ((tsn + b) % 4294967296)) ∧ Below W1.heap.size W1 X)) (fun i _ => m - (intOf i).toNat)
  case atStart => exact ⟨0, Nat.zero_le _, rfl, fun j a b hj => absurd hj (Nat.not_lt_zero _), Below.refl _ _⟩
  case round =>
    obtain ⟨k, hk, rfl, HI⟩ := hrel
    rename_i wr
    have t2 := (HI.out.2.cell (p := ⟨w.heap.size, 2, none⟩) hbl).trans H2.out
    have PN : Hid (∀ X : World, Below wr.heap.size wr X → Calls Try.prog 36 #[.pointer (some ⟨r, 0, none⟩)] X fun e w' => e = .returned (.int .u32 nx) ∧ Below wr.heap.size wr w') := fun X hX => (HN.out X (HI.out.2.trans (hX.mono HI.out.2.size))).mono (by rintro e w' ⟨rfl, hB⟩; exact ⟨rfl, hX.trans (hB.mono hX.size)⟩)
    rcases Nat.lt_or_ge k m with hlt | hge
    · obtain ⟨b, off, cap', s, e, hv, _, hgk, c1, c2, hs0, hs1, he0, he1⟩ := (HG.out.later HI.out.2).get (k := k) (by rw [HM.out]; exact hlt)
      cases hv
      obtain ⟨te, hte⟩ : ∃ te, te = (tsn + e) % 4294967296 := ⟨_, rfl⟩
      obtain ⟨dd, hdd⟩ : ∃ dd, dd = Ser.dist 4294967296 nx te := ⟨_, rfl⟩
      have PD : Hid (∀ X : World, Below wr.heap.size wr X → Calls Try.prog 74 #[.int .u32 nx, .int .u32 te] X fun e w' => e = .returned (.int .i64 dd) ∧ Below wr.heap.size wr w') := fun X hX => by rw [hdd]; exact (HD.out te X (by omega)).mono (by rintro e w' ⟨rfl, rfl⟩; exact ⟨rfl, hX⟩)
      have PA : Hid (∀ X : World, Below wr.heap.size wr X → Calls Try.prog 21 #[.int .u32 tsn, .int .u32 e] X fun e' w' => e' = .returned (.int .u32 te) ∧ Below wr.heap.size wr w') := fun X hX => by rw [hte]; exact (HA.out e X (by omega)).mono (by rintro e w' ⟨rfl, rfl⟩; exact ⟨rfl, hX⟩)
      have HH : Hid (∀ X : World, Below wr.heap.size wr X → X.cell? ⟨w.heap.size, 2, none⟩ = some (.int .u32 tsn) ∧ X.cell? ⟨b, off + k * 2 + 1, none⟩ = some (.int .u16 e) ∧ Below wr.heap.size wr X) := fun X hX => ⟨(hX.cell (p := ⟨w.heap.size, 2, none⟩) (cell_lt t2)).trans t2, (hX.cell (p := ⟨b, off + k * 2 + 1, none⟩) (cell_lt c2)).trans c2, hX⟩
      have HE := hidden (And.intro hgk (And.intro hte hdd))
      have hlt' : (k : Int) < (m : Int) := by omega
      have hwk : IntKind.i64.wrap ((k : Int) + 1) = (k : Int) + 1 := by rw [IntKind.wrap_i64]; omega
      have hwe : IntKind.u32.wrap e = e := by show e % 4294967296 = e; omega
      clear hgk hte hdd c1 c2 t2
      go_wp2_with fail
      go_region_held3 (fun X => X.cell? ⟨w.heap.size, 2, none⟩ = some (.int .u32 tsn) ∧ X.cell? ⟨b, off + k * 2 + 1, none⟩ = some (.int .u16 e) ∧ Below wr.heap.size wr X)
        (first | (exact HH.out _ (Below.refl _ _).drew) | (exact HH.out _ (by assumption)) | (trace_state; fail))
        (first
          | (go_at_call 36; refine Calls.mono (PN.out _ ?_) ?_; (first | assumption | exact (Below.refl _ _).drew); rintro e X ⟨rfl, hX⟩)
          | (go_at_call 21; refine Calls.mono (PA.out _ ?_) ?_; (first | assumption | exact (Below.refl _ _).drew); rintro e X ⟨rfl, hX⟩)
          | (go_at_call 74; refine Calls.mono (PD.out _ ?_) ?_; (first | assumption | exact (Below.refl _ _).drew); rintro e X ⟨rfl, hX⟩))
      by_cases hD : 0 ≤ dd
      · have HDD := hidden hD
        go_wp2
        go_ret
        refine ⟨?_, HB1.out.trans ((HI.out.2.trans (hX.mono HI.out.2.size)).mono HB1.out.size)⟩
        rw [pastV_at HE.out.1 (by rw [← HE.out.2.1, ← HE.out.2.2]; exact HDD.out)]
        rfl
      · have HDD := hidden hD
        go_wp2
        go_roundw
        case rel => exact ⟨k + 1, by omega, by simp, fun j a b' hj hgj => by
          rcases Nat.lt_or_ge j k with h | h
          · have := HI.out.1 j a b' h hgj
            omega
          · obtain rfl : j = k := by omega
            rw [HE.out.1] at hgj
            cases hgj
            rw [← HE.out.2.1, ← HE.out.2.2]
            have := HDD.out
            omega, HI.out.2.trans (hX.mono HI.out.2.size)⟩
        case measure => simp only [intOf]; omega
    · obtain rfl : m = k := by omega
      have hnl : ¬ ((m : Int) < (m : Int)) := by omega
      obtain ⟨dd, hdd⟩ : ∃ dd, dd = Ser.dist 4294967296 nx tsn := ⟨_, rfl⟩
      have PD : Hid (∀ X : World, Below wr.heap.size wr X → Calls Try.prog 74 #[.int .u32 nx, .int .u32 tsn] X fun e w' => e = .returned (.int .i64 dd) ∧ Below wr.heap.size wr w') := fun X hX => by rw [hdd]; exact (HD.out tsn X HT.out).mono (by rintro e w' ⟨rfl, rfl⟩; exact ⟨rfl, hX⟩)
      have HH : Hid (∀ X : World, Below wr.heap.size wr X → X.cell? ⟨w.heap.size, 2, none⟩ = some (.int .u32 tsn) ∧ Below wr.heap.size wr X) := fun X hX => ⟨(hX.cell (p := ⟨w.heap.size, 2, none⟩) (cell_lt t2)).trans t2, hX⟩
      have HE := hidden hdd
      clear hdd t2
      go_wp2_with fail
      go_region_held3 (fun X => X.cell? ⟨w.heap.size, 2, none⟩ = some (.int .u32 tsn) ∧ Below wr.heap.size wr X)
        (first | (exact HH.out _ (Below.refl _ _).drew) | (exact HH.out _ (by assumption)) | (trace_state; fail))
        (first
          | (go_at_call 36; refine Calls.mono (PN.out _ ?_) ?_; (first | assumption | exact (Below.refl _ _).drew); rintro e X ⟨rfl, hX⟩)
          | (go_at_call 74; refine Calls.mono (PD.out _ ?_) ?_; (first | assumption | exact (Below.refl _ _).drew); rintro e X ⟨rfl, hX⟩))
      go_wp2
      go_ret
      refine ⟨?_, HB1.out.trans ((HI.out.2.trans (hX.mono HI.out.2.size)).mono HB1.out.size)⟩
      rw [pastV_no (nx := nx) (tsn := tsn) (gs := gs) (fun j a b hj => by have h1 := HI.out.1 j a b (by have := (List.getElem?_eq_some_iff.1 hj).1; have := HM.out; omega) hj; omega), ← HE.out]
      rfl
end
end Go.Proofs.Ytjceeckcfjjkkaa.Ob
