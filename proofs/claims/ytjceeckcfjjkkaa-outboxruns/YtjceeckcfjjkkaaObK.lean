/-
  Of which chunks a report tells: what begins and what is over at each place, added up.
  Conditions: blocks in order, none past the last chunk.
-/
import Derived.Test.YtjceeckcfjjkkaaObJ
namespace Go.Proofs.Ytjceeckcfjjkkaa.Ob
open Go.ChangeShapes Go.WideShapes Go.ChangeAt Go.RowKit Go.Shelf
open Ba (hidden Has cell_lt heap_lt)
set_option linter.unusedVariables false

/-- numbers, truths in memory -/
def Iw (w : World) (b n : Nat) (f : Nat → Int) : Prop := ∃ cs, Has w b cs 3 ∧ ∀ i, i < n → cs[i]? = some (.int .i64 (f i))
def Bw (w : World) (b n : Nat) (f : Nat → Bool) : Prop := ∃ cs, Has w b cs 4 ∧ ∀ i, i < n → cs[i]? = some (.bool (f i))
section
variable {Q F D : Nat → Prop} {w w' : World} {b n j : Nat} {f : Nat → Int} {g : Nat → Bool}
theorem Iw.stay (h : Iw w b n f) (hm : Mod F w w') (hF : ¬ F b) : Iw w' b n f := by obtain ⟨cs, hh, hc⟩ := h; exact ⟨cs, hm.has hh hF, hc⟩
theorem Bw.stay (h : Bw w b n g) (hm : Mod F w w') (hF : ¬ F b) : Bw w' b n g := by obtain ⟨cs, hh, hc⟩ := h; exact ⟨cs, hm.has hh hF, hc⟩
theorem Iw.lt (h : Iw w b n f) : b < w.heap.size := by obtain ⟨cs, hh, hc⟩ := h; exact hh.lt
theorem Bw.lt (h : Bw w b n g) : b < w.heap.size := by obtain ⟨cs, hh, hc⟩ := h; exact hh.lt
theorem Iw.later (h : Iw w b n f) (hB : Below w.heap.size w w') : Iw w' b n f := by obtain ⟨cs, hh, hc⟩ := h; exact ⟨cs, hh.later hB, hc⟩
theorem Bw.later (h : Bw w b n g) (hB : Below w.heap.size w w') : Bw w' b n g := by obtain ⟨cs, hh, hc⟩ := h; exact ⟨cs, hh.later hB, hc⟩
theorem Bw.calm {B : Nat} (h : Bw w b n g) (hc : Calm B w w') : Bw w' b n g := by obtain ⟨cs, hh, hl⟩ := h; exact ⟨cs, hc.has hh, hl⟩
theorem Iw.calm {B : Nat} (h : Iw w b n f) (hc : Calm B w w') : Iw w' b n f := by obtain ⟨cs, hh, hl⟩ := h; exact ⟨cs, hc.has hh, hl⟩
theorem Iw.cell (h : Iw w b n f) (hj : j < n) : w.cell? ⟨b, j, none⟩ = some (.int .i64 (f j)) := by obtain ⟨cs, hh, hl⟩ := h; exact hh.cell j (hl j hj)
theorem Bw.cell (h : Bw w b n g) (hj : j < n) : w.cell? ⟨b, j, none⟩ = some (.bool (g j)) := by obtain ⟨cs, hh, hl⟩ := h; exact hh.cell j (hl j hj)
theorem Iw.frozen (h : Iw w b n f) (j : Nat) : w.frozen? ⟨b, j, none⟩ = false := by obtain ⟨cs, hh, hl⟩ := h; exact hh.frozen j
theorem Bw.frozen (h : Bw w b n g) (j : Nat) : w.frozen? ⟨b, j, none⟩ = false := by obtain ⟨cs, hh, hl⟩ := h; exact hh.frozen j
theorem Iw.set (h : Iw w b n f) (hj : j < n) (z : Int) : Iw (w.setCell ⟨b, j, none⟩ (.int .i64 z)) b n (fun k => if k = j then z else f k) := by
  obtain ⟨cs, hh, hl⟩ := h
  refine ⟨_, hh.set j _, fun i hi => ?_⟩
  rw [Array.getElem?_setIfInBounds]
  have hjs := (Array.getElem?_eq_some_iff.1 (hl j hj)).1
  by_cases e : j = i
  · subst e; simp [hjs]
  · have e' : ¬ i = j := fun h => e h.symm
    simp only [if_neg e, if_neg e']; exact hl i hi
theorem Bw.set (h : Bw w b n g) (hj : j < n) (z : Bool) : Bw (w.setCell ⟨b, j, none⟩ (.bool z)) b n (fun k => if k = j then z else g k) := by
  obtain ⟨cs, hh, hl⟩ := h
  refine ⟨_, hh.set j _, fun i hi => ?_⟩
  rw [Array.getElem?_setIfInBounds]
  have hjs := (Array.getElem?_eq_some_iff.1 (hl j hj)).1
  by_cases e : j = i
  · subst e; simp [hjs]
  · have e' : ¬ i = j := fun h => e h.symm
    simp only [if_neg e, if_neg e']; exact hl i hi
theorem Iw.congr {f' : Nat → Int} (h : Iw w b n f) (hf : ∀ i, i < n → f i = f' i) : Iw w b n f' := by
  obtain ⟨cs, hh, hl⟩ := h
  exact ⟨cs, hh, fun i hi => by rw [hl i hi, hf i hi]⟩
theorem Bw.congr {g' : Nat → Bool} (h : Bw w b n g) (hg : ∀ i, i < n → g i = g' i) : Bw w b n g' := by
  obtain ⟨cs, hh, hl⟩ := h
  exact ⟨cs, hh, fun i hi => by rw [hl i hi, hg i hi]⟩
theorem Iw.made (h : Has w b (madeCells (Value.int .i64 0).cells (n * 1)) 3) : Iw w b n (fun _ => 0) := by
  refine ⟨_, h, fun i hi => ?_⟩
  rw [made_at _ (by omega)]
  show some (_[i % 1]!) = _
  rw [Nat.mod_one]
  rfl
theorem Bw.made (h : Has w b (madeCells (Value.bool false).cells (n * 1)) 4) : Bw w b n (fun _ => false) := by
  refine ⟨_, h, fun i hi => ?_⟩
  rw [made_at _ (by omega)]
  show some (_[i % 1]!) = _
  rw [Nat.mod_one]
  rfl
theorem tot_add (f : Nat → Int) (j : Nat) (c : Int) : ∀ i, tot (fun k => if k = j then f j + c else f k) i = tot f i + (if j < i then c else 0)
  | 0 => by simp [tot]
  | i + 1 => by
    have h := tot_add f j c i
    simp only [tot] at h ⊢
    rw [h]
    by_cases e : i = j
    · subst e; simp; omega
    · rw [if_neg e]
      by_cases e2 : j < i
      · rw [if_pos e2, if_pos (by omega)]; omega
      · rw [if_neg e2, if_neg (by omega)]; omega
/-- what is begun ahead of a place, less what is over -/
def tp (u : Nat) : List (Int × Int) → Nat → Int
  | [], i => (if 0 < i then 1 else 0) - (if u < i then 1 else 0)
  | g :: gs, i => tp u gs i + (if (u : Int) + g.1 - 1 < i then 1 else 0) - (if (u : Int) + g.2 < i then 1 else 0)
theorem tp_bound (u i : Nat) : ∀ gs, -1 - (gs.length : Int) ≤ tp u gs i ∧ tp u gs i ≤ 1 + (gs.length : Int)
  | [] => by simp only [tp, List.length_nil]; split <;> split <;> omega
  | g :: gs => by have := tp_bound u i gs; simp only [tp, List.length_cons]; split <;> split <;> omega
theorem tp_snoc (u i : Nat) (g : Int × Int) : ∀ gs, tp u (gs ++ [g]) i = tp u gs i + (if (u : Int) + g.1 - 1 < i then 1 else 0) - (if (u : Int) + g.2 < i then 1 else 0)
  | [] => rfl
  | h :: gs => by simp only [List.cons_append, tp, tp_snoc u i g gs]; omega
theorem tp_pos (u i : Nat) : ∀ gs, ord gs = true → 0 ≤ tp u gs (i + 1) ∧ (0 < tp u gs (i + 1) ↔ (decide (i < u) || ins gs ((i : Int) + 1 - u)) = true)
  | [], _ => by
    simp only [tp, ins, List.any_nil, Bool.or_false, decide_eq_true_eq]
    split <;> split <;> omega
  | g :: gs, h => by
    have hc : decide (g.1 ≠ 0) = true ∧ decide (g.1 ≤ g.2) = true ∧ ord gs = true := by
      unfold ord at h ⊢
      rw [List.all_cons, Bool.and_eq_true, Bool.and_eq_true] at h
      exact ⟨h.1.1, h.1.2, h.2⟩
    obtain ⟨_, h2, h3⟩ := hc
    have h2 := of_decide_eq_true h2
    obtain ⟨k1, k2⟩ := tp_pos u i gs h3
    have e : ins (g :: gs) ((i : Int) + 1 - u) = (decide (g.1 ≤ (i : Int) + 1 - u) && decide ((i : Int) + 1 - u ≤ g.2) || ins gs ((i : Int) + 1 - u)) := rfl
    rw [e]
    simp only [tp]
    simp only [Bool.or_eq_true, decide_eq_true_eq, Bool.and_eq_true] at k2 ⊢
    constructor
    · split <;> split <;> omega
    · constructor
      · intro hh
        by_cases hz : 0 < tp u gs (i + 1)
        · rcases k2.1 hz with h | h
          · exact .inl h
          · exact .inr (.inr h)
        · refine .inr (.inl ?_)
          revert hh
          split <;> split <;> omega
      · rintro (hh | hh | hh)
        · have := k2.2 (.inl hh); split <;> split <;> omega
        · split <;> split <;> omega
        · have := k2.2 (.inr hh); split <;> split <;> omega
theorem tp_nil (u i : Nat) : tot (fun k => if k = u then (if k = 0 then (0 : Int) + 1 else 0) - 1 else (if k = 0 then (0 : Int) + 1 else 0)) i = tp u [] i := by
  have h1 := tot_add (fun k => if k = 0 then (0 : Int) + 1 else 0) u (-1) i
  have h2 := tot_add (fun _ => 0) 0 1 i
  have h3 : tot (fun _ => 0) i = 0 := by
    clear h1 h2
    induction i with
    | zero => rfl
    | succ i ih => simp only [tot, ih]; rfl
  have e : (fun k => if k = u then (if k = 0 then (0 : Int) + 1 else 0) - 1 else (if k = 0 then (0 : Int) + 1 else 0)) = (fun k => if k = u then (if u = 0 then (0 : Int) + 1 else 0) + -1 else (if k = 0 then (0 : Int) + 1 else 0)) := by
    funext k
    by_cases hk : k = u
    · subst hk; simp only [if_pos]; rfl
    · simp only [if_neg hk]
  rw [e, h1, h2, h3]
  simp only [tp]
  split <;> split <;> omega
set_option maxHeartbeats 4000000 in
theorem tells {t f : Nat} {rv : Value} {P : List CV} {nx : Int} {n : Nat} {L : List Ch} {fs : Nat → Int} {m : Int} (h : No D w t f rv P nx n L fs m) (hl : L.length ≤ 100000) (u : Nat) (hu : u ≤ L.length) {v : Value} {gs : List (Int × Int)} (hg : Gp Q w v gs) (ho : ord gs = true) (hf : (u : Int) + far gs ≤ L.length) :
    Calls Try.prog 57 #[.pointer (some ⟨t, 0, none⟩), .int .i64 (u : Int), v] w fun e w' => ∃ b, e = .returned (.slice (some ⟨b, 0, none⟩) L.length L.length) ∧ w.heap.size ≤ b ∧ Bw w' b L.length (fun i => decide (i < u) || ins gs ((i : Int) + 1 - u)) ∧ Below w.heap.size w w' := by
  have c0 := h.q.cell 0 rfl
  have htl := h.q.lt
  obtain ⟨ra, rc, hv, _⟩ := h.rw_.slice
  rw [h.len] at hv
  rw [hv] at c0
  have HG := hidden hg
  obtain ⟨a, cap, rfl, hgl⟩ := hg.slice
  have HO := hidden ho
  have HP : Hid (∀ g ∈ gs, 1 ≤ g.1 ∧ g.1 ≤ g.2 ∧ (u : Int) + g.2 ≤ L.length) := fun g hg' => by
    unfold ord at ho
    have h1 := List.all_eq_true.1 ho g hg'
    rw [Bool.and_eq_true] at h1
    have h2 := of_decide_eq_true h1.1
    have h3 := of_decide_eq_true h1.2
    have h4 := far_ge gs hg'
    obtain ⟨_, _, _, _, hn, _⟩ := hg
    have := hn g hg'
    omega
  generalize L.length = N at *
  obtain ⟨N1, hN1⟩ : ∃ N1 : Nat, N1 = N + 1 := ⟨_, rfl⟩
  obtain ⟨mi, i1, i2, i3, i4⟩ := make_wide (P := Try.prog) Try.underlying78 info_int N1 (by omega) (by omega)
  obtain ⟨mb, b1, b2, b3, b4⟩ := make_wide (P := Try.prog) Try.underlying60 info_bool N (by omega) (by omega)
  have hwN : IntKind.i64.wrap ((N : Int) + 1) = (N1 : Int) := by rw [IntKind.wrap_i64]; omega
  have HN1 := hidden hN1
  have HU := hidden hu
  have HT0 := hidden htl
  have HC0 := hidden c0
  have H1 := hidden (And.intro (i2 w) (And.intro (i3 w) (i4 w)))
  have H2 := hidden (And.intro b2 (And.intro b3 b4))
  generalize hgn : gs.length = M at *
  have HM := hidden hgn
  have hJ := Iw.made (i2 w)
  have z0 := hJ.cell (j := 0) (by omega)
  have f0 := hJ.frozen 0
  have l0 := hJ.lt
  have hJ2 := hidden (hJ.set (j := 0) (by omega) 1)
  have hN1p : (0 : Int) < (N1 : Int) := by omega
  clear h hg ho hf hv i2 i3 i4 b2 b3 b4 hN1 hgn hJ
  go_enter Try.func57, Try.ntmps57
  go_upto_region 3 with fail
  obtain ⟨W2, hW2⟩ : ∃ W2, W2 = (mi w).setCell ⟨w.heap.size, 0, none⟩ (.int .i64 1) := ⟨_, rfl⟩
  rw [← hW2]
  rw [← hW2] at hJ2
  have HB2 : Hid (Below w.heap.size w W2) := by rw [hW2]; exact H1.out.2.1.trans ((Mod.setCell (F := fun k => k = w.heap.size) (mi w) (p := ⟨w.heap.size, 0, none⟩) rfl _).below H1.out.2.1.size (fun k hk => by omega))
  clear hW2 z0 f0 l0
  have huu : (u : Int) < (N1 : Int) := by have := HN1.out; have := HU.out; omega
  have z0 := hJ2.out.cell (j := u) (by omega)
  have f0 := hJ2.out.frozen u
  have l0 := hJ2.out.lt
  have hy : -1 ≤ (if u = 0 then (1 : Int) else 0) ∧ (if u = 0 then (1 : Int) else 0) ≤ 1 := by split <;> omega
  generalize hyy : (if u = 0 then (1 : Int) else 0) = y at *
  have HY := hidden hyy
  have hw0 : IntKind.i64.wrap (y - 1) = y - 1 := by rw [IntKind.wrap_i64]; omega
  clear hyy
  go_wp2_with fail
  have hJ3 := hJ2.out.set (j := u) (by omega) (y - 1)
  obtain ⟨W3, hW3⟩ : ∃ W3, W3 = W2.setCell ⟨w.heap.size, u, none⟩ (.int .i64 (y - 1)) := ⟨_, rfl⟩
  rw [← hW3]
  rw [← hW3] at hJ3
  have HJ3 := hidden hJ3
  have HB3 : Hid (Below w.heap.size w W3) := by rw [hW3]; exact HB2.out.trans ((Mod.setCell (F := fun k => k = w.heap.size) W2 (p := ⟨w.heap.size, u, none⟩) rfl _).below HB2.out.size (fun k hk => by omega))
  clear hW3 z0 f0 l0 hJ3 hw0 hJ2
  go_loopw [33] (fun i wr => ∃ k : Nat, k ≤ M ∧ i = .int .i64 k ∧ Below w.heap.size w wr ∧ ∃ tu, Iw wr w.heap.size N1 tu ∧ (∀ i, tot tu i = tp u (gs.take k) i) ∧ ∀ i, -(2 * (k : Int) + 2) ≤ tu i ∧ tu i ≤ 2 * (k : Int) + 2) (fun i _ => M - (intOf i).toNat)
  case atStart =>
    refine ⟨0, Nat.zero_le _, rfl, HB3.out, _, HJ3.out, fun i => ?_, fun i => ?_⟩
    · rw [List.take_zero, ← tp_nil u i]
      congr 1
      funext k
      rw [← HY.out]
      by_cases e : k = u
      · subst e; by_cases e2 : k = 0 <;> simp [e2]
      · by_cases e2 : k = 0
        · subst e2; simp [e]
        · simp [e, e2]
    · have hy2 : -1 ≤ y ∧ y ≤ 1 := by have := HY.out; split at this <;> omega
      split
      · omega
      · split <;> omega
  case round =>
    obtain ⟨k, hk, rfl, hB, tu, hI, htp, hbd⟩ := hrel
    rcases Nat.lt_or_ge k M with hlt | hge
    · obtain ⟨b, off, cap', s, e, hv, _, hgk, c1, c2, hs0, hs1, he0, he1⟩ := (HG.out.later hB).get (k := k) (by rw [HM.out]; exact hlt)
      cases hv
      obtain ⟨p1, p2, p3⟩ := HP.out _ (List.mem_of_getElem? hgk)
      simp only at p1 p2 p3
      obtain ⟨s', rfl⟩ : ∃ s' : Nat, s = s' := ⟨s.toNat, by omega⟩
      obtain ⟨e', rfl⟩ : ∃ e' : Nat, e = e' := ⟨e.toNat, by omega⟩
      have hbl : b < wr.heap.size := cell_lt c1
      obtain ⟨q1, hq1⟩ : ∃ q : Nat, (q : Int) = (u : Int) + (s' : Int) := ⟨u + s', by omega⟩
      obtain ⟨j1, hj1⟩ : ∃ j : Nat, (j : Int) = (q1 : Int) - 1 := ⟨q1 - 1, by omega⟩
      obtain ⟨j2, hj2⟩ : ∃ j : Nat, (j : Int) = (u : Int) + (e' : Int) := ⟨u + e', by omega⟩
      have hw1 : IntKind.i64.wrap ((u : Int) + (s' : Int)) = (q1 : Int) := by rw [IntKind.wrap_i64]; omega
      have hw2 : IntKind.i64.wrap ((q1 : Int) - 1) = (j1 : Int) := by rw [IntKind.wrap_i64]; omega
      have hw3 : IntKind.i64.wrap ((u : Int) + (e' : Int)) = (j2 : Int) := by rw [IntKind.wrap_i64]; omega
      have hN1 := HN1.out
      have hj1l : (j1 : Int) < (N1 : Int) := by omega
      have hj2l : (j2 : Int) < (N1 : Int) := by omega
      have z1 := hI.cell (j := j1) (by omega)
      have f1 := hI.frozen j1
      have l1 := hI.lt
      have hy1 := hbd j1
      generalize hyy : tu j1 = y1 at *
      have hw4 : IntKind.i64.wrap (y1 + 1) = y1 + 1 := by rw [IntKind.wrap_i64]; omega
      have HE := hidden (And.intro hq1 (And.intro hj1 hj2))
      have HYY := hidden hyy
      have HI := hidden hI
      have HTP := hidden htp
      have HBD := hidden hbd
      have HGK := hidden hgk
      have HB := hidden hB
      have HPP := hidden (And.intro p1 (And.intro p2 p3))
      clear hgk hB hI htp hbd hyy hq1 hj1 hj2 hy1 p1 p2 p3
      go_upto_region 8 with fail
      obtain ⟨W4, hW4⟩ : ∃ W4, W4 = wr.setCell ⟨w.heap.size, j1, none⟩ (.int .i64 (y1 + 1)) := ⟨_, rfl⟩
      obtain ⟨W5, hW5⟩ : ∃ W5, W5 = W4.alloc (.cells #[.int .u16 (s' : Int), .int .u16 (e' : Int)] 65) := ⟨_, rfl⟩
      rw [← hW4, ← hW5]
      have hm4 : Mod (fun k => k = w.heap.size) wr W4 := by rw [hW4]; exact Mod.setCell (F := fun k => k = w.heap.size) wr (p := ⟨w.heap.size, j1, none⟩) rfl _
      have hsz : W4.heap.size = wr.heap.size := by rw [hW4]; simp [World.setCell]
      have hI4 : Iw W4 w.heap.size N1 (fun k => if k = j1 then y1 + 1 else tu k) := by rw [hW4]; exact HI.out.set (by omega) _
      have hB5 : Below W4.heap.size W4 W5 := by rw [hW5]; exact (Below.refl _ W4).alloc (Nat.le_refl _) _
      have hnew : Has W5 wr.heap.size #[.int .u16 (s' : Int), .int .u16 (e' : Int)] 65 := by rw [hW5, ← hsz]; exact Has.new W4 _ _
      have hI5 := hI4.later hB5
      have n1 := hnew.cell 1 rfl
      have n2 := hnew.lt
      have z2 := hI5.cell (j := j2) (by omega)
      have f2 := hI5.frozen j2
      have l2 := hI5.lt
      have hbd5 : ∀ i, -(2 * (k : Int) + 3) ≤ (if i = j1 then y1 + 1 else tu i) ∧ (if i = j1 then y1 + 1 else tu i) ≤ 2 * (k : Int) + 3 := fun i => by
        have h1 := HBD.out i
        have h2 := HBD.out j1
        have h3 := HYY.out
        split <;> omega
      have hy2 := hbd5 j2
      generalize hyy : (if j2 = j1 then y1 + 1 else tu j2) = y2 at *
      have hw5 : IntKind.i64.wrap (y2 - 1) = y2 - 1 := by rw [IntKind.wrap_i64]; omega
      have HB5 : Hid (Below w.heap.size w W5) := HB.out.trans ((hm4.below HB.out.size (fun k hk => by omega)).trans (hB5.mono (by rw [hsz]; exact HB.out.size)))
      have G : Hid (Iw (W5.setCell ⟨w.heap.size, j2, none⟩ (.int .i64 (y2 - 1))) w.heap.size N1 (fun k => if k = j2 then y2 - 1 else if k = j1 then y1 + 1 else tu k) ∧ (∀ i, tot (fun k => if k = j2 then y2 - 1 else if k = j1 then y1 + 1 else tu k) i = tp u (gs.take (k + 1)) i) ∧ ∀ i, -(2 * ((k + 1 : Nat) : Int) + 2) ≤ (if i = j2 then y2 - 1 else if i = j1 then y1 + 1 else tu i) ∧ (if i = j2 then y2 - 1 else if i = j1 then y1 + 1 else tu i) ≤ 2 * ((k + 1 : Nat) : Int) + 2) := by
        refine ⟨hI5.set (by omega) _, fun i => ?_, fun i => ?_⟩
        · have a1 := tot_add (fun k => if k = j1 then y1 + 1 else tu k) j2 (-1) i
          have a2 := tot_add tu j1 1 i
          simp only [hyy] at a1
          rw [HYY.out] at a2
          rw [show (fun k => if k = j2 then y2 - 1 else if k = j1 then y1 + 1 else tu k) = (fun k => if k = j2 then y2 + -1 else if k = j1 then y1 + 1 else tu k) from rfl, a1, a2, HTP.out, List.take_add_one, HGK.out]
          simp only [Option.toList]
          rw [tp_snoc]
          have := HE.out
          have e1 : (j1 < i) ↔ ((u : Int) + (s' : Int) - 1 < (i : Int)) := by omega
          have e2 : (j2 < i) ↔ ((u : Int) + (e' : Int) < (i : Int)) := by omega
          simp only [e1, e2]
          split <;> split <;> omega
        · have h1 := hbd5 i
          have h2 := hbd5 j2
          rw [hyy] at h2
          split <;> omega
      clear hW4 hW5 hB5 hnew hm4 hI4 hI5 hsz hbd5 hyy z1 f1 l1 c1 c2 hbl hw1 hw2 hw4 hN1
      go_wp2
      go_roundw
      case rel =>
        refine ⟨k + 1, by omega, by go_num, HB5.out.trans ((Mod.setCell (F := fun k => k = w.heap.size) W5 (p := ⟨w.heap.size, j2, none⟩) rfl _).below HB5.out.size (fun k hk => by omega)), _, G.out⟩
      case measure => simp [intOf]; omega
    · obtain rfl : M = k := by omega
      rw [List.take_of_length_le (by have := HM.out; omega)] at htp
      have d0 := (hB.cell (p := ⟨t, 0, none⟩) HT0.out).trans HC0.out
      have htl2 : t < wr.heap.size := Nat.lt_of_lt_of_le HT0.out hB.size
      obtain ⟨B0, hB0⟩ : ∃ B0, B0 = wr.heap.size := ⟨_, rfl⟩
      have hbw := Bw.made (H2.out.1 wr)
      rw [← hB0] at hbw
      have HBW := hidden hbw
      have HIM := hidden (hI.later (H2.out.2.1 wr))
      have HBM : Hid (Below w.heap.size w (mb wr)) := hB.trans ((H2.out.2.1 wr).mono hB.size)
      have HTP := hidden htp
      have HBD := hidden hbd
      have HBB : Hid (w.heap.size < B0) := by rw [hB0]; exact hI.lt
      clear hB hI htp hbd hbw
      go_wp2_with fail
      rw [← hB0]
      generalize mb wr = W6 at *
      clear hB0 d0 htl2
      go_loopw [11, 67] (fun d i W => ∃ k : Nat, k ≤ N ∧ i = .int .i64 k ∧ d = .int .i64 (tot tu k) ∧ Below w.heap.size w W ∧ Iw W w.heap.size N1 tu ∧ Bw W B0 N (fun i => if i < k then decide (0 < tot tu (i + 1)) else false)) (fun _ i _ => N - (intOf i).toNat)
      case atStart => exact ⟨0, Nat.zero_le _, rfl, rfl, HBM.out, HIM.out, HBW.out.congr (fun i hi => by simp)⟩
      case round =>
        obtain ⟨k, hk, rfl, rfl, hB, hI, hW⟩ := hrel
        rcases Nat.lt_or_ge k N with hlt | hge
        · have hlt1 : (k : Int) < (N1 : Int) := by have := HN1.out; omega
          have z1 := hI.cell (j := k) (by omega)
          have l1 := hI.lt
          have z2 := hW.cell (j := k) hlt
          have f2 := hW.frozen k
          have l2 := hW.lt
          have a1 := tp_bound u k gs
          have a2 := tp_bound u (k + 1) gs
          rw [← HTP.out, HM.out] at a1 a2
          have e1 : tot tu (k + 1) = tot tu k + tu k := rfl
          have hw1 : IntKind.i64.wrap (tot tu k + tu k) = tot tu (k + 1) := by rw [IntKind.wrap_i64, e1]; rw [e1] at a2; omega
          have HG2 : Hid (Below w.heap.size w (wr.setCell ⟨B0, k, none⟩ (.bool (decide (0 < tot tu (k + 1))))) ∧ Iw (wr.setCell ⟨B0, k, none⟩ (.bool (decide (0 < tot tu (k + 1))))) w.heap.size N1 tu ∧ Bw (wr.setCell ⟨B0, k, none⟩ (.bool (decide (0 < tot tu (k + 1))))) B0 N (fun i => if i < k + 1 then decide (0 < tot tu (i + 1)) else false)) := by
            have hms : Mod (fun k => k = B0) wr (wr.setCell ⟨B0, k, none⟩ (.bool (decide (0 < tot tu (k + 1))))) := Mod.setCell (F := fun k => k = B0) wr (p := ⟨B0, k, none⟩) rfl _
            refine ⟨hB.trans (hms.below hB.size (fun k hk => by have := HBB.out; omega)), hI.stay hms (by have := HBB.out; omega), (hW.set hlt _).congr (fun i hi => ?_)⟩
            by_cases e : i = k
            · subst e; simp
            · simp only [if_neg e]
              by_cases e2 : i < k
              · rw [if_pos e2, if_pos (by omega)]
              · rw [if_neg e2, if_neg (by omega)]
          simp only [Nat.lt_irrefl, if_false] at z2
          generalize hx2 : tot tu (k + 1) = x2 at *
          have HX2 := hidden hx2
          clear hx2
          generalize tot tu k = x1 at *
          generalize tu k = x0 at *
          clear hB hI hW a1 a2 e1
          go_wp2
          go_roundw
          case rel => exact ⟨k + 1, by omega, by go_num, by rw [HX2.out], HG2.out⟩
          case measure => simp [intOf]; omega
        · obtain rfl : N = k := by omega
          have HG2 := hidden (And.intro hB hW)
          clear hB hI hW
          go_wp2
          go_ret
          refine ⟨B0, rfl, by have := HBB.out; omega, HG2.out.2.congr (fun i hi => ?_), HG2.out.1⟩
          rw [if_pos hi, HTP.out]
          obtain ⟨_, k2⟩ := tp_pos u i gs HO.out
          rw [Bool.eq_iff_iff, decide_eq_true_eq]
          exact k2
end
end Go.Proofs.Ytjceeckcfjjkkaa.Ob
