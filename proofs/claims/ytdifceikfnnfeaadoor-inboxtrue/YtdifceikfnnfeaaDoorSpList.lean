/-
  Sets of distances as rising rows of numbers, and rings of bits beside them: mathematics alone, of no program.
  Conditions: each theorem names its own.
-/
import Derived.WalkKit
namespace Go.Proofs.YtdifceikfnnfeaaDoor.Sp
set_option linter.unusedVariables false

/-- is a place of the ring marked? -/
def mk (R : Nat → Nat) (p : Nat) : Bool := (R (p / 64)).testBit (p % 64)
def Fits (R : Nat → Nat) : Prop := ∀ i, R i < 18446744073709551616

/-- rising -/
abbrev Up (L : List Nat) : Prop := L.Pairwise (· < ·)
def Good (lo : Nat) (L : List Nat) : Prop := Up L ∧ ∀ d ∈ L, lo ≤ d ∧ d ≤ 65535
/-- the ring's marks are the distances -/
def Ring (R : Nat → Nat) (c : Nat) (L : List Nat) : Prop := Fits R ∧ ∀ d, d < 65536 → mk R ((c + d) % 65536) = decide (d ∈ L)

theorem ring_zero (c : Nat) : Ring (fun _ => 0) c [] := ⟨fun _ => Nat.zero_lt_succ _, fun d _ => by simp [mk]⟩
theorem good_nil (lo : Nat) : Good lo [] := ⟨.nil, by simp⟩

theorem mk_put (R : Nat → Nat) (p q : Nat) : mk (fun k => if k = p / 64 then R (p / 64) ||| 2 ^ (p % 64) else R k) q = (mk R q || decide (q = p)) := by
  show (if q / 64 = p / 64 then R (p / 64) ||| 2 ^ (p % 64) else R (q / 64)).testBit (q % 64) = ((R (q / 64)).testBit (q % 64) || decide (q = p))
  by_cases h : q / 64 = p / 64
  · rw [if_pos h, Nat.testBit_or, Nat.testBit_two_pow, h]
    congr 1
    exact decide_eq_decide.2 ⟨fun e => by omega, fun e => by rw [e]⟩
  · rw [if_neg h, decide_eq_false (fun e => h (by rw [e])), Bool.or_false]
theorem fits_put (R : Nat → Nat) (hR : Fits R) (p : Nat) : Fits (fun k => if k = p / 64 then R (p / 64) ||| 2 ^ (p % 64) else R k) := by
  intro i
  dsimp only
  split
  · exact Nat.or_lt_two_pow (n := 64) (hR _) (Nat.pow_lt_pow_right (by decide) (by omega))
  · exact hR i
theorem bits_not (j i : Nat) (hj : j < 64) : (18446744073709551615 - 2 ^ j).testBit i = (decide (i < 64) && !decide (j = i)) := by
  have h : 18446744073709551615 - 2 ^ j = 2 ^ 64 - (2 ^ j + 1) := by
    have : 2 ^ j < 2 ^ 64 := Nat.pow_lt_pow_right (by decide) hj
    omega
  rw [h, Nat.testBit_two_pow_sub_succ (Nat.pow_lt_pow_right (by decide) hj), Nat.testBit_two_pow]
theorem mk_take (R : Nat → Nat) (p q : Nat) : mk (fun k => if k = p / 64 then R (p / 64) &&& (18446744073709551615 - 2 ^ (p % 64)) else R k) q = (mk R q && !decide (q = p)) := by
  show (if q / 64 = p / 64 then R (p / 64) &&& (18446744073709551615 - 2 ^ (p % 64)) else R (q / 64)).testBit (q % 64) = ((R (q / 64)).testBit (q % 64) && !decide (q = p))
  by_cases h : q / 64 = p / 64
  · rw [if_pos h, Nat.testBit_and, bits_not (p % 64) _ (Nat.mod_lt _ (by decide)), h, decide_eq_true (Nat.mod_lt q (by decide : 0 < 64)), Bool.true_and]
    congr 2
    exact decide_eq_decide.2 ⟨fun e => by omega, fun e => by rw [e]⟩
  · rw [if_neg h, decide_eq_false (fun e => h (by rw [e])), Bool.not_false, Bool.and_true]
theorem fits_take (R : Nat → Nat) (hR : Fits R) (p : Nat) : Fits (fun k => if k = p / 64 then R (p / 64) &&& (18446744073709551615 - 2 ^ (p % 64)) else R k) := by
  intro i
  dsimp only
  split
  · exact Nat.lt_of_le_of_lt Nat.and_le_left (hR _)
  · exact hR i

/-- put in where it belongs -/
def ins (d : Nat) : List Nat → List Nat
  | [] => [d]
  | x :: xs => if d < x then d :: x :: xs else x :: ins d xs
theorem mem_ins (d e : Nat) : ∀ L, e ∈ ins d L ↔ e = d ∨ e ∈ L
  | [] => by simp [ins]
  | x :: xs => by
    unfold ins; split
    · simp
    · simp only [List.mem_cons, mem_ins d e xs]; constructor <;> (rintro (h | h | h) <;> simp [h])
theorem length_ins (d : Nat) : ∀ L, (ins d L).length = L.length + 1
  | [] => rfl
  | x :: xs => by unfold ins; split <;> simp [length_ins d xs]
theorem up_ins (d : Nat) : ∀ L, Up L → d ∉ L → Up (ins d L)
  | [], _, _ => by simp [ins, Up]
  | x :: xs, h, hd => by
    obtain ⟨h1, h2⟩ := List.pairwise_cons.1 h
    simp only [List.mem_cons, not_or] at hd
    unfold ins; split
    · rename_i hlt
      exact List.pairwise_cons.2 ⟨fun y hy => by rcases List.mem_cons.1 hy with rfl | hy; exact hlt; exact Nat.lt_trans hlt (h1 y hy), h⟩
    · refine List.pairwise_cons.2 ⟨fun y hy => ?_, up_ins d xs h2 hd.2⟩
      rcases (mem_ins d y xs).1 hy with rfl | hy
      · omega
      · exact h1 y hy
theorem good_ins {lo d : Nat} {L : List Nat} (h : Good lo L) (hd : d ∉ L) (h1 : 1 ≤ d ∧ d ≤ 65535) (hl : 1 ≤ lo) : Good 1 (ins d L) :=
  ⟨up_ins d L h.1 hd, fun e he => by rcases (mem_ins d e L).1 he with rfl | he; exact h1; have := h.2 e he; omega⟩
theorem mod_inj {c d e : Nat} (hd : d < 65536) (he : e < 65536) (h : (c + d) % 65536 = (c + e) % 65536) : d = e := by omega
theorem ring_ins {R : Nat → Nat} {c d : Nat} {L : List Nat} (h : Ring R c L) (hd : d < 65536) :
    Ring (fun k => if k = (c + d) % 65536 / 64 then R ((c + d) % 65536 / 64) ||| 2 ^ ((c + d) % 65536 % 64) else R k) c (ins d L) := by
  refine ⟨fits_put R h.1 _, fun e he => ?_⟩
  rw [mk_put, h.2 e he]
  have h1 : ((c + e) % 65536 = (c + d) % 65536) ↔ e = d := ⟨mod_inj he hd, fun h => by rw [h]⟩
  by_cases h2 : e = d
  · subst h2; simp [mem_ins]
  · simp [h1, h2, mem_ins]

/-- taken out -/
def del (d : Nat) (L : List Nat) : List Nat := L.filter fun x => decide (x ≠ d)
theorem mem_del (d e : Nat) (L : List Nat) : e ∈ del d L ↔ e ∈ L ∧ e ≠ d := by simp [del]
theorem good_del {lo d : Nat} {L : List Nat} (h : Good lo L) : Good lo (del d L) := ⟨h.1.filter _, fun e he => h.2 e ((mem_del d e L).1 he).1⟩
theorem length_del (d : Nat) : ∀ L, Up L → d ∈ L → (del d L).length + 1 = L.length
  | [], _, h => by simp at h
  | x :: xs, h, hd => by
    obtain ⟨h1, h2⟩ := List.pairwise_cons.1 h
    rcases List.mem_cons.1 hd with rfl | hd
    · have : del d xs = xs := List.filter_eq_self.2 fun y hy => by have := h1 y hy; simp; omega
      simp only [del] at this ⊢
      rw [List.filter_cons, this]
      simp
    · have := length_del d xs h2 hd
      have hx : x ≠ d := by have := h1 d hd; omega
      simp only [del, List.filter_cons] at this ⊢
      simp [hx]; simp at this; omega
theorem ring_del {R : Nat → Nat} {c d : Nat} {L : List Nat} (h : Ring R c L) (hd : d < 65536) :
    Ring (fun k => if k = (c + d) % 65536 / 64 then R ((c + d) % 65536 / 64) &&& (18446744073709551615 - 2 ^ ((c + d) % 65536 % 64)) else R k) c (del d L) := by
  refine ⟨fits_take R h.1 _, fun e he => ?_⟩
  rw [mk_take, h.2 e he]
  have h1 : ((c + e) % 65536 = (c + d) % 65536) ↔ e = d := ⟨mod_inj he hd, fun h => by rw [h]⟩
  by_cases h2 : e = d
  · subst h2; simp [mem_del]
  · simp [h1, h2, mem_del]

/-- how many stand side by side from n + 1 on -/
def lead : List Nat → Nat → Nat
  | [], _ => 0
  | x :: xs, n => if x = n + 1 then lead xs (n + 1) + 1 else 0
/-- moved back -/
def back (n : Nat) (L : List Nat) : List Nat := (L.drop n).map (· - n)
theorem lead_le : ∀ L n, lead L n ≤ L.length
  | [], _ => Nat.le_refl _
  | x :: xs, n => by unfold lead; split <;> simp [lead_le xs (n + 1)]
theorem lead_at : ∀ L n k, k < lead L n → L[k]? = some (n + k + 1)
  | [], n, k, h => by simp [lead] at h
  | x :: xs, n, k, h => by
    unfold lead at h; split at h
    · rename_i hx
      cases k with
      | zero => simp [hx]
      | succ k => rw [List.getElem?_cons_succ, lead_at xs (n + 1) k (by omega)]; congr 1; omega
    · omega
theorem lead_stop : ∀ L n, L[lead L n]? ≠ some (n + lead L n + 1)
  | [], n => by simp
  | x :: xs, n => by
    unfold lead; split
    · rename_i hx
      rw [List.getElem?_cons_succ]
      have := lead_stop xs (n + 1)
      intro h; apply this; rw [h]; congr 1; omega
    · rename_i hx
      simp; omega

theorem lead_drop {L : List Nat} (h : Good 1 L) (k : Nat) (hk : k ≤ lead L 0) : ∀ x ∈ L.drop k, k + 1 ≤ x := by
  intro x hx
  cases k with
  | zero => exact (h.2 x (List.mem_of_mem_drop hx)).1
  | succ m =>
    obtain ⟨i, hi⟩ := List.mem_iff_getElem?.1 hx
    rw [List.getElem?_drop] at hi
    have h1 := lead_at L 0 m (by omega)
    have := (List.pairwise_iff_getElem.1 h.1) m (m + 1 + i) (List.getElem?_eq_some_iff.1 h1).1 (List.getElem?_eq_some_iff.1 hi).1 (by omega)
    rw [(List.getElem?_eq_some_iff.1 h1).2, (List.getElem?_eq_some_iff.1 hi).2] at this
    omega
theorem good_back {L : List Nat} (h : Good 1 L) (k : Nat) (hk : k ≤ lead L 0) : Good 1 (back k L) := by
  have hd := lead_drop h k hk
  refine ⟨List.pairwise_map.2 (List.Pairwise.imp_of_mem (fun {a b} ha hb hab => ?_) (h.1.drop (i := k))), fun d hd' => ?_⟩
  · have := hd a ha; have := hd b hb; omega
  · obtain ⟨x, hx, rfl⟩ := List.mem_map.1 hd'
    have := hd x hx
    have := (h.2 x (List.mem_of_mem_drop hx)).2
    omega
theorem back_cons {L : List Nat} (h : Good 1 L) (k : Nat) (hk : k < lead L 0) : 1 ∈ back k L ∧ (del 1 (back k L)).map (· - 1) = back (k + 1) L ∧ Good 2 (del 1 (back k L)) := by
  have h1 := lead_at L 0 k hk
  have hd : L.drop k = (k + 1) :: L.drop (k + 1) := by
    obtain ⟨hlt, he⟩ := List.getElem?_eq_some_iff.1 h1
    rw [List.drop_eq_getElem_cons hlt, he]; congr 1; omega
  have hb : back k L = 1 :: (L.drop (k + 1)).map (· - k) := by
    unfold back; rw [hd]; simp
  have hr := lead_drop h (k + 1) (by omega)
  have hdel : del 1 (back k L) = (L.drop (k + 1)).map (· - k) := by
    rw [hb]; unfold del
    rw [List.filter_cons, if_neg (by simp)]
    refine List.filter_eq_self.2 fun y hy => ?_
    obtain ⟨x, hx, rfl⟩ := List.mem_map.1 hy
    have := hr x hx
    simp; omega
  refine ⟨by rw [hb]; simp, ?_, ?_⟩
  · rw [hdel]; unfold back; rw [List.map_map]
    exact List.map_congr_left fun x hx => by simp; omega
  · have hg := good_del (d := 1) (good_back h k (by omega))
    exact ⟨hg.1, fun e he => by have := hg.2 e he; have := ((mem_del 1 e _).1 he).2; omega⟩
theorem good_two {L : List Nat} (h : Good 1 L) (h1 : 1 ∉ L) : Good 2 L := ⟨h.1, fun d hd => by have := h.2 d hd; have : d ≠ 1 := fun e => h1 (e ▸ hd); omega⟩
theorem back_stop {L : List Nat} (h : Good 1 L) : 1 ∉ back (lead L 0) L := by
  intro h1
  obtain ⟨x, hx, he⟩ := List.mem_map.1 h1
  have hge := lead_drop h _ (Nat.le_refl _) x hx
  have hx2 : x = lead L 0 + 1 := by omega
  obtain ⟨i, hi⟩ := List.mem_iff_getElem?.1 hx
  rw [List.getElem?_drop] at hi
  have hs := lead_stop L 0
  cases i with
  | zero => apply hs; rw [Nat.add_zero] at hi; rw [hi, hx2]; congr 1; omega
  | succ i =>
    have hlt := (List.getElem?_eq_some_iff.1 hi).1
    have hlt0 : lead L 0 < L.length := by omega
    have hp := (List.pairwise_iff_getElem.1 h.1) (lead L 0) (lead L 0 + (i + 1)) hlt0 hlt (by omega)
    rw [(List.getElem?_eq_some_iff.1 hi).2] at hp
    have hm : L[lead L 0] ∈ L.drop (lead L 0) := List.mem_iff_getElem?.2 ⟨0, by rw [List.getElem?_drop]; simp [hlt0]⟩
    have := lead_drop h _ (Nat.le_refl _) _ hm
    omega
theorem ring_shift {R : Nat → Nat} {c : Nat} {L : List Nat} (h : Ring R c L) (hg : Good 2 L) : Ring R (c + 1) (L.map (· - 1)) := by
  refine ⟨h.1, fun d hd => ?_⟩
  by_cases e : d = 65535
  · subst e
    have h0 := h.2 0 (by omega)
    rw [show (c + 1 + 65535) % 65536 = (c + 0) % 65536 by omega, h0]
    refine decide_eq_decide.2 ⟨fun h0 => ?_, fun h0 => ?_⟩
    · have := hg.2 0 h0; omega
    · obtain ⟨x, hx, he⟩ := List.mem_map.1 h0; have := hg.2 x hx; omega
  · rw [show (c + 1 + d) % 65536 = (c + (d + 1)) % 65536 by omega, h.2 (d + 1) (by omega)]
    refine decide_eq_decide.2 ⟨fun h0 => List.mem_map.2 ⟨d + 1, h0, by omega⟩, fun h0 => ?_⟩
    obtain ⟨x, hx, he⟩ := List.mem_map.1 h0
    have := hg.2 x hx
    rw [show d + 1 = x by omega]; exact hx
theorem ring_cong {R : Nat → Nat} {c c' : Nat} {L : List Nat} (h : Ring R c L) (hc : c % 65536 = c' % 65536) : Ring R c' L :=
  ⟨h.1, fun d hd => by rw [← h.2 d hd]; congr 1; omega⟩
theorem length_back (L : List Nat) (k : Nat) : (back k L).length = L.length - k := by simp [back]
theorem good_len {lo : Nat} : ∀ {L : List Nat}, Good lo L → L.length ≤ 65536 := by
  have key : ∀ (L : List Nat) (lo : Nat), Good lo L → lo ≤ 65536 → L.length + lo ≤ 65536 := by
    intro L
    induction L with
    | nil => intro lo h hl; simpa using hl
    | cons x xs ih =>
      intro lo h hl
      obtain ⟨h1, h2⟩ := List.pairwise_cons.1 h.1
      have hx := h.2 x (by simp)
      have := ih (x + 1) ⟨h2, fun d hd => ⟨h1 d hd, (h.2 d (by simp [hd])).2⟩⟩ (by omega)
      simp; omega
  intro L h
  have := key L 0 ⟨h.1, fun d hd => ⟨Nat.zero_le _, (h.2 d hd).2⟩⟩ (by omega)
  omega
theorem good_cons {lo x : Nat} {xs : List Nat} (h : Good lo (x :: xs)) : Good (x + 1) xs ∧ lo ≤ x ∧ x ≤ 65535 := by
  obtain ⟨h1, h2⟩ := List.pairwise_cons.1 h.1
  exact ⟨⟨h2, fun d hd => ⟨h1 d hd, (h.2 d (by simp [hd])).2⟩⟩, h.2 x (by simp)⟩

/-- how many stand side by side with x, it among them -/
def ld : Nat → List Nat → Nat
  | _, [] => 1
  | x, y :: ys => if y = x + 1 then ld y ys + 1 else 1
/-- the blocks -/
def blk : List Nat → List (Nat × Nat)
  | [] => []
  | x :: xs => match blk xs with
    | [] => [(x, x)]
    | (s, e) :: r => if s = x + 1 then (x, e) :: r else (x, x) :: (s, e) :: r
theorem ld_pos (x : Nat) (xs : List Nat) : 1 ≤ ld x xs := by cases xs with | nil => simp [ld] | cons y ys => simp only [ld]; split <;> omega
theorem ld_le : ∀ (x : Nat) (xs : List Nat), ld x xs ≤ xs.length + 1
  | _, [] => by simp [ld]
  | x, y :: ys => by have := ld_le y ys; simp only [ld]; split <;> simp <;> omega
theorem blk_cons : ∀ (x : Nat) (xs : List Nat), blk (x :: xs) = (x, x + ld x xs - 1) :: blk (xs.drop (ld x xs - 1))
  | x, [] => by simp [blk, ld]
  | x, y :: ys => by
    have ih := blk_cons y ys
    rw [blk, ih]
    simp only [ld]
    by_cases h : y = x + 1
    · subst h
      have := ld_pos (x + 1) ys
      simp only [if_pos]
      refine List.cons_eq_cons.2 ⟨by simp, ?_⟩
      rw [show ld (x + 1) ys + 1 - 1 = (ld (x + 1) ys - 1) + 1 by omega, List.drop_succ_cons]
    · simp only [if_neg h]
      rw [show (1 : Nat) - 1 = 0 from rfl, List.drop_zero, ih]
      simp
/-- what stands side by side with x is in, what comes behind is not -/
theorem ld_mem : ∀ (x : Nat) (xs : List Nat) (k : Nat), k < ld x xs → x + k ∈ x :: xs
  | x, [], k, h => by simp [ld] at h; simp [h]
  | x, y :: ys, k, h => by
    simp only [ld] at h
    cases k with
    | zero => simp
    | succ k =>
      split at h
      · rename_i hy; subst hy
        have := ld_mem (x + 1) ys k (by omega)
        rw [show x + (k + 1) = x + 1 + k by omega]
        exact List.mem_cons_of_mem _ this
      · omega
theorem ld_stop : ∀ (x : Nat) (xs : List Nat), Up (x :: xs) → x + ld x xs ∉ x :: xs
  | x, [], _ => by simp [ld]
  | x, y :: ys, h => by
    obtain ⟨h1, h2⟩ := List.pairwise_cons.1 h
    simp only [ld]
    split
    · rename_i hy; subst hy
      have := ld_stop (x + 1) ys h2
      rw [show x + (ld (x + 1) ys + 1) = x + 1 + ld (x + 1) ys by omega]
      intro hm; rcases List.mem_cons.1 hm with e | hm
      · omega
      · exact this hm
    · rename_i hy
      intro hm
      simp only [List.mem_cons] at hm
      obtain ⟨h3, h4⟩ := List.pairwise_cons.1 h2
      have := h1 y (by simp)
      rcases hm with e | e | e
      · omega
      · omega
      · have := h3 _ e; omega
/-- a row begins with what stands side by side -/
theorem ld_split : ∀ (x : Nat) (xs : List Nat), x :: xs = List.range' x (ld x xs) ++ xs.drop (ld x xs - 1)
  | x, [] => by simp [ld]
  | x, y :: ys => by
    simp only [ld]
    split
    · rename_i h; subst h
      have ih := ld_split (x + 1) ys
      have hp := ld_pos (x + 1) ys
      rw [show ld (x + 1) ys + 1 - 1 = (ld (x + 1) ys - 1) + 1 by omega, List.drop_succ_cons, List.range'_succ, List.cons_append, ← ih]
    · simp
theorem ld_rest {x : Nat} {xs : List Nat} (h : Up (x :: xs)) : ∀ y ∈ xs.drop (ld x xs - 1), x + ld x xs < y := by
  intro y hy
  have hs := ld_split x xs
  have hst := ld_stop x xs h
  have hp := ld_pos x xs
  rw [hs] at h hst
  have h1 := (List.pairwise_append.1 h).2.2 (x + ld x xs - 1) (by rw [List.mem_range'_1]; omega) y hy
  have : y ≠ x + ld x xs := fun e => hst (by rw [← e]; exact List.mem_append_right _ hy)
  omega
/-- between two numbers of a rising row: the part of it that is still to come -/
def Rest (L : List Nat) (D : Nat) (M : List Nat) : Prop := ∃ P, L = P ++ M ∧ (∀ x ∈ P, x < D) ∧ (∀ x ∈ M, D ≤ x)
theorem Rest.start {L : List Nat} (h : Good 2 L) : Rest L 2 L := ⟨[], rfl, by simp, fun x hx => (h.2 x hx).1⟩
theorem Rest.good {L M : List Nat} {D : Nat} (h : Good 2 L) (hr : Rest L D M) : Good 2 M := by
  obtain ⟨P, e, _, _⟩ := hr
  exact ⟨(List.pairwise_append.1 (e ▸ h.1)).2.1, fun d hd => h.2 d (by rw [e]; exact List.mem_append_right _ hd)⟩
theorem Rest.mem {L M : List Nat} {D d : Nat} (hr : Rest L D M) (hd : D ≤ d) : d ∈ L ↔ d ∈ M := by
  obtain ⟨P, e, h1, h2⟩ := hr
  rw [e, List.mem_append]
  exact ⟨fun h => h.elim (fun h => by have := h1 d h; omega) id, .inr⟩
theorem Rest.next {L : List Nat} {D x : Nat} {xs : List Nat} (h : Good 2 L) (hr : Rest L D (x :: xs)) : Rest L (x + ld x xs) (xs.drop (ld x xs - 1)) := by
  have hg := hr.good h
  obtain ⟨P, e, h1, h2⟩ := hr
  refine ⟨P ++ List.range' x (ld x xs), by rw [e, List.append_assoc, ← ld_split], fun y hy => ?_, fun y hy => by have := ld_rest hg.1 y hy; omega⟩
  rcases List.mem_append.1 hy with hy | hy
  · have := h1 y hy; have := h2 x (by simp); have := ld_pos x xs; omega
  · rw [List.mem_range'_1] at hy; omega
theorem Rest.gap {L : List Nat} {D x : Nat} {xs : List Nat} (h : Good 2 L) (hr : Rest L D (x :: xs)) : D ≤ x ∧ x ≤ 65535 ∧ x ∈ L ∧ (∀ d, D ≤ d → d < x → d ∉ L) ∧ (∀ i, i < ld x xs → x + i ∈ L) ∧ x + ld x xs ∉ L ∧ x + ld x xs ≤ 65536 ∧ 1 ≤ ld x xs := by
  have hg := hr.good h
  have hx := hg.2 x (by simp)
  have hDx : D ≤ x := by obtain ⟨P, e, h1, h2⟩ := hr; exact h2 x (by simp)
  have hin : ∀ i, i < ld x xs → x + i ∈ L := fun i hi => (hr.mem (by omega)).2 (ld_mem x xs i hi)
  refine ⟨hDx, hx.2, (hr.mem hDx).2 (by simp), fun d h1 h2 hd => ?_, hin, fun hd => ld_stop x xs hg.1 ((hr.mem (by omega)).1 hd), ?_, ld_pos x xs⟩
  · have := (hr.mem h1).1 hd
    rcases List.mem_cons.1 this with rfl | hm
    · omega
    · have := (List.pairwise_cons.1 hg.1).1 d hm; omega
  · have := h.2 _ (hin (ld x xs - 1) (by have := ld_pos x xs; omega))
    have := ld_pos x xs
    omega
/-- the ring beside it -/
theorem ring_gap {R : Nat → Nat} {c : Nat} {L : List Nat} (hR : Ring R c L) (h : Good 2 L) {D x : Nat} {xs : List Nat} (hr : Rest L D (x :: xs)) {f : Nat} (hf : f % 65536 = (c + D) % 65536) :
    (∀ i, i < x - D → mk R ((f + i) % 65536) = false) ∧ mk R ((f + (x - D)) % 65536) = !false := by
  obtain ⟨h1, h2, h3, h4, _⟩ := hr.gap h
  refine ⟨fun i hi => ?_, ?_⟩
  · rw [show (f + i) % 65536 = (c + (D + i)) % 65536 by omega, hR.2 _ (by omega)]
    exact decide_eq_false (h4 _ (by omega) (by omega))
  · rw [show (f + (x - D)) % 65536 = (c + x) % 65536 by omega, hR.2 _ (by omega)]
    exact decide_eq_true h3
theorem ring_run {R : Nat → Nat} {c : Nat} {L : List Nat} (hR : Ring R c L) (h : Good 2 L) {D x : Nat} {xs : List Nat} (hr : Rest L D (x :: xs)) {f : Nat} (hf : f % 65536 = (c + x) % 65536) :
    (∀ i, i < ld x xs → mk R ((f + i) % 65536) = true) ∧ mk R ((f + ld x xs) % 65536) = !true := by
  obtain ⟨h1, h2, h3, h4, h5, h6, h7, h8⟩ := hr.gap h
  refine ⟨fun i hi => ?_, ?_⟩
  · rw [show (f + i) % 65536 = (c + (x + i)) % 65536 by omega, hR.2 _ (by omega)]
    exact decide_eq_true (h5 i hi)
  · by_cases e : x + ld x xs = 65536
    · rw [show (f + ld x xs) % 65536 = (c + 0) % 65536 by omega, hR.2 _ (by omega)]
      exact decide_eq_false (fun h0 => by have := h.2 0 h0; omega)
    · rw [show (f + ld x xs) % 65536 = (c + (x + ld x xs)) % 65536 by omega, hR.2 _ (by omega)]
      exact decide_eq_false h6
end Go.Proofs.YtdifceikfnnfeaaDoor.Sp
