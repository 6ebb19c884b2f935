/-
  Bytes as texts; the known list of the law's own.
  Conditions: the numbers lie within their kinds, the cells hold them.
-/
import Derived.Test.YtifdkpifambhaaaParC
namespace Go.Proofs.Ytifdkpifambhaaa.Par
open Go.ChangeShapes Go.WideShapes Go.ChangeAt Go.RowKit
set_option linter.unusedVariables false

/-- bytes as a text -/
theorem conv_row (base : Nat) (w : World) (a : Option Addr) (len cap : Nat) (zs : List Int) (h : Row base w a len zs) :
    (convert 23 9 (.slice a len cap)).run Try.prog w = .ok (.string (strOfNums zs)) w := by
  rcases Nat.eq_zero_or_pos len with rfl | hp
  · obtain rfl := List.eq_nil_of_length_eq_zero h.1
    cases a with
    | none => exact run_convert_bytes_nil w 23 5 Try.underlying23 Try.underlying5 0 cap 9 Try.underlying9
    | some x =>
      rw [run_convert_bytes_string w 23 9 5 _ 0 cap Try.underlying23 Try.underlying5 Try.underlying9]
      exact run_bytesToString w x 0 cap [] (run_loadCells_list w x [] (fun j v hj => by cases hj))
  · obtain ⟨b, off, rfl, _, hc⟩ := h.2.2.2.resolve_left (by omega)
    exact run_convert_bytes_arg w 23 5 Try.underlying23 Try.underlying5 b off len cap zs h.1 hc 9 Try.underlying9
theorem str_inj (xs ys : List Int) (hx : Bytes xs) (hy : Bytes ys) (h : strOfNums xs = strOfNums ys) : xs = ys := by
  have e : xs.map (fun n => UInt8.ofNat n.toNat) = ys.map (fun n => UInt8.ofNat n.toNat) := by
    rw [← strOfNums_data, ← strOfNums_data, h]
  clear h
  induction xs generalizing ys with
  | nil => cases ys with
    | nil => rfl
    | cons y ys => simp at e
  | cons x xs ih => cases ys with
    | nil => simp at e
    | cons y ys =>
      simp only [List.map_cons, List.cons.injEq] at e
      have h1 := hx x (by simp)
      have h2 := hy y (by simp)
      have h3 := congrArg UInt8.toNat e.1
      simp only [UInt8.toNat_ofNat'] at h3
      rw [ih ys (fun n hn => hx n (by simp [hn])) (fun n hn => hy n (by simp [hn])) e.2, show x = y by omega]
theorem str_eq (xs ys : List Int) (hx : Bytes xs) (hy : Bytes ys) : strOfNums xs = strOfNums ys ↔ xs = ys := ⟨str_inj xs ys hx hy, fun h => by rw [h]⟩
/-- a row of the call's own can be read -/
theorem row_own {w : World} {base n : Nat} {v : Value} {zs : List Int} (h : w.ownsRow base 5 1 v n (cs zs)) (hb : Bytes zs) (hn : n ≤ 140737488355328) :
    ∃ a cap, v = .slice a n cap ∧ Row base w a n zs ∧ n ≤ cap ∧ cap ≤ maxLen ∧ (a = none → n = 0 ∧ cap = 0) := by
  obtain ⟨hl, h⟩ := h
  rw [cs_len, Nat.mul_one] at hl
  rcases h with ⟨rfl, rfl⟩ | ⟨g, cap, cur, rfl, hg, hh, hcap, hcm, hsz, htake⟩
  · exact ⟨none, 0, rfl, ⟨hl, hb, hn, .inl rfl⟩, Nat.le_refl _, Nat.zero_le _, (fun _ => ⟨rfl, rfl⟩)⟩
  · refine ⟨_, cap, rfl, ⟨hl, hb, hn, .inr ⟨g, 0, rfl, hg, fun j hj => ?_⟩⟩, hcap, hcm, (fun h => by cases h)⟩
    rw [Nat.mul_one] at htake
    have e := congrArg (fun t => t[j]?) htake
    simp only [List.getElem?_take, if_pos hj, cs, List.getElem?_map, List.getElem?_eq_getElem (show j < zs.length by omega)] at e
    simp only [World.cell?, hh, Nat.zero_add]
    rw [List.getD_eq_getElem?_getD, List.getElem?_eq_getElem (show j < zs.length by omega)]
    simpa using e
theorem Cap.row {w : World} {B g cap : Nat} {xs : List Int} (h : Cap w B g cap xs) (hb : Bytes xs) : Row B w (some ⟨g, 0, none⟩) xs.length xs := by
  have hl : xs.length ≤ 140737488355328 := by obtain ⟨_, _, _, _, h1, h2, _⟩ := h; omega
  obtain ⟨a, cap', e, hr, _⟩ := row_own h.own hb hl
  cases e
  exact hr
theorem vals_bytes {base : Nat} {w : World} {ps : List Prm} (h : ∀ p ∈ ps, One base w p) : ∀ x ∈ ps.map val, (0 ≤ x.1 ∧ x.1 < 65536) ∧ Bytes x.2 := by
  intro x hx
  obtain ⟨p, hp, rfl⟩ := List.mem_map.1 hx
  exact ⟨(h p hp).1, (h p hp).2.1.2.1⟩

/-- the two parameters of the law's own -/
def two (b : Nat) : List Prm := [(7, some ⟨b, 0, none⟩, 3, 3, [1, 2, 3]), (1, none, 0, 0, [])]
theorem two_enc (b : Nat) : enc ((two b).map val) = [0, 7, 0, 7, 1, 2, 3, 0, 0, 1, 0, 4] := by
  show enc [(7, [1, 2, 3]), (1, [])] = _
  decide
theorem two_code (b : Nat) (c : Int) (h : code (two b) c) : c = 0 := by
  rcases h with ⟨h, _⟩ | ⟨_, ⟨p, hp, hl⟩, _⟩ | ⟨_, _, h⟩
  · simp [two] at h
  · simp only [two, List.mem_cons, List.not_mem_nil, or_false] at hp
    rcases hp with rfl | rfl <;> simp at hl
  · exact h
theorem two_str : strOfNums [0, 7, 0, 7, 1, 2, 3, 0, 0, 1, 0, 4] = ⟨#[0, 7, 0, 7, 1, 2, 3, 0, 0, 1, 0, 4]⟩ := by decide
theorem two_prms (w : World) : Prms 0 ((w.alloc (.cells #[.int .u8 1, .int .u8 2, .int .u8 3] 5)).alloc (.cells #[.int .u16 7, .slice (some ⟨w.heap.size, 0, none⟩) 3 3, .int .u16 1, .slice none 0 0] 56)) (some ⟨w.heap.size + 1, 0, none⟩) 2 (two w.heap.size) := by
  have h1 : ((w.alloc (.cells #[.int .u8 1, .int .u8 2, .int .u8 3] 5)).alloc (.cells #[.int .u16 7, .slice (some ⟨w.heap.size, 0, none⟩) 3 3, .int .u16 1, .slice none 0 0] 56)).heap[w.heap.size]? = some (.cells #[.int .u8 1, .int .u8 2, .int .u8 3] 5) := by
    rw [heap_alloc_old _ _ (by simp)]; exact heap_alloc_new w _
  have h2 : ((w.alloc (.cells #[.int .u8 1, .int .u8 2, .int .u8 3] 5)).alloc (.cells #[.int .u16 7, .slice (some ⟨w.heap.size, 0, none⟩) 3 3, .int .u16 1, .slice none 0 0] 56)).heap[w.heap.size + 1]? = some (.cells #[.int .u16 7, .slice (some ⟨w.heap.size, 0, none⟩) 3 3, .int .u16 1, .slice none 0 0] 56) := by
    have := heap_alloc_new (w.alloc (.cells #[.int .u8 1, .int .u8 2, .int .u8 3] 5)) (.cells #[.int .u16 7, .slice (some ⟨w.heap.size, 0, none⟩) 3 3, .int .u16 1, .slice none 0 0] 56)
    rwa [World.size_alloc] at this
  refine ⟨rfl, by decide, ?_, .inr ⟨_, _, rfl, Nat.zero_le _, ?_⟩⟩
  · intro p hp
    simp only [two, List.mem_cons, List.not_mem_nil, or_false] at hp
    rcases hp with rfl | rfl
    · refine ⟨⟨by simp, by simp⟩, ⟨rfl, show ∀ n ∈ ([1, 2, 3] : List Int), 0 ≤ n ∧ n < 256 by decide, by simp, .inr ⟨_, _, rfl, Nat.zero_le _, fun j hj => ?_⟩⟩, by simp, by simp [maxLen], (fun h => by cases h)⟩
      simp only [World.cell?, h1]
      match j, hj with
      | 0, _ => rfl
      | 1, _ => rfl
      | 2, _ => rfl
    · exact ⟨⟨by decide, by decide⟩, ⟨rfl, (fun n hn => by cases hn), by decide, .inl rfl⟩, by decide, by simp [maxLen], (fun _ => ⟨rfl, rfl⟩)⟩
  · intro j p hj
    match j, hj with
    | 0, hj => cases hj; simp only [World.cell?, h2]; exact ⟨rfl, rfl⟩
    | 1, hj => cases hj; simp only [World.cell?, h2]; exact ⟨rfl, rfl⟩

end Go.Proofs.Ytifdkpifambhaaa.Par
