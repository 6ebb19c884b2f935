/-
  What a row of bytes is as a list of parameters; the reader's smallest functions.
  Conditions: the numbers lie within their kinds, the cells hold them.
-/
import Derived.Test.YtifdkpifambhaaaParG
import Derived.Defers
import Derived.Recover
import Derived.Laws.Pointers
import Derived.WalkSmall
namespace Go.Proofs.Ytifdkpifambhaaa.Par
open Go.ChangeShapes Go.WideShapes Go.ChangeAt Go.RowKit
set_option linter.unusedVariables false

/-- the length that stands at a place -/
def ln (zs : List Int) (p : Nat) : Nat := (zs.getD (p + 2) 0 * 256 + zs.getD (p + 3) 0).toNat
/-- where the parameter number k begins -/
def pos (zs : List Int) : Nat → Nat
  | 0 => 0
  | k + 1 => pos zs k + fill4 (ln zs (pos zs k))
/-- it -/
def item (zs : List Int) (k : Nat) : Int × List Int := (zs.getD (pos zs k) 0 * 256 + zs.getD (pos zs k + 1) 0, (zs.drop (pos zs k + 4)).take (ln zs (pos zs k) - 4))
def items (zs : List Int) (k : Nat) : List (Int × List Int) := (List.range k).map (item zs)
/-- there is one -/
def good (zs : List Int) (k : Nat) : Prop := k < 256 ∧ pos zs k + 4 ≤ zs.length ∧ 4 ≤ ln zs (pos zs k) ∧ pos zs k + ln zs (pos zs k) ≤ zs.length
/-- the error where there is none -/
def errOf (k : Nat) : Int := if 256 ≤ k then 3 else 50
/-- what a row is: its list; or where there is none, and why -/
def Out (zs : List Int) (l : List (Int × List Int)) (p : Nat) (e : Int) : Prop :=
  ∃ k, k ≤ 256 ∧ (∀ j, j < k → good zs j) ∧ ((zs.length ≤ pos zs k ∧ l = items zs k ∧ p = 0 ∧ e = 0) ∨ (pos zs k < zs.length ∧ ¬ good zs k ∧ l = [] ∧ p = pos zs k ∧ e = errOf k))
theorem not_good_end {zs : List Int} {k : Nat} (h : zs.length ≤ pos zs k) : ¬ good zs k := fun ⟨_, h1, _⟩ => by omega
theorem Out.one {zs : List Int} {l l' : List (Int × List Int)} {p p' : Nat} {e e' : Int} (h : Out zs l p e) (h' : Out zs l' p' e') : l = l' ∧ p = p' ∧ e = e' := by
  obtain ⟨k, hk, hg, hc⟩ := h
  obtain ⟨k', hk', hg', hc'⟩ := h'
  have hn : ¬ good zs k := by rcases hc with ⟨h1, _⟩ | ⟨_, h1, _⟩; exact not_good_end h1; exact h1
  have hn' : ¬ good zs k' := by rcases hc' with ⟨h1, _⟩ | ⟨_, h1, _⟩; exact not_good_end h1; exact h1
  have e1 : k = k' := by
    rcases Nat.lt_trichotomy k k' with h | h | h
    · exact absurd (hg' k h) hn
    · exact h
    · exact absurd (hg k' h) hn'
  subst e1
  rcases hc with ⟨h1, h2, h3, h4⟩ | ⟨h1, _, h2, h3, h4⟩ <;> rcases hc' with ⟨g1, g2, g3, g4⟩ | ⟨g1, _, g2, g3, g4⟩
  · exact ⟨by rw [h2, g2], by rw [h3, g3], by rw [h4, g4]⟩
  · omega
  · omega
  · exact ⟨by rw [h2, g2], by rw [h3, g3], by rw [h4, g4]⟩
theorem items_succ (zs : List Int) (k : Nat) : items zs (k + 1) = items zs k ++ [item zs k] := by unfold items; rw [List.range_succ, List.map_append]; rfl
theorem ln_eq (zs : List Int) (hz : Bytes zs) (p : Nat) : (ln zs p : Int) = zs.getD (p + 2) 0 * 256 + zs.getD (p + 3) 0 ∧ ln zs p < 65536 := by
  have h1 := at_bound zs hz (p + 2)
  have h2 := at_bound zs hz (p + 3)
  unfold ln
  omega

theorem empty_ (a : Option Addr) (len cap : Nat) (w : World) : Calls Try.prog 91 #[.slice a len cap] w fun e w' => e = .returned (.bool (decide (len = 0))) ∧ w = w' := by
  by_cases h : len = 0
  · subst h
    go_enter Try.func91, Try.ntmps91
    go_wp2
    go_ret
    exact ⟨rfl, rfl⟩
  · rw [decide_eq_false h]
    have h2 : ((len : Int) == 0) = false := by simp; omega
    go_enter Try.func91, Try.ntmps91
    go_wp2
    go_ret
    exact ⟨rfl, rfl⟩
theorem has (a : Option Addr) (len cap n : Nat) (w : World) : Calls Try.prog 97 #[.slice a len cap, .int .i64 (n : Int)] w fun e w' => e = .returned (.bool (decide (n ≤ len))) ∧ w = w' := by
  have h2 : decide ((n : Int) ≤ (len : Int)) = decide (n ≤ len) := by rw [decide_eq_decide]; omega
  go_enter Try.func97, Try.ntmps97
  go_wp2
  go_ret
  exact ⟨rfl, rfl⟩
theorem need_ok (f : Int) (w : World) : Calls Try.prog 93 #[.bool true, .int .i64 f] w fun e w' => e = .returned (.tuple #[]) ∧ w = w' := by
  go_enter Try.func93, Try.ntmps93
  go_wp2
  go_end0
  exact ⟨rfl, rfl⟩
/-- a fault that is thrown -/
def thrown (f : Int) : Ending := .panicked [{ v := .iface 24 (.int .i64 f), recovered := false }]
theorem need_bad (f : Int) (w : World) : Calls Try.prog 93 #[.bool false, .int .i64 f] w fun e w' => e = thrown f ∧ w = w' := by
  go_enter Try.func93, Try.ntmps93
  go_wp2
  exact ⟨rfl, rfl, rfl⟩
theorem number (base : Nat) (w : World) (a : Option Addr) (len cap p : Nat) (zs : List Int) (h : Row base w a len zs) (hp : p + 2 ≤ len) :
    Calls Try.prog 95 #[.slice a len cap, .int .i64 (p : Int)] w fun e w' => e = .returned (.int .u16 (zs.getD p 0 * 256 + zs.getD (p + 1) 0)) ∧ ∃ m, w' = w.drewN m := by
  have hlim := h.2.2.1
  have b0 := at_bound zs h.2.1 p
  have b1 := at_bound zs h.2.1 (p + 1)
  obtain ⟨b, off, rfl, _, hc⟩ := h.2.2.2.resolve_left (by omega)
  have c0 := hc p (by omega)
  have c1 := hc (p + 1) (by omega)
  generalize zs.getD p 0 = x at *
  generalize zs.getD (p + 1) 0 = y at *
  clear hc h
  go_enter Try.func95, Try.ntmps95
  have ho : bits .or .u16 (x * 256) y = x * 256 + y := by
    obtain ⟨X, rfl⟩ : ∃ X : Nat, x = (X : Int) := ⟨x.toNat, by omega⟩
    obtain ⟨Y, rfl⟩ : ∃ Y : Nat, y = (Y : Int) := ⟨y.toNat, by omega⟩
    rw [show (X : Int) * 256 = ((X * 256 : Nat) : Int) by omega, u16_or_nat (X * 256) Y (by omega) (by omega)]
    have := Nat.two_pow_add_eq_or_of_lt (i := 8) (b := Y) (by omega) X
    rw [Nat.mul_comm X, ← this]
    omega
  go_wp2
  go_quiet (fail)
  go_wp2
  go_ret
  exact ⟨rfl, _, rfl⟩

/-- block B is a reader: the bytes that are left, how many parameters were read -/
def Rd (w : World) (B : Nat) (a : Option Addr) (len cap : Nat) (cnt : Int) : Prop := w.heap[B]? = some (.cells #[.slice a len cap, .int .i64 cnt] 116 (0, 0))
theorem Rd.c0 {w : World} {B : Nat} {a : Option Addr} {len cap : Nat} {cnt : Int} (h : Rd w B a len cap cnt) : w.cell? ⟨B, 0, none⟩ = some (.slice a len cap) := by unfold Rd at h; simp [World.cell?, h]
theorem Rd.c1 {w : World} {B : Nat} {a : Option Addr} {len cap : Nat} {cnt : Int} (h : Rd w B a len cap cnt) : w.cell? ⟨B, 1, none⟩ = some (.int .i64 cnt) := by unfold Rd at h; simp [World.cell?, h]
theorem Rd.fr {w : World} {B : Nat} {a : Option Addr} {len cap : Nat} {cnt : Int} (h : Rd w B a len cap cnt) (i : Nat) : w.frozen? ⟨B, i, none⟩ = false := by unfold Rd at h; simp [World.frozen?, h]
theorem Rd.lt {w : World} {B : Nat} {a : Option Addr} {len cap : Nat} {cnt : Int} (h : Rd w B a len cap cnt) : B < w.heap.size := (Array.getElem?_eq_some_iff.1 h).1
theorem Rd.later {w w' : World} {B : Nat} {a : Option Addr} {len cap : Nat} {cnt : Int} (h : Rd w B a len cap cnt) (hb : Below w.heap.size w w') : Rd w' B a len cap cnt := (hb.block B h.lt).trans h
theorem Rd.drewN {w : World} {B : Nat} {a : Option Addr} {len cap : Nat} {cnt : Int} (h : Rd w B a len cap cnt) (n : Nat) : Rd (w.drewN n) B a len cap cnt := h
theorem heap_set (w : World) (b i : Nat) (v : Value) {cs : Array Value} {t : TypeId} (h : w.heap[b]? = some (.cells cs t (0, 0))) : (w.setCell ⟨b, i, none⟩ v).heap[b]? = some (.cells (cs.setIfInBounds i v) t (0, 0)) := by
  simp [World.setCell, Array.getElem?_modify, h]
theorem Rd.s0 {w : World} {B : Nat} {a : Option Addr} {len cap : Nat} {cnt : Int} (h : Rd w B a len cap cnt) (a' : Option Addr) (len' cap' : Nat) : Rd (w.setCell ⟨B, 0, none⟩ (.slice a' len' cap')) B a' len' cap' cnt := heap_set w B 0 _ h
theorem Rd.s1 {w : World} {B : Nat} {a : Option Addr} {len cap : Nat} {cnt : Int} (h : Rd w B a len cap cnt) (c : Int) : Rd (w.setCell ⟨B, 1, none⟩ (.int .i64 c)) B a len cap c := heap_set w B 1 _ h

theorem lenOk (base : Nat) (w : World) (B : Nat) (a : Option Addr) (len cap : Nat) (cnt : Int) (zs : List Int) (hR : Rd w B a len cap cnt) (h : Row base w a len zs) (h4 : 4 ≤ len) (h5 : 4 ≤ ln zs 0) (h6 : ln zs 0 ≤ len) :
    Calls Try.prog 94 #[.pointer (some ⟨B, 0, none⟩)] w fun e w' => e = .returned (.int .i64 (ln zs 0 : Nat)) ∧ ∃ m, w' = w.drewN m := by
  obtain ⟨l1, l2⟩ := ln_eq zs h.2.1 0
  have N := hidden (number base w a len cap 2 zs h (by omega))
  simp only [Nat.zero_add] at l1 N
  rw [← l1] at N
  have c0 := hR.c0
  have HR := hidden hR
  clear l1 hR
  generalize ln zs 0 = n at *
  have H4 := hidden (has a len cap 4 w)
  rw [decide_eq_true h4] at H4
  go_enter Try.func94, Try.ntmps94
  go_wp2_with fail
  refine Calls.mono H4.out ?_
  rintro e w' ⟨rfl, rfl⟩
  go_wp2_with fail
  refine Calls.mono (need_ok 50 _) ?_
  rintro e w' ⟨rfl, rfl⟩
  go_wp2_with fail
  refine Calls.mono N.out ?_
  rintro e w' ⟨rfl, m, rfl⟩
  have c1 := (HR.out.drewN m).c0
  have HN := hidden (has a len cap n (w.drewN m))
  rw [decide_eq_true h6] at HN
  go_wp2_with fail
  refine Calls.mono HN.out ?_
  rintro e w' ⟨rfl, rfl⟩
  go_wp2_with fail
  refine Calls.mono (need_ok 50 _) ?_
  rintro e w' ⟨rfl, rfl⟩
  go_wp2
  go_ret
  exact ⟨rfl, m, rfl⟩
theorem lenBad (base : Nat) (w : World) (B : Nat) (a : Option Addr) (len cap : Nat) (cnt : Int) (zs : List Int) (hR : Rd w B a len cap cnt) (h : Row base w a len zs) (hb : ¬ (4 ≤ len ∧ 4 ≤ ln zs 0 ∧ ln zs 0 ≤ len)) :
    Calls Try.prog 94 #[.pointer (some ⟨B, 0, none⟩)] w fun e w' => e = thrown 50 ∧ ∃ m, w' = w.drewN m := by
  have c0 := hR.c0
  have HR := hidden hR
  clear hR
  have H4 := hidden (has a len cap 4 w)
  by_cases h4 : 4 ≤ len
  · obtain ⟨l1, l2⟩ := ln_eq zs h.2.1 0
    have N := hidden (number base w a len cap 2 zs h (by omega))
    simp only [Nat.zero_add] at l1 N
    rw [← l1] at N
    clear l1
    generalize ln zs 0 = n at *
    rw [decide_eq_true h4] at H4
    go_enter Try.func94, Try.ntmps94
    go_wp2_with fail
    refine Calls.mono H4.out ?_
    rintro e w' ⟨rfl, rfl⟩
    go_wp2_with fail
    refine Calls.mono (need_ok 50 _) ?_
    rintro e w' ⟨rfl, rfl⟩
    go_wp2_with fail
    refine Calls.mono N.out ?_
    rintro e w' ⟨rfl, m, rfl⟩
    have c1 := (HR.out.drewN m).c0
    by_cases h5 : 4 ≤ n
    · have HN := hidden (has a len cap n (w.drewN m))
      rw [decide_eq_false (show ¬ n ≤ len from fun h6 => hb ⟨h4, h5, h6⟩)] at HN
      clear hb
      go_wp2_with fail
      refine Calls.mono HN.out ?_
      rintro e w' ⟨rfl, rfl⟩
      go_wp2_with fail
      refine Calls.mono (need_bad 50 _) ?_
      rintro e w' ⟨rfl, rfl⟩
      exact ⟨rfl, rfl, m, rfl⟩
    · clear hb
      go_wp2_with fail
      refine Calls.mono (need_bad 50 _) ?_
      rintro e w' ⟨rfl, rfl⟩
      exact ⟨rfl, rfl, m, rfl⟩
  · rw [decide_eq_false h4] at H4
    clear hb
    go_enter Try.func94, Try.ntmps94
    go_wp2_with fail
    refine Calls.mono H4.out ?_
    rintro e w' ⟨rfl, rfl⟩
    go_wp2_with fail
    refine Calls.mono (need_bad 50 _) ?_
    rintro e w' ⟨rfl, rfl⟩
    exact ⟨rfl, rfl, 0, rfl⟩
/-- a row from a place on -/
theorem Row.drop {base : Nat} {w : World} {b off len : Nat} {zs : List Int} (h : Row base w (some ⟨b, off, none⟩) len zs) (k : Nat) (hk : k ≤ len) : Row base w (some ⟨b, off + k, none⟩) (len - k) (zs.drop k) := by
  obtain ⟨h1, h2, h3, h4⟩ := h
  refine ⟨by rw [List.length_drop]; omega, fun n hn => h2 n (List.mem_of_mem_drop hn), by omega, ?_⟩
  rcases h4 with h0 | ⟨b', off', e, hbb, hc⟩
  · exact .inl (by omega)
  · cases e
    rcases Nat.eq_zero_or_pos (len - k) with h0 | h0
    · exact .inl h0
    · refine .inr ⟨b, off + k, rfl, hbb, fun j hj => ?_⟩
      rw [Nat.add_assoc, hc (k + j) (by omega), List.getD_eq_getElem?_getD, List.getD_eq_getElem?_getD, List.getElem?_drop]
/-- the address of a slice that is cut at its head -/
def cutA (a : Option Addr) (cap k : Nat) : Option Addr := if cap = k then a else a.map fun x => x.add k
theorem cutA_row {base : Nat} {w : World} {a : Option Addr} {len cap k : Nat} {zs : List Int} (h : Row base w a len zs) (hk : k ≤ len) (hc : len ≤ cap) (hn : a = none → len = 0 ∧ cap = 0) : Row base w (cutA a cap k) (len - k) (zs.drop k) := by
  unfold cutA
  rcases a with _ | ⟨b, off, spot⟩
  · obtain ⟨rfl, rfl⟩ := hn rfl
    obtain rfl : k = 0 := by omega
    simpa using h
  · rcases Nat.eq_zero_or_pos (len - k) with h0 | h0
    · exact ⟨by rw [List.length_drop, h.1], fun n hn => h.2.1 n (List.mem_of_mem_drop hn), by omega, .inl h0⟩
    · rw [if_neg (by omega)]
      obtain ⟨b', off', e, _⟩ := h.2.2.2.resolve_left (by omega)
      cases e
      have hadd : (⟨b, off, none⟩ : Addr).add k = ⟨b, off + k, none⟩ := by unfold Addr.add; split <;> simp_all
      show Row base w (some ((⟨b, off, none⟩ : Addr).add k)) (len - k) (zs.drop k)
      rw [hadd]
      exact h.drop k hk
theorem cutA_none {a : Option Addr} {len cap k : Nat} (hn : a = none → len = 0 ∧ cap = 0) : cutA a cap k = none → len - k = 0 ∧ cap - k = 0 := by
  intro h
  have : a = none := by
    unfold cutA at h
    rcases a with _ | x
    · rfl
    · split at h <;> simp at h
  obtain ⟨rfl, rfl⟩ := hn this
  exact ⟨by omega, by omega⟩
theorem skip (w : World) (B : Nat) (a : Option Addr) (len cap n : Nat) (cnt : Int) (hR : Rd w B a len cap cnt) (hlen : len ≤ cap) (hcap : len ≤ 140737488355328) (hn : n ≤ 140737488355328) :
    Calls Try.prog 96 #[.pointer (some ⟨B, 0, none⟩), .int .i64 (n : Int)] w fun e w' => e = .returned (.tuple #[]) ∧ w' = (w.setCell ⟨B, 0, none⟩ (.slice (cutA a cap (min n len)) (len - min n len) (cap - min n len))).drew := by
  have c0 := hR.c0
  have f0 := hR.fr 0
  have hk : Hid ((if len < n then (len : Int) else (n : Int)).toNat = min n len) := by unfold Hid; split <;> omega
  go_enter Try.func96, Try.ntmps96
  go_wp2
  go_region
  rw [hk.out]
  go_end0
  exact ⟨rfl, rfl⟩
end Go.Proofs.Ytifdkpifambhaaa.Par
