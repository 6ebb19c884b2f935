/-
  What a row of bytes is as a list of parameters; the reader's smallest functions. The reader's next parameter. The reader's list, and what Decode of package param answers. A list's bytes are read as that list; a row that is a list is written with no more bytes, and fewer than four less.
  Conditions: as at each lemma.
-/
import Derived.Test.YtmnndkhdekpecaaGreatDoorPa
import Derived.Defers
import Derived.Recover
import Derived.Laws.Pointers
import Derived.WalkSmall
import Derived.Deep.Cut
import Derived.Deep.DrawnRows
namespace Go.Proofs.YtmnndkhdekpecaaGreatDoor.Par
open Go.ChangeShapes Go.WideShapes Go.ChangeAt Go.RowKit
set_option linter.unusedVariables false

/-- the length that stands at a place -/
def ln (zs : List Int) (p : Nat) : Nat := (zs.getD (p + 2) 0 * 256 + zs.getD (p + 3) 0).toNat
/-- where the parameter number k begins -/
def pos (zs : List Int) : Nat → Nat
  | 0 => 0
  | k + 1 => pos zs k + fill4 (ln zs (pos zs k))
/-- it -/
def item (zs : List Int) (k : Nat) : Int × List Int := (zs.getD (pos zs k) 0 * 256 + zs.getD (pos zs k + 1) 0, (zs.drop (pos zs k + 4)).take (ln zs (pos zs k) - 4))
def items (zs : List Int) (k : Nat) : List (Int × List Int) := (List.range k).map (item zs)
/-- there is one -/
def good (zs : List Int) (k : Nat) : Prop := k < 256 ∧ pos zs k + 4 ≤ zs.length ∧ 4 ≤ ln zs (pos zs k) ∧ pos zs k + ln zs (pos zs k) ≤ zs.length
/-- the error where there is none -/
def errOf (k : Nat) : Int := if 256 ≤ k then 3 else 50
/-- what a row is: its list; or where there is none, and why -/
def Out (zs : List Int) (l : List (Int × List Int)) (p : Nat) (e : Int) : Prop :=
  ∃ k, k ≤ 256 ∧ (∀ j, j < k → good zs j) ∧ ((zs.length ≤ pos zs k ∧ l = items zs k ∧ p = 0 ∧ e = 0) ∨ (pos zs k < zs.length ∧ ¬ good zs k ∧ l = [] ∧ p = pos zs k ∧ e = errOf k))
theorem not_good_end {zs : List Int} {k : Nat} (h : zs.length ≤ pos zs k) : ¬ good zs k := fun ⟨_, h1, _⟩ => by omega
theorem Out.one {zs : List Int} {l l' : List (Int × List Int)} {p p' : Nat} {e e' : Int} (h : Out zs l p e) (h' : Out zs l' p' e') : l = l' ∧ p = p' ∧ e = e' := by
  obtain ⟨k, hk, hg, hc⟩ := h
  obtain ⟨k', hk', hg', hc'⟩ := h'
  have hn : ¬ good zs k := by rcases hc with ⟨h1, _⟩ | ⟨_, h1, _⟩; exact not_good_end h1; exact h1
  have hn' : ¬ good zs k' := by rcases hc' with ⟨h1, _⟩ | ⟨_, h1, _⟩; exact not_good_end h1; exact h1
  have e1 : k = k' := by
    rcases Nat.lt_trichotomy k k' with h | h | h
    · exact absurd (hg' k h) hn
    · exact h
    · exact absurd (hg k' h) hn'
  subst e1
  rcases hc with ⟨h1, h2, h3, h4⟩ | ⟨h1, _, h2, h3, h4⟩ <;> rcases hc' with ⟨g1, g2, g3, g4⟩ | ⟨g1, _, g2, g3, g4⟩
  · exact ⟨by rw [h2, g2], by rw [h3, g3], by rw [h4, g4]⟩
  · omega
  · omega
  · exact ⟨by rw [h2, g2], by rw [h3, g3], by rw [h4, g4]⟩
theorem items_succ (zs : List Int) (k : Nat) : items zs (k + 1) = items zs k ++ [item zs k] := by unfold items; rw [List.range_succ, List.map_append]; rfl
theorem ln_eq (zs : List Int) (hz : Bytes zs) (p : Nat) : (ln zs p : Int) = zs.getD (p + 2) 0 * 256 + zs.getD (p + 3) 0 ∧ ln zs p < 65536 := by
  have h1 := at_bound zs hz (p + 2)
  have h2 := at_bound zs hz (p + 3)
  unfold ln
  omega

theorem empty_ (a : Option Addr) (len cap : Nat) (w : World) : Calls Tryz.prog 140 #[.slice a len cap] w fun e w' => e = .returned (.bool (decide (len = 0))) ∧ w = w' := by
  by_cases h : len = 0
  · subst h
    go_enter Tryz.func140, Tryz.ntmps140
    go_wp2
    go_ret
    exact ⟨rfl, rfl⟩
  · rw [decide_eq_false h]
    have h2 : ((len : Int) == 0) = false := by simp; omega
    go_enter Tryz.func140, Tryz.ntmps140
    go_wp2
    go_ret
    exact ⟨rfl, rfl⟩
theorem has (a : Option Addr) (len cap n : Nat) (w : World) : Calls Tryz.prog 146 #[.slice a len cap, .int .i64 (n : Int)] w fun e w' => e = .returned (.bool (decide (n ≤ len))) ∧ w = w' := by
  have h2 : decide ((n : Int) ≤ (len : Int)) = decide (n ≤ len) := by rw [decide_eq_decide]; omega
  go_enter Tryz.func146, Tryz.ntmps146
  go_wp2
  go_ret
  exact ⟨rfl, rfl⟩
theorem need_ok (f : Int) (w : World) : Calls Tryz.prog 142 #[.bool true, .int .i64 f] w fun e w' => e = .returned (.tuple #[]) ∧ w = w' := by
  go_enter Tryz.func142, Tryz.ntmps142
  go_wp2
  go_end0
  exact ⟨rfl, rfl⟩
/-- a fault that is thrown -/
def thrown (f : Int) : Ending := .panicked [{ v := .iface 28 (.int .i64 f), recovered := false }]
theorem need_bad (f : Int) (w : World) : Calls Tryz.prog 142 #[.bool false, .int .i64 f] w fun e w' => e = thrown f ∧ w = w' := by
  go_enter Tryz.func142, Tryz.ntmps142
  go_wp2
  exact ⟨rfl, rfl, rfl⟩
theorem number (base : Nat) (w : World) (a : Option Addr) (len cap p : Nat) (zs : List Int) (h : Row base w a len zs) (hp : p + 2 ≤ len) :
    Calls Tryz.prog 144 #[.slice a len cap, .int .i64 (p : Int)] w fun e w' => e = .returned (.int .u16 (zs.getD p 0 * 256 + zs.getD (p + 1) 0)) ∧ ∃ m, w' = w.drewN m := by
  have hlim := h.2.2.1
  have b0 := at_bound zs h.2.1 p
  have b1 := at_bound zs h.2.1 (p + 1)
  obtain ⟨b, off, rfl, _, hc⟩ := h.2.2.2.resolve_left (by omega)
  have c0 := hc p (by omega)
  have c1 := hc (p + 1) (by omega)
  generalize zs.getD p 0 = x at *
  generalize zs.getD (p + 1) 0 = y at *
  clear hc h
  go_enter Tryz.func144, Tryz.ntmps144
  have ho : bits .or .u16 (x * 256) y = x * 256 + y := by
    obtain ⟨X, rfl⟩ : ∃ X : Nat, x = (X : Int) := ⟨x.toNat, by omega⟩
    obtain ⟨Y, rfl⟩ : ∃ Y : Nat, y = (Y : Int) := ⟨y.toNat, by omega⟩
    rw [show (X : Int) * 256 = ((X * 256 : Nat) : Int) by omega, u16_or_nat (X * 256) Y (by omega) (by omega)]
    have := Nat.two_pow_add_eq_or_of_lt (i := 8) (b := Y) (by omega) X
    rw [Nat.mul_comm X, ← this]
    omega
  go_wp2
  go_quiet (fail)
  go_wp2
  go_ret
  exact ⟨rfl, _, rfl⟩

/-- block B is a reader: the bytes that are left, how many parameters were read -/
def Rd (w : World) (B : Nat) (a : Option Addr) (len cap : Nat) (cnt : Int) : Prop := w.heap[B]? = some (.cells #[.slice a len cap, .int .i64 cnt] 172 (0, 0))
theorem Rd.c0 {w : World} {B : Nat} {a : Option Addr} {len cap : Nat} {cnt : Int} (h : Rd w B a len cap cnt) : w.cell? ⟨B, 0, none⟩ = some (.slice a len cap) := by unfold Rd at h; simp [World.cell?, h]
theorem Rd.c1 {w : World} {B : Nat} {a : Option Addr} {len cap : Nat} {cnt : Int} (h : Rd w B a len cap cnt) : w.cell? ⟨B, 1, none⟩ = some (.int .i64 cnt) := by unfold Rd at h; simp [World.cell?, h]
theorem Rd.fr {w : World} {B : Nat} {a : Option Addr} {len cap : Nat} {cnt : Int} (h : Rd w B a len cap cnt) (i : Nat) : w.frozen? ⟨B, i, none⟩ = false := by unfold Rd at h; simp [World.frozen?, h]
theorem Rd.lt {w : World} {B : Nat} {a : Option Addr} {len cap : Nat} {cnt : Int} (h : Rd w B a len cap cnt) : B < w.heap.size := (Array.getElem?_eq_some_iff.1 h).1
theorem Rd.later {w w' : World} {B : Nat} {a : Option Addr} {len cap : Nat} {cnt : Int} (h : Rd w B a len cap cnt) (hb : Below w.heap.size w w') : Rd w' B a len cap cnt := (hb.block B h.lt).trans h
theorem Rd.drewN {w : World} {B : Nat} {a : Option Addr} {len cap : Nat} {cnt : Int} (h : Rd w B a len cap cnt) (n : Nat) : Rd (w.drewN n) B a len cap cnt := h
theorem heap_set (w : World) (b i : Nat) (v : Value) {cs : Array Value} {t : TypeId} (h : w.heap[b]? = some (.cells cs t (0, 0))) : (w.setCell ⟨b, i, none⟩ v).heap[b]? = some (.cells (cs.setIfInBounds i v) t (0, 0)) := by
  simp [World.setCell, Array.getElem?_modify, h]
theorem Rd.s0 {w : World} {B : Nat} {a : Option Addr} {len cap : Nat} {cnt : Int} (h : Rd w B a len cap cnt) (a' : Option Addr) (len' cap' : Nat) : Rd (w.setCell ⟨B, 0, none⟩ (.slice a' len' cap')) B a' len' cap' cnt := heap_set w B 0 _ h
theorem Rd.s1 {w : World} {B : Nat} {a : Option Addr} {len cap : Nat} {cnt : Int} (h : Rd w B a len cap cnt) (c : Int) : Rd (w.setCell ⟨B, 1, none⟩ (.int .i64 c)) B a len cap c := heap_set w B 1 _ h

theorem lenOk (base : Nat) (w : World) (B : Nat) (a : Option Addr) (len cap : Nat) (cnt : Int) (zs : List Int) (hR : Rd w B a len cap cnt) (h : Row base w a len zs) (h4 : 4 ≤ len) (h5 : 4 ≤ ln zs 0) (h6 : ln zs 0 ≤ len) :
    Calls Tryz.prog 143 #[.pointer (some ⟨B, 0, none⟩)] w fun e w' => e = .returned (.int .i64 (ln zs 0 : Nat)) ∧ ∃ m, w' = w.drewN m := by
  obtain ⟨l1, l2⟩ := ln_eq zs h.2.1 0
  have N := hidden (number base w a len cap 2 zs h (by omega))
  simp only [Nat.zero_add] at l1 N
  rw [← l1] at N
  have c0 := hR.c0
  have HR := hidden hR
  clear l1 hR
  generalize ln zs 0 = n at *
  have H4 := hidden (has a len cap 4 w)
  rw [decide_eq_true h4] at H4
  go_enter Tryz.func143, Tryz.ntmps143
  go_wp2_with fail
  refine Calls.mono H4.out ?_
  rintro e w' ⟨rfl, rfl⟩
  go_wp2_with fail
  refine Calls.mono (need_ok 50 _) ?_
  rintro e w' ⟨rfl, rfl⟩
  go_wp2_with fail
  refine Calls.mono N.out ?_
  rintro e w' ⟨rfl, m, rfl⟩
  have c1 := (HR.out.drewN m).c0
  have HN := hidden (has a len cap n (w.drewN m))
  rw [decide_eq_true h6] at HN
  go_wp2_with fail
  refine Calls.mono HN.out ?_
  rintro e w' ⟨rfl, rfl⟩
  go_wp2_with fail
  refine Calls.mono (need_ok 50 _) ?_
  rintro e w' ⟨rfl, rfl⟩
  go_wp2
  go_ret
  exact ⟨rfl, m, rfl⟩
theorem lenBad (base : Nat) (w : World) (B : Nat) (a : Option Addr) (len cap : Nat) (cnt : Int) (zs : List Int) (hR : Rd w B a len cap cnt) (h : Row base w a len zs) (hb : ¬ (4 ≤ len ∧ 4 ≤ ln zs 0 ∧ ln zs 0 ≤ len)) :
    Calls Tryz.prog 143 #[.pointer (some ⟨B, 0, none⟩)] w fun e w' => e = thrown 50 ∧ ∃ m, w' = w.drewN m := by
  have c0 := hR.c0
  have HR := hidden hR
  clear hR
  have H4 := hidden (has a len cap 4 w)
  by_cases h4 : 4 ≤ len
  · obtain ⟨l1, l2⟩ := ln_eq zs h.2.1 0
    have N := hidden (number base w a len cap 2 zs h (by omega))
    simp only [Nat.zero_add] at l1 N
    rw [← l1] at N
    clear l1
    generalize ln zs 0 = n at *
    rw [decide_eq_true h4] at H4
    go_enter Tryz.func143, Tryz.ntmps143
    go_wp2_with fail
    refine Calls.mono H4.out ?_
    rintro e w' ⟨rfl, rfl⟩
    go_wp2_with fail
    refine Calls.mono (need_ok 50 _) ?_
    rintro e w' ⟨rfl, rfl⟩
    go_wp2_with fail
    refine Calls.mono N.out ?_
    rintro e w' ⟨rfl, m, rfl⟩
    have c1 := (HR.out.drewN m).c0
    by_cases h5 : 4 ≤ n
    · have HN := hidden (has a len cap n (w.drewN m))
      rw [decide_eq_false (show ¬ n ≤ len from fun h6 => hb ⟨h4, h5, h6⟩)] at HN
      clear hb
      go_wp2_with fail
      refine Calls.mono HN.out ?_
      rintro e w' ⟨rfl, rfl⟩
      go_wp2_with fail
      refine Calls.mono (need_bad 50 _) ?_
      rintro e w' ⟨rfl, rfl⟩
      exact ⟨rfl, rfl, m, rfl⟩
    · clear hb
      go_wp2_with fail
      refine Calls.mono (need_bad 50 _) ?_
      rintro e w' ⟨rfl, rfl⟩
      exact ⟨rfl, rfl, m, rfl⟩
  · rw [decide_eq_false h4] at H4
    clear hb
    go_enter Tryz.func143, Tryz.ntmps143
    go_wp2_with fail
    refine Calls.mono H4.out ?_
    rintro e w' ⟨rfl, rfl⟩
    go_wp2_with fail
    refine Calls.mono (need_bad 50 _) ?_
    rintro e w' ⟨rfl, rfl⟩
    exact ⟨rfl, rfl, 0, rfl⟩
/-- a row from a place on -/
theorem Row.drop {base : Nat} {w : World} {b off len : Nat} {zs : List Int} (h : Row base w (some ⟨b, off, none⟩) len zs) (k : Nat) (hk : k ≤ len) : Row base w (some ⟨b, off + k, none⟩) (len - k) (zs.drop k) := by
  obtain ⟨h1, h2, h3, h4⟩ := h
  refine ⟨by rw [List.length_drop]; omega, fun n hn => h2 n (List.mem_of_mem_drop hn), by omega, ?_⟩
  rcases h4 with h0 | ⟨b', off', e, hbb, hc⟩
  · exact .inl (by omega)
  · cases e
    rcases Nat.eq_zero_or_pos (len - k) with h0 | h0
    · exact .inl h0
    · refine .inr ⟨b, off + k, rfl, hbb, fun j hj => ?_⟩
      rw [Nat.add_assoc, hc (k + j) (by omega), List.getD_eq_getElem?_getD, List.getD_eq_getElem?_getD, List.getElem?_drop]
/-- the address of a slice that is cut at its head -/
def cutA (a : Option Addr) (cap k : Nat) : Option Addr := if cap = k then a else a.map fun x => x.add k
theorem cutA_row {base : Nat} {w : World} {a : Option Addr} {len cap k : Nat} {zs : List Int} (h : Row base w a len zs) (hk : k ≤ len) (hc : len ≤ cap) (hn : a = none → len = 0 ∧ cap = 0) : Row base w (cutA a cap k) (len - k) (zs.drop k) := by
  unfold cutA
  rcases a with _ | ⟨b, off, spot⟩
  · obtain ⟨rfl, rfl⟩ := hn rfl
    obtain rfl : k = 0 := by omega
    simpa using h
  · rcases Nat.eq_zero_or_pos (len - k) with h0 | h0
    · exact ⟨by rw [List.length_drop, h.1], fun n hn => h.2.1 n (List.mem_of_mem_drop hn), by omega, .inl h0⟩
    · rw [if_neg (by omega)]
      obtain ⟨b', off', e, _⟩ := h.2.2.2.resolve_left (by omega)
      cases e
      have hadd : (⟨b, off, none⟩ : Addr).add k = ⟨b, off + k, none⟩ := by unfold Addr.add; split <;> simp_all
      show Row base w (some ((⟨b, off, none⟩ : Addr).add k)) (len - k) (zs.drop k)
      rw [hadd]
      exact h.drop k hk
theorem cutA_none {a : Option Addr} {len cap k : Nat} (hn : a = none → len = 0 ∧ cap = 0) : cutA a cap k = none → len - k = 0 ∧ cap - k = 0 := by
  intro h
  have : a = none := by
    unfold cutA at h
    rcases a with _ | x
    · rfl
    · split at h <;> simp at h
  obtain ⟨rfl, rfl⟩ := hn this
  exact ⟨by omega, by omega⟩
theorem skip (w : World) (B : Nat) (a : Option Addr) (len cap n : Nat) (cnt : Int) (hR : Rd w B a len cap cnt) (hlen : len ≤ cap) (hcap : len ≤ 140737488355328) (hn : n ≤ 140737488355328) :
    Calls Tryz.prog 145 #[.pointer (some ⟨B, 0, none⟩), .int .i64 (n : Int)] w fun e w' => e = .returned (.tuple #[]) ∧ w' = (w.setCell ⟨B, 0, none⟩ (.slice (cutA a cap (min n len)) (len - min n len) (cap - min n len))).drew := by
  have c0 := hR.c0
  have f0 := hR.fr 0
  have hk : Hid ((if len < n then (len : Int) else (n : Int)).toNat = min n len) := by unfold Hid; split <;> omega
  go_enter Tryz.func145, Tryz.ntmps145
  go_wp2
  go_region
  rw [hk.out]
  go_end0
  exact ⟨rfl, rfl⟩
end Go.Proofs.YtmnndkhdekpecaaGreatDoor.Par
namespace Go.Proofs.YtmnndkhdekpecaaGreatDoor.Par
open Go.ChangeShapes Go.WideShapes Go.ChangeAt Go.RowKit
set_option linter.unusedVariables false
attribute [local go_sem ↓] Go.wp_at_zero Go.wp_at_succ

/-- its Body lies in a block of bytes -/
def Own5 (w : World) (p : Prm) : Prop := p.2.2.1 = 0 ∨ ∃ b off cur fr, p.2.1 = some ⟨b, off, none⟩ ∧ w.heap[b]? = some (.cells cur 5 fr)
theorem One.grown {base : Nat} {w w' : World} {p : Prm} (h : One base w p) (h5 : Own5 w p) {row : Option Nat} (hg : w.grownBy w' row) (hrow : ∀ g, row = some g → ∃ cur t fr, w.heap[g]? = some (.cells cur t fr) ∧ t ≠ 5) : One base w' p ∧ Own5 w' p := by
  obtain ⟨ht, ⟨h1, h2, h3, h4⟩, hr⟩ := h
  rcases Nat.eq_zero_or_pos p.2.2.1 with h0 | hpos
  · exact ⟨⟨ht, ⟨h1, h2, h3, .inl h0⟩, hr⟩, .inl h0⟩
  · obtain ⟨b, off, e, hbb, hc⟩ := h4.resolve_left (by omega)
    obtain ⟨b', off', cur, fr, e', hh⟩ := h5.resolve_left (by omega)
    rw [e] at e'
    cases e'
    have hne : some b ≠ row := by
      intro he
      obtain ⟨cur', t, fr', hx, hy⟩ := hrow b he.symm
      rw [hh] at hx
      simp at hx
      exact hy hx.2.1.symm
    have hblk := hg.block b (Array.getElem?_eq_some_iff.1 hh).1 hne
    exact ⟨⟨ht, ⟨h1, h2, h3, .inr ⟨b, off, e, hbb, fun j hj => (World.cell?_of_block (a := ⟨b, off + j, none⟩) hblk).trans (hc j hj)⟩⟩, hr⟩, .inr ⟨b, off, cur, fr, e, hblk.trans hh⟩⟩
theorem own5_of {w : World} {base n : Nat} {v : Value} {xs : List Value} (h : w.ownsRow base 5 1 v n xs) {t : Int} {a : Option Addr} {cap : Nat} {zs : List Int} (e : v = .slice a n cap) : Own5 w (t, a, n, cap, zs) := by
  rcases h.2 with ⟨rfl, rfl⟩ | ⟨g, c, cur, rfl, _, hh, _⟩
  · exact .inl rfl
  · cases e
    exact .inr ⟨g, 0, cur, _, rfl, hh⟩
theorem grownBy_drew {w w' : World} {row : Option Nat} (h : w.grownBy w' row) : w.grownBy w'.drew row := ⟨h.os, h.tape, h.output, h.size, h.block⟩
theorem grownBy_set {w w' : World} {b : Nat} (h : w.grownBy w' (some b)) (a : Addr) (ha : a.block = b) (v : Value) : w.grownBy (w'.setCell a v) (some b) :=
  ⟨h.os, h.tape, h.output, by simpa [World.setCell] using h.size, fun k hk hne => (Below.heap_setCell _ _ _ _ (by rw [ha]; intro e; exact hne (by rw [e]))).trans (h.block k hk hne)⟩
theorem Below.grows {w w' : World} {n : Nat} (h : Below n w w') (hn : w.heap.size ≤ n) (row : Option Nat) : w.grownBy w' row := ⟨h.os, h.tape, h.output, h.size, fun k hk _ => h.block k (by omega)⟩
/-- bytes of a slice that is cut at its head and its end -/
theorem cut_row {base : Nat} {w : World} {a : Option Addr} {len cap k n : Nat} {zs : List Int} (h : Row base w a len zs) (hk : k ≤ n) (hn : n ≤ len) (hc : len ≤ cap) (hnn : a = none → len = 0 ∧ cap = 0) : Row base w (cutA a cap k) (n - k) ((zs.drop k).take (n - k)) := by
  obtain ⟨h1, h2, h3, h4⟩ := cutA_row h (by omega : k ≤ len) hc hnn
  refine ⟨by rw [List.length_take]; omega, fun x hx => h2 x (List.mem_of_mem_take hx), by omega, ?_⟩
  rcases h4 with h0 | ⟨b, off, e, hbb, hcl⟩
  · exact .inl (by omega)
  · refine .inr ⟨b, off, e, hbb, fun j hj => ?_⟩
    rw [hcl j (by omega), List.getD_eq_getElem?_getD, List.getD_eq_getElem?_getD, List.getElem?_take, if_pos hj]
theorem cutA_some {a : Option Addr} {len cap k : Nat} (h : 0 < len) (hnn : a = none → len = 0 ∧ cap = 0) : ¬ cutA a cap k = none := by
  rcases a with _ | x
  · have := hnn rfl; omega
  · unfold cutA
    split <;> simp
theorem below_drew0 (w : World) : Below w.heap.size w w.drew := ⟨rfl, rfl, rfl, Nat.le_refl _, fun _ _ => rfl⟩
theorem step_below {W w w' : World} (h : Below W.heap.size W w) (h' : Below w.heap.size w w') : Below W.heap.size W w' := h.trans (h'.mono h.size)
theorem keep_cell {w w' : World} {a : Addr} {v : Value} (h : Below w.heap.size w w') (hc : w.cell? a = some v) : w'.cell? a = some v := (h.cell (cell_lt hc)).trans hc
theorem alloc_below {W w : World} (h : Below W.heap.size W w) (o : Obj) : Below W.heap.size W (w.alloc o) := h.alloc h.size o
theorem held_of {W w' : World} {a : Addr} {v : Value} (hc : W.cell? a = some v) (h : Below W.heap.size W w') : w'.cell? a = some v ∧ Below W.heap.size W w' := ⟨keep_cell h hc, h⟩
theorem set_below {W w : World} (h : Below W.heap.size W w) (g : Nat) (hg : W.heap.size ≤ g) (u v : Value) : Below W.heap.size W ((w.setCell ⟨g, 0, none⟩ u).setCell ⟨g, 1, none⟩ v) := (h.setCell (p := ⟨g, 0, none⟩) hg u).setCell (p := ⟨g, 1, none⟩) hg v
theorem cell_rule {w w' : World} (h : Below w.heap.size w w') : ∀ g i : Nat, g < w.heap.size → w'.cell? ⟨g, i, none⟩ = w.cell? ⟨g, i, none⟩ := fun g i hg => h.cell (p := ⟨g, i, none⟩) hg
theorem frozen_rule {w w' : World} (h : Below w.heap.size w w') : ∀ g i : Nat, g < w.heap.size → w'.frozen? ⟨g, i, none⟩ = w.frozen? ⟨g, i, none⟩ := fun g i hg => World.frozen?_of_block (a := ⟨g, i, none⟩) (h.block g hg)
theorem size_rule {w w' : World} (h : Below w.heap.size w w') : ∀ g : Nat, g < w.heap.size → g < w'.heap.size := fun g hg => Nat.lt_of_lt_of_le hg h.size
theorem own_mono {w : World} {base base' : Nat} {e : TypeId} {size : Nat} {v : Value} {n : Nat} {xs : List Value} (h : w.ownsRow base e size v n xs) (hb : base' ≤ base) : w.ownsRow base' e size v n xs := by
  refine ⟨h.1, h.2.imp id ?_⟩
  rintro ⟨g, cap, cur, e1, h1, h2⟩
  exact ⟨g, cap, cur, e1, Nat.le_trans hb h1, h2⟩
theorem form_of {w : World} {base e s n : Nat} {v : Value} {xs : List Value} (h : w.ownsRow base e s v n xs) : ∃ a cap, v = .slice a n cap := by
  rcases h.2 with ⟨rfl, rfl⟩ | ⟨g, cap, cur, rfl, _⟩ <;> exact ⟨_, _, rfl⟩
/-- what the three orders leave alike -/
def Made (W wx : World) (T : Int) (body : List Int) (s4 : Value) : Prop :=
  ∃ g q, s4 = .pointer (some ⟨g, 0, none⟩) ∧ W.heap.size ≤ g ∧ g < wx.heap.size ∧ wx.cell? ⟨g, 0, none⟩ = some (.int .u16 q.1) ∧ wx.cell? ⟨g, 1, none⟩ = some (.slice q.2.1 q.2.2.1 q.2.2.2.1) ∧ One W.heap.size wx q ∧ Own5 wx q ∧ val q = (T, body) ∧ Below W.heap.size W wx
theorem made_new {W wv : World} {T : Int} {body : List Int} {va : Option Addr} {l vc : Nat} (hT : 0 ≤ T ∧ T < 65536) (hb : Bytes body) (hl : l ≤ 140737488355328) (hv : wv.ownsRow W.heap.size 5 1 (.slice va l vc) l (cs body)) (hW : Below W.heap.size W wv) :
    Made W (wv.alloc (.cells #[.int .u16 T, .slice va l vc] 114)) T body (.pointer (some ⟨wv.heap.size, 0, none⟩)) := by
  have hv2 := hv.alloc (.cells #[.int .u16 T, .slice va l vc] 114)
  obtain ⟨a', c', e, hr, h1, h2, h3⟩ := row_own hv2 hb hl
  cases e
  obtain ⟨k0, k1⟩ := box_new wv T va l vc 114
  exact ⟨_, (T, va, l, vc, body), rfl, hW.size, by simp, k0, k1, ⟨hT, hr, h1, h2, h3⟩, own5_of hv2 rfl, rfl, hW.alloc hW.size _⟩
theorem made_set {W wv : World} {T : Int} {body : List Int} {va : Option Addr} {l vc : Nat} (hT : 0 ≤ T ∧ T < 65536) (hb : Bytes body) (hl : l ≤ 140737488355328) (hv : wv.ownsRow W.heap.size 5 1 (.slice va l vc) l (cs body)) (hW : Below W.heap.size W wv) {g : Nat} (hg : wv.heap[g]? = some (.cells #[.int .u16 0, .slice none 0 0] 114)) (hWg : W.heap.size ≤ g) :
    Made W ((wv.setCell ⟨g, 0, none⟩ (.int .u16 T)).setCell ⟨g, 1, none⟩ (.slice va l vc)) T body (.pointer (some ⟨g, 0, none⟩)) := by
  have hlt : g < wv.heap.size := (Array.getElem?_eq_some_iff.1 hg).1
  have hx : ((wv.setCell ⟨g, 0, none⟩ (.int .u16 T)).setCell ⟨g, 1, none⟩ (.slice va l vc)).heap[g]? = some (.cells #[.int .u16 T, .slice va l vc] 114) := heap_set _ g 1 _ (heap_set wv g 0 _ hg)
  have hgr : wv.grownBy ((wv.setCell ⟨g, 0, none⟩ (.int .u16 T)).setCell ⟨g, 1, none⟩ (.slice va l vc)) (some g) := grownBy_set (grownBy_set (World.grownBy.refl wv (some g)) ⟨g, 0, none⟩ rfl _) ⟨g, 1, none⟩ rfl _
  obtain ⟨a', c', e, hr, h1, h2, h3⟩ := row_own hv hb hl
  cases e
  obtain ⟨o1, o2⟩ := One.grown (base := W.heap.size) (p := (T, va, l, vc, body)) ⟨hT, hr, h1, h2, h3⟩ (own5_of hv rfl) hgr (fun g' e => by cases e; exact ⟨_, _, _, hg, by decide⟩)
  exact ⟨g, (T, va, l, vc, body), rfl, hWg, by simpa [World.setCell] using hlt, by simp [World.cell?, hx], by simp [World.cell?, hx], o1, o2, rfl, set_below hW g hWg _ _⟩
theorem zero_at {w w' : World} (h : Below (w.alloc (.cells #[.int .u16 0, .slice none 0 0] 114)).heap.size (w.alloc (.cells #[.int .u16 0, .slice none 0 0] 114)) w') : w'.heap[w.heap.size]? = some (.cells #[.int .u16 0, .slice none 0 0] 114) :=
  (h.block _ (by simp)).trans (heap_alloc_new w _)
theorem nextBad1 (w : World) (B : Nat) (a : Option Addr) (len cap : Nat) (cnt : Nat) (hR : Rd w B a len cap cnt) (hc : 256 ≤ cnt) (hc2 : cnt ≤ 100000) :
    Calls Tryz.prog 141 #[.pointer (some ⟨B, 0, none⟩)] w fun e w' => e = thrown 3 ∧ Below w.heap.size w w' := by
  have hb : Below w.heap.size w (w.alloc (.cells #[.int .u16 0, .slice none 0 0] 114)) := (Below.refl _ w).alloc (Nat.le_refl _) _
  have c1 := (hR.later hb).c1
  have hd : decide ((cnt : Int) < 256) = false := decide_eq_false (by omega)
  have HB := hidden hb
  have lt := hR.lt
  clear hb hR
  go_enter Tryz.func141, Tryz.ntmps141
  go_wp2_with fail
  refine Calls.mono (need_bad 3 _) ?_
  rintro e w' ⟨rfl, rfl⟩
  exact ⟨rfl, rfl, HB.out⟩
theorem nextBad2 (base : Nat) (w : World) (B : Nat) (a : Option Addr) (len cap : Nat) (cnt : Nat) (zs : List Int) (hR : Rd w B a len cap cnt) (hr : Row base w a len zs) (hc : cnt < 256) (hbad : ¬ (4 ≤ len ∧ 4 ≤ ln zs 0 ∧ ln zs 0 ≤ len)) :
    Calls Tryz.prog 141 #[.pointer (some ⟨B, 0, none⟩)] w fun e w' => e = thrown 50 ∧ Below w.heap.size w w' := by
  have hb : Below w.heap.size w (w.alloc (.cells #[.int .u16 0, .slice none 0 0] 114)) := (Below.refl _ w).alloc (Nat.le_refl _) _
  have c1 := (hR.later hb).c1
  have hd : decide ((cnt : Int) < 256) = true := decide_eq_true (by omega)
  have HB := hidden hb
  have L := hidden (lenBad base _ B a len cap cnt zs (hR.later hb) (hr.later hb) hbad)
  have lt := hR.lt
  clear hb hR hbad hr
  go_enter Tryz.func141, Tryz.ntmps141
  go_wp2_with fail
  refine Calls.mono (need_ok 3 _) ?_
  rintro e w' ⟨rfl, rfl⟩
  go_wp2_with fail
  refine Calls.mono L.out ?_
  rintro e w' ⟨rfl, m, rfl⟩
  exact ⟨rfl, rfl, below_drewN HB.out m⟩

theorem next_end {w W wc w' : World} {B : Nat} {a a' : Option Addr} {l l' c c' : Nat} {cnt : Int} {q : Prm} (hW : Below w.heap.size w W) (hsz : W.heap.size = w.heap.size + 1) (hbc : Below W.heap.size W wc) (hRc : Rd wc B a' l' c' cnt) (o1 : One W.heap.size wc q) (o5 : Own5 wc q)
    (g4 : wc.grownBy w' (some B)) (R4 : Rd w' B a l c cnt) (V4 : w'.heap[w.heap.size]? = some (.cells #[.int .u16 0, .slice none 0 0] 114)) (lt : B < w.heap.size) (u v : Value) :
    One (w.heap.size + 1) (((w'.setCell ⟨B, 1, none⟩ (.int .i64 (cnt + 1))).setCell ⟨w.heap.size, 0, none⟩ u).setCell ⟨w.heap.size, 1, none⟩ v) q ∧ Own5 (((w'.setCell ⟨B, 1, none⟩ (.int .i64 (cnt + 1))).setCell ⟨w.heap.size, 0, none⟩ u).setCell ⟨w.heap.size, 1, none⟩ v) q ∧
      Rd (((w'.setCell ⟨B, 1, none⟩ (.int .i64 (cnt + 1))).setCell ⟨w.heap.size, 0, none⟩ u).setCell ⟨w.heap.size, 1, none⟩ v) B a l c (cnt + 1) ∧ w.grownBy (((w'.setCell ⟨B, 1, none⟩ (.int .i64 (cnt + 1))).setCell ⟨w.heap.size, 0, none⟩ u).setCell ⟨w.heap.size, 1, none⟩ v) (some B) := by
  have g1 : wc.grownBy (w'.setCell ⟨B, 1, none⟩ (.int .i64 (cnt + 1))) (some B) := grownBy_set g4 ⟨B, 1, none⟩ rfl _
  obtain ⟨p1, p5⟩ := o1.grown o5 g1 (fun g e => by cases e; exact ⟨_, _, _, hRc, by decide⟩)
  have R5 := R4.s1 (cnt + 1)
  have V5 : (w'.setCell ⟨B, 1, none⟩ (.int .i64 (cnt + 1))).heap[w.heap.size]? = some (.cells #[.int .u16 0, .slice none 0 0] 114) := (Below.heap_setCell _ _ _ _ (by simp; omega)).trans V4
  generalize w'.setCell ⟨B, 1, none⟩ (.int .i64 (cnt + 1)) = w1 at *
  have g2 : w1.grownBy ((w1.setCell ⟨w.heap.size, 0, none⟩ u).setCell ⟨w.heap.size, 1, none⟩ v) (some w.heap.size) := grownBy_set (grownBy_set (World.grownBy.refl w1 _) ⟨w.heap.size, 0, none⟩ rfl u) ⟨w.heap.size, 1, none⟩ rfl v
  obtain ⟨q1, q5⟩ := p1.grown p5 g2 (fun g e => by cases e; exact ⟨_, _, _, V5, by decide⟩)
  refine ⟨hsz ▸ q1, q5, (g2.block B R5.lt (by simp; omega)).trans R5, ?_⟩
  have s1 := hW.size
  have s2 := hbc.size
  have s3 := g1.size
  have s4 := g2.size
  refine ⟨g2.os.trans (g1.os.trans (hbc.os.trans hW.os)), g2.tape.trans (g1.tape.trans (hbc.tape.trans hW.tape)), g2.output.trans (g1.output.trans (hbc.output.trans hW.output)), by omega, fun k hk hne => ?_⟩
  exact (g2.block k (by omega) (by simp; omega)).trans ((g1.block k (by omega) hne).trans ((hbc.block k (by omega)).trans (hW.block k hk)))
set_option maxRecDepth 20000 in
theorem nextOk (w0 w : World) (B : Nat) (a : Option Addr) (len cap : Nat) (cnt : Nat) (zs : List Int) (hR : Rd w B a len cap cnt) (hr : Row 0 w0 a len zs) (hlc : len ≤ cap) (hnn : a = none → len = 0 ∧ cap = 0) (hb0 : Below w0.heap.size w0 w) (hB : w0.heap.size ≤ B)
    (hc : cnt < 256) (h4 : 4 ≤ len) (n f : Nat) (T : Int) (body : List Int) (hn : ln zs 0 = n) (hf : fill4 n = f) (h5 : 4 ≤ n) (h6 : n ≤ len) (hT : zs.getD 0 0 * 256 + zs.getD 1 0 = T) (hbody : (zs.drop 4).take (n - 4) = body) :
    Calls Tryz.prog 141 #[.pointer (some ⟨B, 0, none⟩)] w fun e w' => ∃ q, e = .returned (pv q) ∧ One (w.heap.size + 1) w' q ∧ Own5 w' q ∧ val q = (T, body) ∧
      Rd w' B (cutA a cap (min f len)) (len - min f len) (cap - min f len) ((cnt + 1 : Nat) : Int) ∧ w.grownBy w' (some B) := by
  have hb : Below w.heap.size w (w.alloc (.cells #[.int .u16 0, .slice none 0 0] 114)) := (Below.refl _ w).alloc (Nat.le_refl _) _
  have hRa := hR.later hb
  have hra := (hr.later hb0).later hb
  have c1 := hRa.c1
  have hd : decide ((cnt : Int) < 256) = true := decide_eq_true (by omega)
  have lt := hR.lt
  have L := hidden (lenOk 0 _ B a len cap cnt zs hRa hra h4 (by rw [hn]; exact h5) (by rw [hn]; exact h6))
  rw [hn] at L
  have HR := hidden hRa
  have HRW := hidden hra
  have HB := hidden hb
  have hlim := hr.2.2.1
  have HZ := hidden hr.2.1
  have l2 := (ln_eq zs hr.2.1 0).2
  clear hb hR hr hra hRa
  rw [hn] at l2
  clear hn
  go_enter Tryz.func141, Tryz.ntmps141
  go_wp2_with fail
  refine Calls.mono (need_ok 3 _) ?_
  rintro e w' ⟨rfl, rfl⟩
  go_wp2_with fail
  refine Calls.mono L.out ?_
  rintro e w' ⟨rfl, m, rfl⟩
  have hW : Below w.heap.size w ((w.alloc (.cells #[.int .u16 0, .slice none 0 0] 114)).drewN m) := below_drewN HB.out m
  have hRW : Rd ((w.alloc (.cells #[.int .u16 0, .slice none 0 0] 114)).drewN m) B a len cap cnt := HR.out.drewN m
  have hrW : Row 0 ((w.alloc (.cells #[.int .u16 0, .slice none 0 0] 114)).drewN m) a len zs := HRW.out.drewN m
  have hsz : ((w.alloc (.cells #[.int .u16 0, .slice none 0 0] 114)).drewN m).heap.size = w.heap.size + 1 := by show (w.alloc _).heap.size = _; exact World.size_alloc _ _
  have hv0 : ((w.alloc (.cells #[.int .u16 0, .slice none 0 0] 114)).drewN m).heap[w.heap.size]? = some (.cells #[.int .u16 0, .slice none 0 0] 114) := heap_alloc_new w _
  generalize (w.alloc (.cells #[.int .u16 0, .slice none 0 0] 114)).drewN m = W at *
  clear L c1 HR HRW HB
  have c0 := hRW.c0
  obtain ⟨b, off, rfl, _, _⟩ := hrW.2.2.2.resolve_left (by omega)
  have t0 := at_bound zs HZ.out 0
  have t1 := at_bound zs HZ.out 1
  have hTb : Hid (0 ≤ T ∧ T < 65536) := by unfold Hid; omega
  have HBD := hidden (show Bytes body from hbody ▸ fun x hx => HZ.out x (List.mem_of_mem_drop (List.mem_of_mem_take hx)))
  have NM := hidden (show ∀ w', (w'.cell? ⟨B, 0, none⟩ = some (.slice (some ⟨b, off, none⟩) len cap) ∧ Below W.heap.size W w') → Calls Tryz.prog 144 #[.slice (some ⟨b, off, none⟩) len cap, .int .i64 0] w' fun e w'' => e = .returned (.int .u16 T) ∧ Below w'.heap.size w' w'' ∧ Below W.heap.size W w'' from fun w' hb => hT ▸ (number 0 w' (some ⟨b, off, none⟩) len cap 0 zs (hrW.later hb.2) (by omega)).mono (by rintro e w2 ⟨rfl, m, rfl⟩; exact ⟨rfl, below_drewN (Below.refl _ _) m, below_drewN hb.2 m⟩))
  obtain ⟨A4, hA4⟩ : ∃ A4, (if cap = 4 then (some ⟨b, off, none⟩ : Option Addr) else some ⟨b, off + 4, none⟩) = A4 := ⟨_, rfl⟩
  have HA4 := hidden (show cutA (some ⟨b, off, none⟩) cap 4 = A4 by rw [← hA4]; unfold cutA Addr.add; rfl)
  have CL := hidden (show ∀ w', (w'.cell? ⟨B, 0, none⟩ = some (.slice (some ⟨b, off, none⟩) len cap) ∧ Below W.heap.size W w') → Calls Tryz.prog 137 #[.slice A4 (n - 4) (cap - 4)] w' fun e w'' => ∃ va vc, e = .returned (.slice va (n - 4) vc) ∧ w''.ownsRow W.heap.size 5 1 (.slice va (n - 4) vc) (n - 4) (cs body) ∧ Below w'.heap.size w' w'' ∧ Below W.heap.size W w'' from
    fun w' hb => hbody ▸ (clone 0 w' A4 (n - 4) (cap - 4) ((zs.drop 4).take (n - 4)) (by rw [← HA4.out]; exact (cut_row (hrW.later hb.2) h5 h6 hlc hnn)) (by rw [← HA4.out]; exact fun h => absurd h (cutA_some (k := 4) (by omega) hnn))).mono (by
      rintro e w2 ⟨v, rfl, hv, b2⟩
      obtain ⟨va, vc, rfl⟩ := form_of hv
      exact ⟨va, vc, rfl, own_mono hv hb.2.size, b2, step_below hb.2 b2⟩))
  go_wp2_with fail
  have i1 : (4 : Int) ≤ (n : Int) := by omega
  have i2 : (n : Int) ≤ (cap : Int) := by omega
  have i3 : (0 : Int) ≤ (n : Int) := by omega
  clear hT t0 t1 hbody
  go_cut [0, 2, 3, 4] from 5 (fun s0 s2 s3 s4 wx => s0 = .pointer (some ⟨B, 0, none⟩) ∧ s2 = .pointer (some ⟨w.heap.size, 0, none⟩) ∧ s3 = .int .i64 (n : Int) ∧ Made W wx T body s4)
  case first =>
    go_region_held3 (fun w' => w'.cell? ⟨B, 0, none⟩ = some (.slice (some ⟨b, off, none⟩) len cap) ∧ Below W.heap.size W w')
      (first | (exact held_of c0 (below_drew0 _)) | (exact held_of c0 (by assumption)) | (exact held_of c0 (alloc_below (by assumption) _)) | (exact held_of c0 (alloc_below (below_drew0 _) _)) | (exact held_of c0 (set_below (by assumption) _ (by omega) _ _)) | (trace_state; fail))
      (first
        | (go_at_call 144; refine Calls.mono (NM.out _ ?_) ?_; assumption; rintro e wn ⟨rfl, bn, hWn⟩; have hsn := hWn.size; have rn := cell_rule bn; have fn := frozen_rule bn; have zn := size_rule bn)
        | (go_at_call 137; refine Calls.mono (CL.out _ ?_) ?_; assumption; rintro e wv ⟨va, vc, rfl, hv, b2, hWv⟩; have hsv := hWv.size; have rv := cell_rule b2; have fv := frozen_rule b2; have zv := size_rule b2))
    all_goals go_wp2_with fail
    · go_meet
      exact ⟨rfl, rfl, rfl, made_new hTb.out HBD.out (by omega) hv hWv⟩
    · go_meet
      exact ⟨rfl, rfl, rfl, made_set hTb.out HBD.out (by omega) hv hWv (zero_at b2) hsn⟩
    · go_meet
      exact ⟨rfl, rfl, rfl, made_set hTb.out HBD.out (by omega) hv hWv ((b2.block _ (by have := bn.size; simp at this; omega)).trans (hsz ▸ zero_at (undrew bn))) (by omega)⟩
  case rest =>
  obtain ⟨rfl, rfl, rfl, g, q, rfl, hg1, hg2, k0, k1, o1, o5, hval, hbc⟩ := hcut
  obtain ⟨qt, qa, ql, qc, qz⟩ := q
  simp only at k0 k1
  have hRc := hRW.later hbc
  have hVc := (hbc.block _ (by omega)).trans hv0
  have HO := hidden o1
  have HO5 := hidden o5
  have HV := hidden hval
  have HBC := hidden hbc
  clear NM CL HA4 hA4 i1 i2 i3 o1 o5 hval hv0 hRW hrW HBD c0
  have HF : ∀ w, Hid (Calls Tryz.prog 110 #[.int .i64 (n : Int)] w fun e w' => e = .returned (.int .i64 (f : Nat)) ∧ w = w') := fun w => hidden (hf ▸ filled n (by omega) w)
  have hfl : f ≤ n + 3 := by rw [← hf]; exact (fill4_le n).2
  have SK := hidden (show Calls Tryz.prog 145 #[.pointer (some ⟨B, 0, none⟩), .int .i64 (f : Int)] wc.drew fun e w' => e = .returned (.tuple #[]) ∧ Rd w' B (cutA (some ⟨b, off, none⟩) cap (min f len)) (len - min f len) (cap - min f len) cnt ∧ wc.grownBy w' (some B) from
    (skip wc.drew B (some ⟨b, off, none⟩) len cap f cnt hRc hlc hlim (by omega)).mono (by
      rintro e w' ⟨rfl, rfl⟩
      exact ⟨rfl, hRc.s0 _ _ _, grownBy_drew (w := wc) (grownBy_set (w := wc) (w' := wc.drew) ⟨rfl, rfl, rfl, Nat.le_refl _, fun _ _ _ => rfl⟩ ⟨B, 0, none⟩ rfl _)⟩))
  go_wp2_with fail
  go_region_with (first
    | (go_at_call 110; refine Calls.mono (HF _).out ?_; rintro e w' ⟨rfl, rfl⟩)
    | (go_at_call 145; refine Calls.mono SK.out ?_; rintro e w' ⟨rfl, hR4, g4⟩))
  all_goals
    have m0 := g4.cell k0 (by simp; omega)
    have m1 := g4.cell k1 (by simp; omega)
    have hV4 := (g4.block w.heap.size (by omega) (by simp; omega)).trans hVc
    have c1 := hR4.c1
    have f1 := hR4.fr 1
    have v0 : w'.cell? ⟨w.heap.size, 0, none⟩ = some (.int .u16 0) := by simp [World.cell?, hV4]
    have v1 : w'.cell? ⟨w.heap.size, 1, none⟩ = some (.slice none 0 0) := by simp [World.cell?, hV4]
    have y0 : w'.frozen? ⟨w.heap.size, 0, none⟩ = false := by simp [World.frozen?, hV4]
    have y1 : w'.frozen? ⟨w.heap.size, 1, none⟩ = false := by simp [World.frozen?, hV4]
    have n1 : ¬ B = g := by omega
    have n2 : ¬ B = w.heap.size := by omega
    have n3 : ¬ w.heap.size = B := by omega
    clear SK k0 k1
    have G4 := hidden g4
    have R4 := hidden hR4
    have V4 := hidden hV4
    clear g4 hR4 hV4
    go_wp2
    obtain ⟨e1, e2, e3, e4⟩ := next_end hW hsz HBC.out hRc HO.out HO5.out G4.out R4.out V4.out lt (.int .u16 qt) (.slice qa ql qc)
    refine bodyPost_ret (v := pv (qt, qa, ql, qc, qz)) (by simp [results, Tryz.results141, go_sem, v0, v1, pv]) rfl ⟨_, rfl, e1, e2, HV.out, ?_, e4⟩
    rw [show ((cnt + 1 : Nat) : Int) = (cnt : Int) + 1 by omega]
    exact e3
end Go.Proofs.YtmnndkhdekpecaaGreatDoor.Par
namespace Go.Proofs.YtmnndkhdekpecaaGreatDoor.Par
open Go.ChangeShapes Go.WideShapes Go.ChangeAt Go.RowKit
set_option linter.unusedVariables false

def lenV : Value → Nat
  | .slice _ n _ => n
  | _ => 0
set_option maxRecDepth 20000 in
theorem catch_panicking (p : Addr) (x : Int) (f : Int) (older : List PanicEntry) (w : World) (hc : w.cell? p = some (.int .i64 x)) (hz : w.frozen? p = false) :
    CallsD Tryz.prog 139 #[.pointer (some p)] (.panicking ({ v := .iface 28 (.int .i64 f), recovered := false } :: older)) w fun e u' w' =>
      e = .returned (.tuple #[]) ∧ u' = .panicking ({ v := .iface 28 (.int .i64 f), recovered := true } :: older) ∧ w' = w.setCell p (.int .i64 f) := by
  have hta : ∀ w : World, (Instr.typeAssert (.iface 28 (.int .i64 f)) 20 28 false).run Tryz.prog w = .ok (.int .i64 f) w := fun w => by rfl
  refine callsD_of_wpS Tryz.func139 rfl fun c₀ cs hu => ?_
  apply wpS_seq
  apply wpS_region
  simp [wpOpsS, go_sem, recoverD, hu, Tryz.ntmps139, Exit.thenS]
  refine wpS_of_wp ?_
  go_wp2
  simp [bodyPostS, results, Tryz.results139]
theorem catch_idle (p : Addr) (w : World) :
    CallsD Tryz.prog 139 #[.pointer (some p)] .returning w fun e u' w' => e = .returned (.tuple #[]) ∧ u' = .returning ∧ w' = w := by
  refine callsD_of_wpS Tryz.func139 rfl fun c₀ cs hu => ?_
  apply wpS_seq
  apply wpS_region
  simp [wpOpsS, go_sem, recoverD, hu, Tryz.ntmps139, Exit.thenS]
  refine wpS_of_wp ?_
  go_wp2
  cases c₀
  simp_all [bodyPostS, results, Tryz.results139]

theorem getD_drop (zs : List Int) (p i : Nat) : (zs.drop p).getD i 0 = zs.getD (p + i) 0 := by rw [List.getD_eq_getElem?_getD, List.getD_eq_getElem?_getD, List.getElem?_drop]
theorem ln_drop (zs : List Int) (p : Nat) : ln (zs.drop p) 0 = ln zs p := by unfold ln; rw [getD_drop, getD_drop, Nat.zero_add, Nat.zero_add]
theorem drop_min (zs : List Int) (p f len : Nat) (hl : (zs.drop p).length = len) : (zs.drop p).drop (min f len) = zs.drop (p + f) := by
  rw [List.drop_drop]
  rcases Nat.le_total f len with h | h
  · rw [Nat.min_eq_left h]
  · rw [Nat.min_eq_right h]
    rw [List.length_drop] at hl
    rw [List.drop_of_length_le (by omega), List.drop_of_length_le (by omega)]
/-- the reader behind k parameters -/
def Rdr (w0 w : World) (B : Nat) (zs : List Int) (k : Nat) (a : Option Addr) (len cap : Nat) : Prop :=
  Rd w B a len cap k ∧ Row 0 w0 a len (zs.drop (pos zs k)) ∧ len ≤ cap ∧ (a = none → len = 0 ∧ cap = 0)
/-- the list of k parameters -/
def Lst (base : Nat) (w : World) (v : Value) (zs : List Int) (k : Nat) (ps : List Prm) : Prop :=
  w.ownsRow base 114 2 v k (ps.flatMap pc) ∧ ps.map val = items zs k ∧ ∀ p ∈ ps, One base w p ∧ Own5 w p

theorem all_end {w wr w2 : World} {B : Nat} {a : Option Addr} {len cap : Nat} {cnt : Int} (hg : w.grownBy wr (some B)) (hR : Rd wr B a len cap cnt) (hE : w.heap.size < wr.heap.size) (lt : B < w.heap.size) (b2 : Below wr.heap.size wr w2) (v : Value) :
    w.grownBy (w2.setCell ⟨w.heap.size, 0, none⟩ v) (some B) ∧ Rd (w2.setCell ⟨w.heap.size, 0, none⟩ v) B a len cap cnt := by
  have s1 := hg.size
  have s2 := b2.size
  refine ⟨⟨b2.os.trans hg.os, b2.tape.trans hg.tape, b2.output.trans hg.output, by simp [World.setCell]; omega, fun k hk hne => ?_⟩, ?_⟩
  · exact (Below.heap_setCell _ _ _ _ (by simp; omega)).trans ((b2.block k (by omega)).trans (hg.block k hk hne))
  · exact (Below.heap_setCell _ _ _ _ (by simp; omega)).trans (hR.later b2)
theorem info45 : (Tryz.prog.info? 114).map (fun i => (i.zero, i.size, i.bytes)) = some (some (.agg #[.int .u16 0, .slice none 0 0]), 2, 32) := by kernel_rfl
theorem Own5.set {base : Nat} {w : World} {p : Prm} (h : One base w p) (h5 : Own5 w p) {x : Addr} (hx : x.block < base) (v : Value) : Own5 (w.setCell x v) p := by
  rcases h5 with h0 | ⟨b, off, cur, fr, e, hh⟩
  · exact .inl h0
  · rcases h.2.1.2.2.2 with h0 | ⟨b', off', e', hbb, _⟩
    · exact .inl h0
    · rw [e] at e'
      cases e'
      exact .inr ⟨b, off, cur, fr, e, (Below.heap_setCell _ _ _ _ (by omega)).trans hh⟩
theorem Lst.set {base : Nat} {w : World} {v : Value} {zs : List Int} {k : Nat} {ps : List Prm} (h : Lst base w v zs k ps) {x : Addr} (hx : x.block < base) (u : Value) : Lst base (w.setCell x u) v zs k ps :=
  ⟨ownsRow_setCell_below h.1 hx u, h.2.1, fun p hp => ⟨(h.2.2 p hp).1.set hx u, Own5.set (h.2.2 p hp).1 (h.2.2 p hp).2 hx u⟩⟩
theorem row_kind {w : World} {B : Nat} {e : TypeId} {size : Nat} {v : Value} {n : Nat} {xs : List Value} (h : w.ownsRow B e size v n xs) : ∀ g, v.ownBlock = some g → ∃ c fz, w.heap[g]? = some (.cells c e fz) := by
  intro g hg
  rcases h.2 with ⟨rfl, _⟩ | ⟨g', cap, cur, rfl, _, hh, _⟩
  · simp [Value.ownBlock] at hg
  · simp [Value.ownBlock] at hg
    subst hg
    exact ⟨_, _, hh⟩
/-- one parameter more -/
theorem all_step {w wr w2 w3 : World} {B k : Nat} {zs : List Int} {ps : List Prm} {q : Prm} {v v3 : Value} {a a' : Option Addr} {len cap len' cap' : Nat} {cnt : Int} (hL : Lst (w.heap.size + 1) wr v zs k ps) (hg : w.grownBy wr (some B)) (hE : wr.heap[w.heap.size]? = some (.cells #[.int .i64 0] 28))
    (hR : Rd wr B a len cap cnt) (q1 : One (wr.heap.size + 1) w2 q) (q2 : Own5 w2 q) (q3 : val q = item zs k) (q4 : Rd w2 B a' len' cap' ((k + 1 : Nat) : Int)) (q5 : wr.grownBy w2 (some B)) (lt : B < w.heap.size) (hElt : w.heap.size < wr.heap.size) (o : Obj)
    (ho3 : w3.ownsRow (w.heap.size + 1) 114 2 v3 (k + 1) (ps.flatMap pc ++ pc q)) (hg3 : (w2.alloc o).grownBy w3 v.ownBlock) :
    Lst (w.heap.size + 1) w3 v3 zs (k + 1) (ps ++ [q]) ∧ Rd w3 B a' len' cap' ((k + 1 : Nat) : Int) ∧ w3.heap[w.heap.size]? = some (.cells #[.int .i64 0] 28) ∧ w.grownBy w3 (some B) := by
  have s1 := hg.size
  have s2 := q5.size
  have s3 := hg3.size
  simp only [World.size_alloc] at s3
  have hkind : ∀ g, v.ownBlock = some g → ∃ cur t fr, (w2.alloc o).heap[g]? = some (.cells cur t fr) ∧ t ≠ 5 := by
    intro g e
    obtain ⟨c, fz, hh⟩ := row_kind hL.1 g e
    have hgl := hL.1.lt g e
    refine ⟨c, 114, fz, ?_, by decide⟩
    rw [heap_alloc_old _ _ (by omega), q5.block g hgl.2 (by simp; omega)]
    exact hh
  have hblk : ∀ j, j < w.heap.size + 1 → w3.heap[j]? = w2.heap[j]? := by
    intro j hj
    have e1 := hg3.block j (by simp only [World.size_alloc]; omega) (fun e => by have := hL.1.lt j e.symm; omega)
    rw [e1, heap_alloc_old _ _ (by omega)]
  have each : ∀ p : Prm, One (w.heap.size + 1) w2 p → Own5 w2 p → One (w.heap.size + 1) w3 p ∧ Own5 w3 p := by
    intro p h h5
    obtain ⟨x1, x2⟩ := h.grown h5 (World.grownBy_alloc w2 o none) (fun g e => by cases e)
    exact x1.grown x2 hg3 hkind
  refine ⟨⟨?_, ?_, ?_⟩, ?_, ?_, ?_⟩
  · rw [List.flatMap_append]
    simpa using ho3
  · rw [List.map_append, hL.2.1, items_succ]
    simp [q3]
  · intro p hp
    rcases List.mem_append.1 hp with hp | hp
    · obtain ⟨x1, x2⟩ := (hL.2.2 p hp).1.grown (hL.2.2 p hp).2 q5 (fun g e => by cases e; exact ⟨_, _, _, hR, by decide⟩)
      exact each p x1 x2
    · obtain rfl : p = q := by simpa using hp
      exact each _ (q1.mono (by omega)) q2
  · exact (hblk B (by omega)).trans q4
  · exact (hblk _ (by omega)).trans ((q5.block _ hElt (by simp; omega)).trans hE)
  · exact ⟨hg3.os.trans (q5.os.trans hg.os), hg3.tape.trans (q5.tape.trans hg.tape), hg3.output.trans (q5.output.trans hg.output), by omega, fun j hj hne => (hblk j (by omega)).trans ((q5.block j (by omega) hne).trans (hg.block j hj hne))⟩
theorem all_ (w0 w : World) (B : Nat) (a : Option Addr) (len cap : Nat) (zs : List Int) (hR : Rdr w0 w B zs 0 a len cap) (hb0 : Below w0.heap.size w0 w) (hB : w0.heap.size ≤ B) :
    Calls Tryz.prog 138 #[.pointer (some ⟨B, 0, none⟩)] w fun e w' => ∃ v c, e = .returned (.tuple #[v, .int .i64 c]) ∧ w.grownBy w' (some B) ∧
      ((c = 0 ∧ ∃ k ps, Lst (w.heap.size + 1) w' v zs k ps ∧ Out zs (items zs k) 0 0) ∨ (¬ c = 0 ∧ ∃ a' len' cap' cnt, Rd w' B a' len' cap' cnt ∧ len' ≤ zs.length ∧ Out zs [] (zs.length - len') c)) := by
  have hmf : ∀ (fn : Fn) (first cap : Array Value) (w : World), (Instr.makeFunc fn first cap).run Tryz.prog w = .ok (.func fn first cap) w := fun _ _ _ _ => rfl
  have lt := hR.1.lt
  obtain ⟨i0, hi, hz0, hz1, hz2⟩ := info_parts info45
  go_enter_defers Tryz.func138, Tryz.ntmps138
  go_wp2_with fail
  go_loopw [2] (fun v wr => ∃ k ps a len cap, k ≤ 256 ∧ (∀ j, j < k → good zs j) ∧ Lst (w.heap.size + 1) wr v zs k ps ∧ Rdr w0 wr B zs k a len cap ∧ wr.heap[w.heap.size]? = some (.cells #[.int .i64 0] 28) ∧ w.grownBy wr (some B)) (fun v _ => 257 - lenV v)
  case atStart =>
    refine ⟨0, [], a, len, cap, by omega, (fun j hj => by omega), ⟨World.ownsRow_nil _ _ _ _, rfl, (fun p hp => by cases hp)⟩, ⟨(hR.1.later ((Below.refl _ w).alloc (Nat.le_refl _) _)), hR.2⟩, heap_alloc_new w _, World.grownBy_alloc w _ _⟩
  case round =>
    obtain ⟨k, ps, a, len, cap, hk, hgood, hL, hRr, hE, hg⟩ := hrel
    obtain ⟨hRd, hrow, hlc, hnn⟩ := hRr
    obtain ⟨va, vc, rfl⟩ := form_of hL.1
    have c0 := hRd.c0
    have hrl := hrow.1
    rw [List.length_drop] at hrl
    have hlim := hrow.2.2.1
    have hsw := hg.size
    have hElt : w.heap.size < wr.heap.size := (Array.getElem?_eq_some_iff.1 hE).1
    have e0 : wr.cell? ⟨w.heap.size, 0, none⟩ = some (.int .i64 0) := by simp [World.cell?, hE]
    have f0 : wr.frozen? ⟨w.heap.size, 0, none⟩ = false := by simp [World.frozen?, hE]
    have EM := hidden (empty_ a len cap wr)
    rcases Nat.eq_zero_or_pos len with h0 | hpos
    · rw [decide_eq_true h0] at EM
      subst h0
      have HL := hidden hL
      have HG := hidden hg
      have HO := hidden (show Out zs (items zs k) 0 0 from ⟨k, hk, hgood, .inl ⟨by omega, rfl, rfl, rfl⟩⟩)
      clear hL hg hgood
      go_wp2_with fail
      refine Calls.mono EM.out ?_
      rintro e w' ⟨rfl, rfl⟩
      go_wp2
      refine leaves_cons (f := 139) (args := #[.pointer (some ⟨w.heap.size, 0, none⟩)]) (by simp) (by simp [go_sem]) ?_
      refine (catch_idle ⟨w.heap.size, 0, none⟩ _).mono ?_
      rintro e u' w3 ⟨rfl, rfl, rfl⟩
      have hx := World.cell?_setCell_same wr ⟨w.heap.size, 0, none⟩ (.int .i64 0) e0
      obtain ⟨y1, y2⟩ := all_end HG.out hRd hElt lt (Below.refl _ _) (.int .i64 0)
      exact ⟨.tuple #[.slice va k vc, .int .i64 0], by simp [results, Tryz.results138, go_sem, hx], _, _, rfl, y1, .inl ⟨rfl, k, ps, HL.out.set (by simp) _, HO.out⟩⟩
    · rw [decide_eq_false (by omega)] at EM
      by_cases hk2 : 256 ≤ k
      · have NX := hidden (nextBad1 wr B a len cap k hRd hk2 (by omega))
        go_wp2_with fail
        refine Calls.mono EM.out ?_
        rintro e w' ⟨rfl, rfl⟩
        go_wp2_with fail
        refine Calls.mono NX.out ?_
        rintro e w2 ⟨rfl, b2⟩
        refine leaves_cons (f := 139) (args := #[.pointer (some ⟨w.heap.size, 0, none⟩)]) (by simp) (by simp [go_sem]) ?_
        refine (catch_panicking ⟨w.heap.size, 0, none⟩ 0 3 [] w2 (keep_cell b2 e0) ?_).mono ?_
        · exact (World.frozen?_of_block (a := ⟨w.heap.size, 0, none⟩) (b2.block _ hElt)).trans f0
        rintro e u' w3 ⟨rfl, rfl, rfl⟩
        have hx := World.cell?_setCell_same w2 ⟨w.heap.size, 0, none⟩ (.int .i64 3) (keep_cell b2 e0)
        obtain ⟨y1, y2⟩ := all_end hg hRd hElt lt b2 (.int .i64 3)
        refine ⟨.tuple #[.slice va k vc, .int .i64 3], by simp [results, Tryz.results138, go_sem, hx], _, _, rfl, y1, .inr ⟨by decide, _, _, _, _, y2, by omega, ?_⟩⟩
        rw [show zs.length - len = pos zs k by omega]
        exact ⟨k, hk, hgood, .inr ⟨by omega, fun h => by have := h.1; omega, rfl, rfl, by unfold errOf; rw [if_pos hk2]⟩⟩
      · by_cases hok : 4 ≤ len ∧ 4 ≤ ln (zs.drop (pos zs k)) 0 ∧ ln (zs.drop (pos zs k)) 0 ≤ len
        · obtain ⟨h4, h5, h6⟩ := hok
          have hb1 : Below w0.heap.size w0 wr := hb0.grown hg hb0.size (fun j hj => by cases hj; exact hB)
          have NX := hidden (nextOk w0 wr B a len cap k _ hRd hrow hlc hnn hb1 hB (by omega) h4 _ _ _ _ rfl rfl h5 h6 rfl rfl)
          have HGD := hidden (show ∀ j, j < k + 1 → good zs j from fun j hj => by
            rcases Nat.lt_or_ge j k with h | h
            · exact hgood j h
            · obtain rfl : j = k := by omega
              rw [ln_drop] at h5 h6
              exact ⟨by omega, by omega, h5, by omega⟩)
          have HROW := hidden (show Row 0 w0 (cutA a cap (min (fill4 (ln (zs.drop (pos zs k)) 0)) len)) (len - min (fill4 (ln (zs.drop (pos zs k)) 0)) len) (zs.drop (pos zs (k + 1))) by
            have := cutA_row (k := min (fill4 (ln (zs.drop (pos zs k)) 0)) len) hrow (Nat.min_le_right _ _) hlc hnn
            rw [drop_min zs (pos zs k) _ len hrow.1, ln_drop] at this
            rw [ln_drop]
            exact this)
          have HNN := hidden (cutA_none (k := min (fill4 (ln (zs.drop (pos zs k)) 0)) len) hnn)
          have HIT := hidden (show ((zs.drop (pos zs k)).getD 0 0 * 256 + (zs.drop (pos zs k)).getD 1 0, ((zs.drop (pos zs k)).drop 4).take (ln (zs.drop (pos zs k)) 0 - 4)) = item zs k by
            unfold item
            rw [getD_drop, getD_drop, ln_drop, List.drop_drop]
            rfl)
          rw [HIT.out] at NX
          generalize min (fill4 (ln (zs.drop (pos zs k)) 0)) len = mm at *
          have HL := hidden hL
          have HG := hidden hg
          have hBr := hRd.lt
          clear hgood h4 h5 h6 hL hg HIT
          go_wp2_with fail
          refine Calls.mono EM.out ?_
          rintro e w' ⟨rfl, rfl⟩
          go_wp2_with fail
          refine Calls.mono NX.out ?_
          rintro e w2 ⟨⟨qt, qa, ql, qc, qz⟩, rfl, q1, q2, q3, q4, q5⟩
          have HQ1 := hidden q1
          have HQ2 := hidden q2
          have HQ3 := hidden q3
          have HQ4 := hidden q4
          have HQ5 := hidden q5
          have hs2 := q5.size
          have ho2 : w2.ownsRow (w.heap.size + 1) 114 2 (.slice va k vc) k (ps.flatMap pc) := HL.out.1.kept q5 (.inr (fun h => by have := HL.out.1.lt _ h; omega))
          clear q1 q2 q3 q4 q5 NX EM
          unfold pv
          go_wp2_with (at_builtin; refine wpList_append_own _ rfl _ _ 57 rfl (w.heap.size + 1) 114 i0 (.agg #[.int .u16 0, .slice none 0 0]) 2 32 Tryz.underlying57 hi hz0 hz1 hz2 rfl (by decide) _ _ _ rfl (ho2.alloc _) ⟨w2.heap.size, 0, none⟩ 1 1 [.int .u16 qt, .slice qa ql qc] rfl rfl (cells_new _ _ _) (by simp [Value.oneCell']) ?c3 ?c4 ?c5 ?_)
          case c3 => unfold maxLen; omega
          case c4 => omega
          case c5 => simp only [World.size_alloc]; omega
          intro v3 w3 ho3 hg3 _
          obtain ⟨va3, vc3, rfl⟩ := form_of ho3
          have HST := hidden (all_step HL.out HG.out hE hRd HQ1.out HQ2.out HQ3.out HQ4.out HQ5.out lt hElt (.cells #[.int .u16 qt, .slice qa ql qc] 114) ho3 hg3)
          clear ho3 hg3 ho2
          go_wp2
          go_roundw
          case rel =>
            obtain ⟨z1, z2, z3, z4⟩ := HST.out
            exact ⟨k + 1, ps ++ [(qt, qa, ql, qc, qz)], _, _, _, by omega, HGD.out, z1, ⟨z2, HROW.out, by omega, HNN.out⟩, z3, z4⟩
          case measure => simp [lenV]; omega
        · have hb1 : Below w0.heap.size w0 wr := hb0.grown hg hb0.size (fun j hj => by cases hj; exact hB)
          have NX := hidden (nextBad2 0 wr B a len cap k _ hRd (hrow.later hb1) (by omega) hok)
          have HNG := hidden (show ¬ good zs k from fun h => hok (by rw [ln_drop]; exact ⟨by have := h.2.1; omega, h.2.2.1, by have := h.2.2.2; omega⟩))
          have HG := hidden hg
          have HGD := hidden hgood
          clear hgood hok
          go_wp2_with fail
          refine Calls.mono EM.out ?_
          rintro e w' ⟨rfl, rfl⟩
          go_wp2_with fail
          refine Calls.mono NX.out ?_
          rintro e w2 ⟨rfl, b2⟩
          refine leaves_cons (f := 139) (args := #[.pointer (some ⟨w.heap.size, 0, none⟩)]) (by simp) (by simp [go_sem]) ?_
          refine (catch_panicking ⟨w.heap.size, 0, none⟩ 0 50 [] w2 (keep_cell b2 e0) ?_).mono ?_
          · exact (World.frozen?_of_block (a := ⟨w.heap.size, 0, none⟩) (b2.block _ hElt)).trans f0
          rintro e u' w3 ⟨rfl, rfl, rfl⟩
          have hx := World.cell?_setCell_same w2 ⟨w.heap.size, 0, none⟩ (.int .i64 50) (keep_cell b2 e0)
          obtain ⟨y1, y2⟩ := all_end HG.out hRd hElt lt b2 (.int .i64 50)
          refine ⟨.tuple #[.slice va k vc, .int .i64 50], by simp [results, Tryz.results138, go_sem, hx], _, _, rfl, y1, .inr ⟨by decide, _, _, _, _, y2, by omega, ?_⟩⟩
          rw [show zs.length - len = pos zs k by omega]
          exact ⟨k, hk, HGD.out, .inr ⟨by omega, HNG.out, rfl, rfl, by unfold errOf; rw [if_neg hk2]⟩⟩

theorem pc_len (ps : List Prm) : (ps.flatMap pc).length = ps.length * 2 := by
  induction ps with
  | nil => rfl
  | cons p r ih => rw [List.flatMap_cons, List.length_append, ih, List.length_cons]; simp [pc]; omega
theorem pc_at (ps : List Prm) : ∀ (j : Nat) (p : Prm), ps[j]? = some p → (ps.flatMap pc)[j * 2]? = some (.int .u16 p.1) ∧ (ps.flatMap pc)[j * 2 + 1]? = some (.slice p.2.1 p.2.2.1 p.2.2.2.1) := by
  induction ps with
  | nil => intro j p h; cases h
  | cons x r ih =>
    intro j p h
    rw [List.flatMap_cons]
    have hx : (pc x).length = 2 := rfl
    cases j with
    | zero => cases h; exact ⟨rfl, rfl⟩
    | succ j =>
      have h' : r[j]? = some p := h
      rw [List.getElem?_append_right (by omega), List.getElem?_append_right (by omega), hx, show (j + 1) * 2 - 2 = j * 2 by omega, show (j + 1) * 2 + 1 - 2 = j * 2 + 1 by omega]
      exact ih j p h'
theorem Lst.prms {base : Nat} {w : World} {v : Value} {zs : List Int} {k : Nat} {ps : List Prm} (h : Lst base w v zs k ps) (hk : k ≤ 256) : ∃ pa pcap, v = .slice pa k pcap ∧ Prms base w pa k ps ∧ (pa = none → k = 0 ∧ pcap = 0) := by
  obtain ⟨⟨hl, h1⟩, _, h3⟩ := h
  have hlen : ps.length = k := by rw [pc_len] at hl; omega
  rcases h1 with ⟨rfl, rfl⟩ | ⟨g, cap, cur, rfl, hg, hh, hcap, hcm, hsz, htake⟩
  · obtain rfl := List.eq_nil_of_length_eq_zero hlen
    exact ⟨none, 0, rfl, Prms.nil _ _ _, fun _ => ⟨rfl, rfl⟩⟩
  · refine ⟨_, cap, rfl, ⟨hlen, by omega, fun p hp => (h3 p hp).1, .inr ⟨g, 0, rfl, hg, fun j p hj => ?_⟩⟩, fun h => by cases h⟩
    obtain ⟨e1, e2⟩ := pc_at ps j p hj
    have hjk : j < k := by rw [← hlen]; exact (List.getElem?_eq_some_iff.1 hj).1
    rw [← htake, List.getElem?_take, if_pos (by omega)] at e1 e2
    simp only [World.cell?, hh, Nat.zero_add]
    exact ⟨by simpa using e1, by simpa using e2⟩
theorem Prms.mono {base base' : Nat} {w : World} {pa : Option Addr} {n : Nat} {ps : List Prm} (h : Prms base w pa n ps) (hb : base' ≤ base) : Prms base' w pa n ps := by
  obtain ⟨h1, h2, h3, h4⟩ := h
  refine ⟨h1, h2, fun p hp => (h3 p hp).mono hb, h4.imp id ?_⟩
  rintro ⟨b, off, e, hbb, hc⟩
  exact ⟨b, off, e, Nat.le_trans hb hbb, hc⟩
theorem items_len (zs : List Int) (k : Nat) : (items zs k).length = k := by simp [items]
theorem Out.few {zs : List Int} {l : List (Int × List Int)} {p : Nat} {e : Int} (h : Out zs l p e) : l.length ≤ 256 := by
  obtain ⟨k, hk, _, ⟨_, rfl, _⟩ | ⟨_, _, rfl, _⟩⟩ := h
  · rw [items_len]; exact hk
  · simp
theorem below_of_grown {w w1 w' : World} {B : Nat} (hb : Below w.heap.size w w1) (hg : w1.grownBy w' (some B)) (hB : w.heap.size ≤ B) : Below w.heap.size w w' := hb.grown hg hb.size (fun j hj => by cases hj; exact hB)

theorem decode (w : World) (a : Option Addr) (len cap : Nat) (zs : List Int) (hr : Row 0 w a len zs) (hlc : len ≤ cap) (hnn : a = none → len = 0 ∧ cap = 0) :
    Calls Tryz.prog 136 #[.slice a len cap] w fun e w' => ∃ pa n pcap ps p c, e = .returned (.tuple #[.slice pa n pcap, .int .i64 ((p : Nat) : Int), .int .i64 c]) ∧ Prms w.heap.size w' pa n ps ∧ (pa = none → n = 0 ∧ pcap = 0) ∧ Out zs (ps.map val) p c ∧ Below w.heap.size w w' := by
  have hb : Below w.heap.size w (w.alloc (.cells #[.slice a len cap, .int .i64 0] 172)) := (Below.refl _ w).alloc (Nat.le_refl _) _
  have hlim := hr.2.2.1
  have hzl := hr.1
  have AL := hidden (all_ w (w.alloc (.cells #[.slice a len cap, .int .i64 0] 172)) w.heap.size a len cap zs ⟨heap_alloc_new w _, hr, hlc, hnn⟩ hb (Nat.le_refl _))
  have HB := hidden hb
  clear hb
  go_enter Tryz.func136, Tryz.ntmps136
  go_wp2_with fail
  refine Calls.mono AL.out ?_
  rintro e w1 ⟨v, c, rfl, hg, h⟩
  have HB1 := hidden (below_of_grown HB.out hg (Nat.le_refl _))
  clear AL hg
  rcases h with ⟨rfl, k, ps, hL, hO⟩ | ⟨hc, a', len', cap', cnt, hRd, hle, hO⟩
  · have hk : k ≤ 256 := by have := hO.few; rwa [items_len] at this
    obtain ⟨pa, pcap, rfl, hP, hpn⟩ := hL.prms hk
    have HP := hidden (hP.mono (base' := w.heap.size) (by simp; omega))
    have HO := hidden (show Out zs (ps.map val) 0 0 by rw [hL.2.1]; exact hO)
    have HPN := hidden hpn
    clear hL hP hO hpn
    go_wp2
    go_ret3
    exact ⟨pa, k, pcap, ps, 0, 0, rfl, HP.out, HPN.out, HO.out, HB1.out⟩
  · have c0 := hRd.c0
    have HO := hidden hO
    clear hO
    go_wp2
    go_quiet (fail)
    go_wp2
    go_ret3
    have hI : (len : Int) - (len' : Int) = ((zs.length - len' : Nat) : Int) := by omega
    exact ⟨none, 0, 0, [], zs.length - len', c, by rw [← hI]; rfl, Prms.nil _ _ _, (fun _ => ⟨rfl, rfl⟩), HO.out, below_drewN HB1.out nq⟩
end Go.Proofs.YtmnndkhdekpecaaGreatDoor.Par
namespace Go.Proofs.YtmnndkhdekpecaaGreatDoor.Par
open Go.ChangeShapes Go.WideShapes Go.ChangeAt Go.RowKit
set_option linter.unusedVariables false

/-- what may stand in a list -/
def Fit (x : Int × List Int) : Prop := (0 ≤ x.1 ∧ x.1 < 65536) ∧ Bytes x.2 ∧ x.2.length ≤ 65531
theorem foldl_pre (m : List (Int × List Int)) : ∀ b : List Int, ∃ t, m.foldl put b = b ++ t := by
  induction m with
  | nil => intro b; exact ⟨[], by simp⟩
  | cons x m ih =>
    intro b
    obtain ⟨t, ht⟩ := ih (put b x)
    refine ⟨List.replicate (fill4 b.length - b.length) 0 ++ head x ++ x.2 ++ t, ?_⟩
    rw [List.foldl_cons, ht]
    unfold put pad
    simp only [List.append_assoc]
theorem enc_pre (l : List (Int × List Int)) (k : Nat) : ∃ t, enc l = enc (l.take k) ++ t := by
  obtain ⟨t, ht⟩ := foldl_pre (l.drop k) (enc (l.take k))
  refine ⟨t, ?_⟩
  rw [← ht]
  unfold enc
  rw [← List.foldl_append, List.take_append_drop]
theorem enc_at (l : List (Int × List Int)) (k : Nat) (x : Int × List Int) (h : l[k]? = some x) : ∃ t, enc l = pad (enc (l.take k)) ++ (head x ++ (x.2 ++ t)) := by
  obtain ⟨t, ht⟩ := enc_pre l (k + 1)
  refine ⟨t, ?_⟩
  rw [ht, List.take_add_one, h]
  unfold enc
  simp [put]
theorem fill4_add (q m : Nat) : fill4 (fill4 q + m) = fill4 q + fill4 m := by unfold fill4; omega
theorem getD_app (xs ys : List Int) (i : Nat) : (xs ++ ys).getD (xs.length + i) 0 = ys.getD i 0 := by
  rw [List.getD_eq_getElem?_getD, List.getD_eq_getElem?_getD, List.getElem?_append_right (by omega)]
  congr 2
  omega
theorem drop_app (xs ys : List Int) (i : Nat) : (xs ++ ys).drop (xs.length + i) = ys.drop i := by
  rw [List.drop_append, List.drop_of_length_le (by omega), List.nil_append]
  congr 1
  omega
/-- at the place where the parameter number k stands -/
theorem enc_item (l : List (Int × List Int)) (k : Nat) (x : Int × List Int) (h : l[k]? = some x) (hx : Fit x) (hp : pos (enc l) k = fill4 (enc (l.take k)).length) :
    ln (enc l) (pos (enc l) k) = x.2.length + 4 ∧ item (enc l) k = x ∧ pos (enc l) k + (x.2.length + 4) ≤ (enc l).length := by
  obtain ⟨t, ht⟩ := enc_at l k x h
  obtain ⟨hx1, hx2, hx3⟩ := hx
  have hpl := pad_len (enc (l.take k))
  have e0 : ∀ i, (enc l).getD (pos (enc l) k + i) 0 = (head x ++ (x.2 ++ t)).getD i 0 := fun i => by rw [hp, ← hpl, ht, getD_app]
  have l1 : ln (enc l) (pos (enc l) k) = x.2.length + 4 := by
    unfold ln
    rw [e0 2, e0 3]
    show (((x.2.length + 4 : Nat) : Int) / 256 % 256 * 256 + ((x.2.length + 4 : Nat) : Int) % 256).toNat = _
    omega
  refine ⟨l1, ?_, ?_⟩
  · unfold item
    rw [l1]
    have e1 := e0 0
    rw [Nat.add_zero] at e1
    rw [e1, e0 1]
    have e4 : (enc l).drop (pos (enc l) k + 4) = x.2 ++ t := by
      rw [hp, ← hpl, ht, drop_app]
      rfl
    rw [e4]
    have e5 : (x.2 ++ t).take (x.2.length + 4 - 4) = x.2 := by rw [Nat.add_sub_cancel]; exact List.take_left
    rw [e5]
    have e6 : x.1 / 256 * 256 + x.1 % 256 = x.1 := by omega
    show (x.1 / 256 * 256 + x.1 % 256, x.2) = x
    rw [e6]
  · rw [hp, ← hpl, ht, List.length_append, List.length_append, List.length_append]
    show _ ≤ _ + (4 + (_ + _))
    omega
theorem enc_pos (l : List (Int × List Int)) (hl : ∀ x ∈ l, Fit x) : ∀ k, k ≤ l.length → pos (enc l) k = fill4 (enc (l.take k)).length
  | 0, _ => by rw [List.take_zero]; rfl
  | k + 1, h => by
    have ih := enc_pos l hl k (by omega)
    obtain ⟨x, hx⟩ : ∃ x, l[k]? = some x := ⟨_, List.getElem?_eq_getElem (by omega)⟩
    obtain ⟨h1, h2, h3⟩ := enc_item l k x hx (hl x (List.mem_of_getElem? hx)) ih
    show pos (enc l) k + fill4 (ln (enc l) (pos (enc l) k)) = _
    have e : enc (l.take (k + 1)) = put (enc (l.take k)) x := by
      rw [List.take_add_one, hx]
      unfold enc
      simp
    rw [h1, ih, e, put_len, fill4_add]
theorem enc_good (l : List (Int × List Int)) (hl : ∀ x ∈ l, Fit x) (hn : l.length ≤ 256) (k : Nat) (hk : k < l.length) : good (enc l) k ∧ l[k]? = some (item (enc l) k) := by
  obtain ⟨x, hx⟩ : ∃ x, l[k]? = some x := ⟨_, List.getElem?_eq_getElem (by omega)⟩
  obtain ⟨h1, h2, h3⟩ := enc_item l k x hx (hl x (List.mem_of_getElem? hx)) (enc_pos l hl k (by omega))
  refine ⟨⟨by omega, by omega, by omega, by omega⟩, ?_⟩
  rw [h2]
  exact hx
/-- there and back -/
theorem enc_out (l : List (Int × List Int)) (hl : ∀ x ∈ l, Fit x) (hn : l.length ≤ 256) : Out (enc l) l 0 0 := by
  refine ⟨l.length, hn, fun j hj => (enc_good l hl hn j hj).1, .inl ⟨?_, ?_, rfl, rfl⟩⟩
  · rw [enc_pos l hl l.length (Nat.le_refl _), List.take_length]
    exact (fill4_le _).1
  · apply List.ext_getElem?
    intro i
    unfold items
    rcases Nat.lt_or_ge i l.length with h | h
    · rw [(enc_good l hl hn i h).2, List.getElem?_map, List.getElem?_range h]
      rfl
    · rw [List.getElem?_eq_none h, List.getElem?_eq_none (by simpa using h)]
theorem fits_of {base : Nat} {w : World} {ps : List Prm} (h : ∀ p ∈ ps, One base w p) (hL : ¬ Long ps) : ∀ x ∈ ps.map val, Fit x := by
  intro x hx
  obtain ⟨p, hp, rfl⟩ := List.mem_map.1 hx
  refine ⟨(h p hp).1, (h p hp).2.1.2.1, ?_⟩
  show p.2.2.2.2.length ≤ 65531
  rw [(h p hp).2.1.1]
  rcases Nat.lt_or_ge 65531 p.2.2.1 with hl | hl
  · exact absurd ⟨p, hp, hl⟩ hL
  · exact hl

theorem item_fit (zs : List Int) (hz : Bytes zs) (k : Nat) : Fit (item zs k) := by
  have h1 := at_bound zs hz (pos zs k)
  have h2 := at_bound zs hz (pos zs k + 1)
  have h3 := (ln_eq zs hz (pos zs k)).2
  refine ⟨by unfold item; simp only; omega, fun x hx => hz x (List.mem_of_mem_drop (List.mem_of_mem_take hx)), ?_⟩
  unfold item
  simp only [List.length_take]
  omega
theorem items_fit (zs : List Int) (hz : Bytes zs) (k : Nat) : ∀ x ∈ items zs k, Fit x := by
  intro x hx
  obtain ⟨j, _, rfl⟩ := List.mem_map.1 hx
  exact item_fit zs hz j
theorem item_len (zs : List Int) (k : Nat) (h : good zs k) : (item zs k).2.length + 4 = ln zs (pos zs k) := by
  obtain ⟨_, h1, h2, h3⟩ := h
  unfold item
  simp only [List.length_take, List.length_drop]
  omega
theorem enc_items (zs : List Int) (k : Nat) : enc (items zs (k + 1)) = put (enc (items zs k)) (item zs k) := by
  rw [items_succ]
  unfold enc
  rw [List.foldl_append]
  rfl
theorem again_pos (zs : List Int) : ∀ k, (∀ j, j < k → good zs j) → fill4 (enc (items zs k)).length = pos zs k
  | 0, _ => by simp [items, enc, fill4, pos]
  | k + 1, h => by
    have ih := again_pos zs k (fun j hj => h j (by omega))
    have hl := item_len zs k (h k (by omega))
    rw [enc_items, put_len, hl, fill4_add, ih]
    rfl
theorem again_len (zs : List Int) (k : Nat) (h : ∀ j, j < k → good zs j) (he : zs.length ≤ pos zs k) : (enc (items zs k)).length ≤ zs.length ∧ zs.length < (enc (items zs k)).length + 4 := by
  cases k with
  | zero =>
    have h0 : zs.length ≤ 0 := he
    have e : (enc (items zs 0)).length = 0 := by simp [items, enc]
    omega
  | succ k =>
    have ih := again_pos zs k (fun j hj => h j (by omega))
    have hg := h k (by omega)
    have hl := item_len zs k hg
    have h4 := (fill4_le (ln zs (pos zs k))).2
    have he' : zs.length ≤ pos zs k + fill4 (ln zs (pos zs k)) := he
    have hg4 := hg.2.2.2
    rw [enc_items, put_len, hl, ih]
    omega
/-- what a row is that is a list -/
theorem Out.list {zs : List Int} {l : List (Int × List Int)} {p : Nat} (hz : Bytes zs) (h : Out zs l p 0) : (∀ x ∈ l, Fit x) ∧ l.length ≤ 256 ∧ (enc l).length ≤ zs.length ∧ zs.length < (enc l).length + 4 := by
  obtain ⟨k, hk, hg, ⟨h1, rfl, _, _⟩ | ⟨_, _, _, _, h5⟩⟩ := h
  · obtain ⟨a1, a2⟩ := again_len zs k hg h1
    exact ⟨items_fit zs hz k, by rw [items_len]; exact hk, a1, a2⟩
  · unfold errOf at h5
    split at h5 <;> omega
theorem Out.none {zs : List Int} {l : List (Int × List Int)} {p : Nat} {e : Int} (h : Out zs l p e) (he : ¬ e = 0) : l = [] := by
  obtain ⟨k, hk, hg, ⟨_, _, _, h4⟩ | ⟨_, _, h3, _⟩⟩ := h
  · exact absurd h4 he
  · exact h3
theorem code_ok {base : Nat} {w : World} {pa : Option Addr} {n : Nat} {ps : List Prm} (h : Prms base w pa n ps) (hf : ∀ x ∈ ps.map val, Fit x) (hn : (ps.map val).length ≤ 256) {c : Int} (hc : code ps c) : c = 0 := by
  rw [List.length_map] at hn
  rcases hc with ⟨h1, _⟩ | ⟨_, ⟨p, hp, hl⟩, _⟩ | ⟨_, _, h1⟩
  · omega
  · have h2 := (hf (val p) (List.mem_map.2 ⟨p, hp, rfl⟩)).2.2
    have h3 := (h.2.2.1 p hp).2.1.1
    have h4 : p.2.2.2.2.length ≤ 65531 := h2
    omega
  · exact h1
end Go.Proofs.YtmnndkhdekpecaaGreatDoor.Par
