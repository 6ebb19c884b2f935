/-
  Parameters in memory; the smallest functions of package param.
  Conditions: the numbers lie within their kinds, the cells hold them.
-/
import Derived.Test.YtifdkpifambhaaaRows
import Derived.WalkKit
import Derived.ProofKit
import Derived.OpenShut
import Derived.OwnWalk
import Derived.Laws.BitsAllLaws
import Derived.Laws.BytesArg
import Derived.Laws.AppendOwnNone
import Derived.Laws.MakeOwn
import Derived.Deep.OwnRows
import Derived.Deep.RegionHeld3
import Derived.Deep.RegionWith
import Derived.Deep.AppendLies
namespace Go.Proofs.Ytifdkpifambhaaa.Par
open Go.ChangeShapes Go.WideShapes Go.ChangeAt Go.RowKit
set_option linter.unusedVariables false

theorem hidden {p : Prop} (h : p) : Hid p := h
def Bytes (zs : List Int) : Prop := ∀ n ∈ zs, 0 ≤ n ∧ n < 256
/-- a row of bytes that can be read, in a block from base on -/
def Row (base : Nat) (w : World) (a : Option Addr) (len : Nat) (zs : List Int) : Prop :=
  zs.length = len ∧ Bytes zs ∧ len ≤ 140737488355328 ∧ (len = 0 ∨ ∃ b off, a = some ⟨b, off, none⟩ ∧ base ≤ b ∧ ∀ j, j < len → w.cell? ⟨b, off + j, none⟩ = some (.int .u8 (zs.getD j 0)))
theorem cell_lt {w : World} {a : Addr} {v : Value} (h : w.cell? a = some v) : a.block < w.heap.size := by
  rcases Nat.lt_or_ge a.block w.heap.size with h0 | h0
  · exact h0
  · simp [World.cell?, Array.getElem?_eq_none h0] at h
theorem at_bound (zs : List Int) (hb : Bytes zs) (k : Nat) : 0 ≤ zs.getD k 0 ∧ zs.getD k 0 < 256 := by
  rw [List.getD_eq_getElem?_getD]
  cases h : zs[k]? with
  | none => decide
  | some x => exact hb x (List.mem_of_getElem? h)
theorem Row.later {base : Nat} {w w' : World} {a : Option Addr} {len : Nat} {zs : List Int} (h : Row base w a len zs) (hb : Below w.heap.size w w') : Row base w' a len zs := by
  obtain ⟨h1, h2, h3, h4⟩ := h
  refine ⟨h1, h2, h3, h4.imp id ?_⟩
  rintro ⟨b, off, rfl, hbb, hc⟩
  exact ⟨b, off, rfl, hbb, fun j hj => (hb.cell (cell_lt (hc j hj))).trans (hc j hj)⟩
theorem Row.set {base : Nat} {w : World} {a : Option Addr} {len : Nat} {zs : List Int} (h : Row base w a len zs) {x : Addr} (hx : x.block < base) (v : Value) : Row base (w.setCell x v) a len zs := by
  obtain ⟨h1, h2, h3, h4⟩ := h
  refine ⟨h1, h2, h3, h4.imp id ?_⟩
  rintro ⟨b, off, rfl, hbb, hc⟩
  exact ⟨b, off, rfl, hbb, fun j hj => (World.cell?_setCell_other _ _ _ _ (fun e => by subst e; exact absurd hx (Nat.not_lt.2 hbb))).trans (hc j hj)⟩
theorem Row.mono {base base' : Nat} {w : World} {a : Option Addr} {len : Nat} {zs : List Int} (h : Row base w a len zs) (hb : base' ≤ base) : Row base' w a len zs := by
  obtain ⟨h1, h2, h3, h4⟩ := h
  refine ⟨h1, h2, h3, h4.imp id ?_⟩
  rintro ⟨b, off, rfl, hbb, hc⟩
  exact ⟨b, off, rfl, Nat.le_trans hb hbb, hc⟩

/-- a parameter: its type, its Body's address, length, capacity and bytes -/
abbrev Prm := Int × Option Addr × Nat × Nat × List Int
/-- a parameter as a value -/
def pv (p : Prm) : Value := .agg #[.int .u16 p.1, .slice p.2.1 p.2.2.1 p.2.2.2.1]
/-- as cells -/
def pc (p : Prm) : List Value := [.int .u16 p.1, .slice p.2.1 p.2.2.1 p.2.2.2.1]
/-- what it says -/
def val (p : Prm) : Int × List Int := (p.1, p.2.2.2.2)
/-- it can be read -/
def One (base : Nat) (w : World) (p : Prm) : Prop :=
  (0 ≤ p.1 ∧ p.1 < 65536) ∧ Row base w p.2.1 p.2.2.1 p.2.2.2.2 ∧ p.2.2.1 ≤ p.2.2.2.1 ∧ p.2.2.2.1 ≤ maxLen ∧ (p.2.1 = none → p.2.2.1 = 0 ∧ p.2.2.2.1 = 0)
/-- a list of them -/
def Prms (base : Nat) (w : World) (pa : Option Addr) (n : Nat) (ps : List Prm) : Prop :=
  ps.length = n ∧ n ≤ 140737488355328 ∧ (∀ p ∈ ps, One base w p) ∧
    (n = 0 ∨ ∃ b off, pa = some ⟨b, off, none⟩ ∧ base ≤ b ∧ ∀ j p, ps[j]? = some p → w.cell? ⟨b, off + j * 2, none⟩ = some (.int .u16 p.1) ∧ w.cell? ⟨b, off + j * 2 + 1, none⟩ = some (.slice p.2.1 p.2.2.1 p.2.2.2.1))
theorem One.later {base : Nat} {w w' : World} {p : Prm} (h : One base w p) (hb : Below w.heap.size w w') : One base w' p := ⟨h.1, h.2.1.later hb, h.2.2⟩
theorem One.set {base : Nat} {w : World} {p : Prm} (h : One base w p) {x : Addr} (hx : x.block < base) (v : Value) : One base (w.setCell x v) p := ⟨h.1, h.2.1.set hx v, h.2.2⟩
theorem One.mono {base base' : Nat} {w : World} {p : Prm} (h : One base w p) (hb : base' ≤ base) : One base' w p := ⟨h.1, h.2.1.mono hb, h.2.2⟩
theorem Prms.later {base : Nat} {w w' : World} {pa : Option Addr} {n : Nat} {ps : List Prm} (h : Prms base w pa n ps) (hb : Below w.heap.size w w') : Prms base w' pa n ps := by
  obtain ⟨h1, h2, h3, h4⟩ := h
  refine ⟨h1, h2, fun p hp => (h3 p hp).later hb, h4.imp id ?_⟩
  rintro ⟨b, off, rfl, hbb, hc⟩
  exact ⟨b, off, rfl, hbb, fun j p hj => ⟨(hb.cell (cell_lt (hc j p hj).1)).trans (hc j p hj).1, (hb.cell (cell_lt (hc j p hj).2)).trans (hc j p hj).2⟩⟩
theorem Prms.set {base : Nat} {w : World} {pa : Option Addr} {n : Nat} {ps : List Prm} (h : Prms base w pa n ps) {x : Addr} (hx : x.block < base) (v : Value) : Prms base (w.setCell x v) pa n ps := by
  obtain ⟨h1, h2, h3, h4⟩ := h
  refine ⟨h1, h2, fun p hp => (h3 p hp).set hx v, h4.imp id ?_⟩
  rintro ⟨b, off, rfl, hbb, hc⟩
  refine ⟨b, off, rfl, hbb, fun j p hj => ⟨?_, ?_⟩⟩
  · exact (World.cell?_setCell_other _ _ _ _ (fun e => by subst e; exact absurd hx (Nat.not_lt.2 hbb))).trans (hc j p hj).1
  · exact (World.cell?_setCell_other _ _ _ _ (fun e => by subst e; exact absurd hx (Nat.not_lt.2 hbb))).trans (hc j p hj).2
theorem Prms.nil (base : Nat) (w : World) (pa : Option Addr) : Prms base w pa 0 [] := ⟨rfl, by decide, (fun p hp => by cases hp), .inl rfl⟩
theorem Prms.get {base : Nat} {w : World} {pa : Option Addr} {n k : Nat} {ps : List Prm} (h : Prms base w pa n ps) (hk : k < n) :
    ∃ b off t a len cap zs, pa = some ⟨b, off, none⟩ ∧ ps[k]? = some (t, a, len, cap, zs) ∧ w.cell? ⟨b, off + k * 2, none⟩ = some (.int .u16 t) ∧ w.cell? ⟨b, off + k * 2 + 1, none⟩ = some (.slice a len cap) ∧ One base w (t, a, len, cap, zs) := by
  obtain ⟨h1, h2, h3, h4⟩ := h
  obtain ⟨b, off, rfl, hbb, hc⟩ := h4.resolve_left (by omega)
  obtain ⟨⟨t, a, len, cap, zs⟩, hpk⟩ : ∃ p, ps[k]? = some p := ⟨_, List.getElem?_eq_getElem (by omega)⟩
  exact ⟨b, off, t, a, len, cap, zs, rfl, hpk, (hc k _ hpk).1, (hc k _ hpk).2, h3 _ (List.mem_of_getElem? hpk)⟩
theorem One.len {base : Nat} {w : World} {t : Int} {a : Option Addr} {len cap : Nat} {zs : List Int} (h : One base w (t, a, len, cap, zs)) : zs.length = len ∧ Bytes zs ∧ len ≤ 140737488355328 ∧ (0 ≤ t ∧ t < 65536) := ⟨h.2.1.1, h.2.1.2.1, h.2.1.2.2.1, h.1⟩
theorem mem_take_succ {α : Type} {l : List α} {k : Nat} {x : α} (h : l[k]? = some x) {y : α} (hy : y ∈ l.take (k + 1)) : y ∈ l.take k ∨ y = x := by
  rw [List.take_add_one, h] at hy
  simpa using hy
theorem fin_int {k : IntKind} {x y : Int} {w : World} (h : x = y) : Ending.returned (.int k x) = Ending.returned (.int k y) ∧ w = w := ⟨by rw [h], rfl⟩
theorem fin_bool {x y : Bool} {w : World} (h : x = y) : Ending.returned (.bool x) = Ending.returned (.bool y) ∧ w = w := ⟨by rw [h], rfl⟩

/-- the next number that 4 divides -/
def fill4 (n : Nat) : Nat := (n + 3) / 4 * 4
theorem filled (n : Nat) (hn : n ≤ 140737488355328) (w : World) : Calls Try.prog 71 #[.int .i64 (n : Int)] w fun e w' => e = .returned (.int .i64 (fill4 n : Nat)) ∧ w = w' := by
  have hd : ((n : Int) + 3).tdiv 4 = (((n + 3) / 4 : Nat) : Int) := by
    rw [Int.tdiv_eq_ediv_of_nonneg (by omega)]; omega
  go_enter Try.func71, Try.ntmps71
  go_wp2
  go_ret
  refine fin_int ?_
  unfold fill4
  omega
theorem length_ (t : Int) (a : Option Addr) (len cap : Nat) (hn : len ≤ 140737488355328) (w : World) :
    Calls Try.prog 82 #[.agg #[.int .u16 t, .slice a len cap]] w fun e w' => e = .returned (.int .i64 ((len + 4 : Nat) : Int)) ∧ Below w.heap.size w w' := by
  go_enter Try.func82, Try.ntmps82
  go_wp2
  go_ret
  exact ⟨congrArg (fun x => Ending.returned (.int .i64 x)) (show (4 : Int) + len = ((len + 4 : Nat) : Int) by omega), (Below.refl _ _).alloc (Nat.le_refl _) _⟩
theorem tooLong (t : Int) (a : Option Addr) (len cap : Nat) (hn : len ≤ 140737488355328) (w : World) :
    Calls Try.prog 81 #[.agg #[.int .u16 t, .slice a len cap]] w fun e w' => e = .returned (.bool (decide (65531 < len))) ∧ Below w.heap.size w w' := by
  go_enter Try.func81, Try.ntmps81
  go_wp2
  go_ret
  exact ⟨congrArg (fun x => Ending.returned (.bool x)) (show decide (65531 < (len : Int)) = decide (65531 < len) by rw [decide_eq_decide]; omega), (Below.refl _ _).alloc (Nat.le_refl _) _⟩

/-- one of them is too long -/
def Long (ps : List Prm) : Prop := ∃ p ∈ ps, 65531 < p.2.2.1
theorem index (base : Nat) (w : World) (pa : Option Addr) (n pcap : Nat) (ps : List Prm) (hp : Prms base w pa n ps) :
    Calls Try.prog 88 #[.slice pa n pcap, .func (.func 81) #[] #[]] w fun e w' => ∃ k : Int, e = .returned (.int .i64 k) ∧ (0 ≤ k ↔ Long ps) ∧ Below w.heap.size w w' := by
  go_enter Try.func88, Try.ntmps88
  go_wp2_with fail
  go_loopw [8] (fun i wr => ∃ k : Nat, k ≤ n ∧ i = .int .i64 k ∧ (∀ p ∈ ps.take k, ¬ 65531 < p.2.2.1) ∧ Below w.heap.size w wr) (fun i _ => n - (intOf i).toNat)
  case atStart => exact ⟨0, Nat.zero_le _, rfl, (fun p hp => by simp at hp), Below.refl _ _⟩
  case round =>
    obtain ⟨k, hk, rfl, hno, hbl⟩ := hrel
    have hnl := hp.2.1
    rcases Nat.lt_or_ge k n with hlt | hge
    · obtain ⟨b, off, t, a, len, cap, zs, rfl, hpk, hc1, hc2, hone⟩ := (hp.later hbl).get hlt
      obtain ⟨_, _, hlim, _⟩ := hone.len
      have HP := hidden hpk
      have HN := hidden hno
      have HB := hidden hbl
      clear hpk hno hbl
      go_wp2_with fail
      refine (tooLong t a len cap hlim _).mono ?_
      rintro e w' ⟨rfl, b2⟩
      have HB2 := hidden (HB.out.trans (b2.mono HB.out.size))
      by_cases hL : 65531 < len
      · rw [decide_eq_true hL]
        go_wp2
        go_ret
        exact ⟨k, rfl, ⟨fun _ => ⟨_, List.mem_of_getElem? HP.out, hL⟩, fun _ => by omega⟩, HB2.out⟩
      · rw [decide_eq_false hL]
        go_wp2
        go_roundw
        case rel =>
          refine ⟨k + 1, by omega, by go_num, fun p hp => ?_, HB2.out⟩
          rcases mem_take_succ HP.out hp with h | h
          · exact HN.out p h
          · subst h; exact hL
        case measure => simp [intOf]; omega
    · obtain rfl : k = n := by omega
      rw [List.take_of_length_le (by rw [hp.1]; omega)] at hno
      have HN := hidden hno
      clear hno
      go_wp2
      go_ret
      exact ⟨-1, rfl, ⟨fun h => by omega, fun ⟨p, hp, hl⟩ => absurd hl (HN.out p hp)⟩, hbl⟩
theorem contains (base : Nat) (w : World) (pa : Option Addr) (n pcap : Nat) (ps : List Prm) (hp : Prms base w pa n ps) :
    Calls Try.prog 80 #[.slice pa n pcap, .func (.func 81) #[] #[]] w fun e w' => ∃ t : Bool, e = .returned (.bool t) ∧ (t = true ↔ Long ps) ∧ Below w.heap.size w w' := by
  have H := hidden (index base w pa n pcap ps hp)
  go_enter Try.func80, Try.ntmps80
  go_wp2_with fail
  refine Calls.mono H.out ?_
  rintro e w' ⟨k, rfl, hk, hb⟩
  have HK := hidden hk
  clear hk
  go_wp2
  go_ret
  exact ⟨_, rfl, by rw [← HK.out]; simp, hb⟩
/-- why a list is refused -/
def code (ps : List Prm) (e : Int) : Prop := (256 < ps.length ∧ e = 3) ∨ (ps.length ≤ 256 ∧ Long ps ∧ e = 2) ∨ (ps.length ≤ 256 ∧ ¬ Long ps ∧ e = 0)
theorem refusal (base : Nat) (w : World) (pa : Option Addr) (n pcap : Nat) (ps : List Prm) (hp : Prms base w pa n ps) :
    Calls Try.prog 69 #[.slice pa n pcap] w fun e w' => ∃ c : Int, e = .returned (.int .i64 c) ∧ code ps c ∧ Below w.heap.size w w' := by
  have H := hidden (contains base w pa n pcap ps hp)
  have hl := hp.1
  have hnl := hp.2.1
  have HC : Hid (∀ e, code ps e ↔ (256 < n ∧ e = 3) ∨ (n ≤ 256 ∧ Long ps ∧ e = 2) ∨ (n ≤ 256 ∧ ¬ Long ps ∧ e = 0)) := by intro e; unfold code; rw [hl]
  by_cases hm : 256 < n
  · go_enter Try.func69, Try.ntmps69
    go_wp2
    go_ret
    exact ⟨3, rfl, (HC.out _).2 (.inl ⟨hm, rfl⟩), Below.refl _ _⟩
  · go_enter Try.func69, Try.ntmps69
    go_wp2_with fail
    refine Calls.mono H.out ?_
    rintro e w' ⟨t, rfl, ht, hb⟩
    have HT := hidden ht
    clear ht
    cases t with
    | true =>
      go_wp2
      go_ret
      exact ⟨2, rfl, (HC.out _).2 (.inr (.inl ⟨by omega, HT.out.1 (by simp), rfl⟩)), hb⟩
    | false =>
      go_wp2
      go_ret
      exact ⟨0, rfl, (HC.out _).2 (.inr (.inr ⟨by omega, fun h => by simpa using HT.out.2 h, rfl⟩)), hb⟩
end Go.Proofs.Ytifdkpifambhaaa.Par
