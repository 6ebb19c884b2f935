/-
  Parameters in memory; the smallest functions of package param. The bytes of a list of parameters, as package param makes them. What Encode and Size of package param answer. Bytes as texts; the known list of the law's own. Which lists are alike, as the document says it. Find and Same of package param, and the document's Find.
  Conditions: as at each lemma.
-/
import Derived.Test.YtmnndkhdekpecaaGreatDoorRows
import Derived.WalkKit
import Derived.ProofKit
import Derived.OpenShut
import Derived.OwnWalk
import Derived.Laws.BitsAllLaws
import Derived.Laws.BytesArg
import Derived.Laws.AppendOwnNone
import Derived.Laws.MakeOwn
import Derived.Deep.OwnRows
import Derived.Deep.RegionHeld3
import Derived.Deep.RegionWith
import Derived.Deep.AppendLies
import Derived.BigQuiet
import Derived.Deep.QuietTactic
import Derived.Laws.OwnMore
import Derived.Lib.SliceRun
namespace Go.Proofs.YtmnndkhdekpecaaGreatDoor.Par
open Go.ChangeShapes Go.WideShapes Go.ChangeAt Go.RowKit
set_option linter.unusedVariables false

theorem hidden {p : Prop} (h : p) : Hid p := h
def Bytes (zs : List Int) : Prop := ∀ n ∈ zs, 0 ≤ n ∧ n < 256
/-- a row of bytes that can be read, in a block from base on -/
def Row (base : Nat) (w : World) (a : Option Addr) (len : Nat) (zs : List Int) : Prop :=
  zs.length = len ∧ Bytes zs ∧ len ≤ 140737488355328 ∧ (len = 0 ∨ ∃ b off, a = some ⟨b, off, none⟩ ∧ base ≤ b ∧ ∀ j, j < len → w.cell? ⟨b, off + j, none⟩ = some (.int .u8 (zs.getD j 0)))
theorem cell_lt {w : World} {a : Addr} {v : Value} (h : w.cell? a = some v) : a.block < w.heap.size := by
  rcases Nat.lt_or_ge a.block w.heap.size with h0 | h0
  · exact h0
  · simp [World.cell?, Array.getElem?_eq_none h0] at h
theorem at_bound (zs : List Int) (hb : Bytes zs) (k : Nat) : 0 ≤ zs.getD k 0 ∧ zs.getD k 0 < 256 := by
  rw [List.getD_eq_getElem?_getD]
  cases h : zs[k]? with
  | none => decide
  | some x => exact hb x (List.mem_of_getElem? h)
theorem Row.later {base : Nat} {w w' : World} {a : Option Addr} {len : Nat} {zs : List Int} (h : Row base w a len zs) (hb : Below w.heap.size w w') : Row base w' a len zs := by
  obtain ⟨h1, h2, h3, h4⟩ := h
  refine ⟨h1, h2, h3, h4.imp id ?_⟩
  rintro ⟨b, off, rfl, hbb, hc⟩
  exact ⟨b, off, rfl, hbb, fun j hj => (hb.cell (cell_lt (hc j hj))).trans (hc j hj)⟩
theorem Row.set {base : Nat} {w : World} {a : Option Addr} {len : Nat} {zs : List Int} (h : Row base w a len zs) {x : Addr} (hx : x.block < base) (v : Value) : Row base (w.setCell x v) a len zs := by
  obtain ⟨h1, h2, h3, h4⟩ := h
  refine ⟨h1, h2, h3, h4.imp id ?_⟩
  rintro ⟨b, off, rfl, hbb, hc⟩
  exact ⟨b, off, rfl, hbb, fun j hj => (World.cell?_setCell_other _ _ _ _ (fun e => by subst e; exact absurd hx (Nat.not_lt.2 hbb))).trans (hc j hj)⟩
theorem Row.mono {base base' : Nat} {w : World} {a : Option Addr} {len : Nat} {zs : List Int} (h : Row base w a len zs) (hb : base' ≤ base) : Row base' w a len zs := by
  obtain ⟨h1, h2, h3, h4⟩ := h
  refine ⟨h1, h2, h3, h4.imp id ?_⟩
  rintro ⟨b, off, rfl, hbb, hc⟩
  exact ⟨b, off, rfl, Nat.le_trans hb hbb, hc⟩

/-- a parameter: its type, its Body's address, length, capacity and bytes -/
abbrev Prm := Int × Option Addr × Nat × Nat × List Int
/-- a parameter as a value -/
def pv (p : Prm) : Value := .agg #[.int .u16 p.1, .slice p.2.1 p.2.2.1 p.2.2.2.1]
/-- as cells -/
def pc (p : Prm) : List Value := [.int .u16 p.1, .slice p.2.1 p.2.2.1 p.2.2.2.1]
/-- what it says -/
def val (p : Prm) : Int × List Int := (p.1, p.2.2.2.2)
/-- it can be read -/
def One (base : Nat) (w : World) (p : Prm) : Prop :=
  (0 ≤ p.1 ∧ p.1 < 65536) ∧ Row base w p.2.1 p.2.2.1 p.2.2.2.2 ∧ p.2.2.1 ≤ p.2.2.2.1 ∧ p.2.2.2.1 ≤ maxLen ∧ (p.2.1 = none → p.2.2.1 = 0 ∧ p.2.2.2.1 = 0)
/-- a list of them -/
def Prms (base : Nat) (w : World) (pa : Option Addr) (n : Nat) (ps : List Prm) : Prop :=
  ps.length = n ∧ n ≤ 140737488355328 ∧ (∀ p ∈ ps, One base w p) ∧
    (n = 0 ∨ ∃ b off, pa = some ⟨b, off, none⟩ ∧ base ≤ b ∧ ∀ j p, ps[j]? = some p → w.cell? ⟨b, off + j * 2, none⟩ = some (.int .u16 p.1) ∧ w.cell? ⟨b, off + j * 2 + 1, none⟩ = some (.slice p.2.1 p.2.2.1 p.2.2.2.1))
theorem One.later {base : Nat} {w w' : World} {p : Prm} (h : One base w p) (hb : Below w.heap.size w w') : One base w' p := ⟨h.1, h.2.1.later hb, h.2.2⟩
theorem One.set {base : Nat} {w : World} {p : Prm} (h : One base w p) {x : Addr} (hx : x.block < base) (v : Value) : One base (w.setCell x v) p := ⟨h.1, h.2.1.set hx v, h.2.2⟩
theorem One.mono {base base' : Nat} {w : World} {p : Prm} (h : One base w p) (hb : base' ≤ base) : One base' w p := ⟨h.1, h.2.1.mono hb, h.2.2⟩
theorem Prms.later {base : Nat} {w w' : World} {pa : Option Addr} {n : Nat} {ps : List Prm} (h : Prms base w pa n ps) (hb : Below w.heap.size w w') : Prms base w' pa n ps := by
  obtain ⟨h1, h2, h3, h4⟩ := h
  refine ⟨h1, h2, fun p hp => (h3 p hp).later hb, h4.imp id ?_⟩
  rintro ⟨b, off, rfl, hbb, hc⟩
  exact ⟨b, off, rfl, hbb, fun j p hj => ⟨(hb.cell (cell_lt (hc j p hj).1)).trans (hc j p hj).1, (hb.cell (cell_lt (hc j p hj).2)).trans (hc j p hj).2⟩⟩
theorem Prms.set {base : Nat} {w : World} {pa : Option Addr} {n : Nat} {ps : List Prm} (h : Prms base w pa n ps) {x : Addr} (hx : x.block < base) (v : Value) : Prms base (w.setCell x v) pa n ps := by
  obtain ⟨h1, h2, h3, h4⟩ := h
  refine ⟨h1, h2, fun p hp => (h3 p hp).set hx v, h4.imp id ?_⟩
  rintro ⟨b, off, rfl, hbb, hc⟩
  refine ⟨b, off, rfl, hbb, fun j p hj => ⟨?_, ?_⟩⟩
  · exact (World.cell?_setCell_other _ _ _ _ (fun e => by subst e; exact absurd hx (Nat.not_lt.2 hbb))).trans (hc j p hj).1
  · exact (World.cell?_setCell_other _ _ _ _ (fun e => by subst e; exact absurd hx (Nat.not_lt.2 hbb))).trans (hc j p hj).2
theorem Prms.nil (base : Nat) (w : World) (pa : Option Addr) : Prms base w pa 0 [] := ⟨rfl, by decide, (fun p hp => by cases hp), .inl rfl⟩
theorem Prms.get {base : Nat} {w : World} {pa : Option Addr} {n k : Nat} {ps : List Prm} (h : Prms base w pa n ps) (hk : k < n) :
    ∃ b off t a len cap zs, pa = some ⟨b, off, none⟩ ∧ ps[k]? = some (t, a, len, cap, zs) ∧ w.cell? ⟨b, off + k * 2, none⟩ = some (.int .u16 t) ∧ w.cell? ⟨b, off + k * 2 + 1, none⟩ = some (.slice a len cap) ∧ One base w (t, a, len, cap, zs) := by
  obtain ⟨h1, h2, h3, h4⟩ := h
  obtain ⟨b, off, rfl, hbb, hc⟩ := h4.resolve_left (by omega)
  obtain ⟨⟨t, a, len, cap, zs⟩, hpk⟩ : ∃ p, ps[k]? = some p := ⟨_, List.getElem?_eq_getElem (by omega)⟩
  exact ⟨b, off, t, a, len, cap, zs, rfl, hpk, (hc k _ hpk).1, (hc k _ hpk).2, h3 _ (List.mem_of_getElem? hpk)⟩
theorem One.len {base : Nat} {w : World} {t : Int} {a : Option Addr} {len cap : Nat} {zs : List Int} (h : One base w (t, a, len, cap, zs)) : zs.length = len ∧ Bytes zs ∧ len ≤ 140737488355328 ∧ (0 ≤ t ∧ t < 65536) := ⟨h.2.1.1, h.2.1.2.1, h.2.1.2.2.1, h.1⟩
theorem mem_take_succ {α : Type} {l : List α} {k : Nat} {x : α} (h : l[k]? = some x) {y : α} (hy : y ∈ l.take (k + 1)) : y ∈ l.take k ∨ y = x := by
  rw [List.take_add_one, h] at hy
  simpa using hy
theorem fin_int {k : IntKind} {x y : Int} {w : World} (h : x = y) : Ending.returned (.int k x) = Ending.returned (.int k y) ∧ w = w := ⟨by rw [h], rfl⟩
theorem fin_bool {x y : Bool} {w : World} (h : x = y) : Ending.returned (.bool x) = Ending.returned (.bool y) ∧ w = w := ⟨by rw [h], rfl⟩

/-- the next number that 4 divides -/
def fill4 (n : Nat) : Nat := (n + 3) / 4 * 4
theorem filled (n : Nat) (hn : n ≤ 140737488355328) (w : World) : Calls Tryz.prog 110 #[.int .i64 (n : Int)] w fun e w' => e = .returned (.int .i64 (fill4 n : Nat)) ∧ w = w' := by
  have hd : ((n : Int) + 3).tdiv 4 = (((n + 3) / 4 : Nat) : Int) := by
    rw [Int.tdiv_eq_ediv_of_nonneg (by omega)]; omega
  go_enter Tryz.func110, Tryz.ntmps110
  go_wp2
  go_ret
  refine fin_int ?_
  unfold fill4
  omega
theorem length_ (t : Int) (a : Option Addr) (len cap : Nat) (hn : len ≤ 140737488355328) (w : World) :
    Calls Tryz.prog 118 #[.agg #[.int .u16 t, .slice a len cap]] w fun e w' => e = .returned (.int .i64 ((len + 4 : Nat) : Int)) ∧ Below w.heap.size w w' := by
  go_enter Tryz.func118, Tryz.ntmps118
  go_wp2
  go_ret
  exact ⟨congrArg (fun x => Ending.returned (.int .i64 x)) (show (4 : Int) + len = ((len + 4 : Nat) : Int) by omega), (Below.refl _ _).alloc (Nat.le_refl _) _⟩
theorem tooLong (t : Int) (a : Option Addr) (len cap : Nat) (hn : len ≤ 140737488355328) (w : World) :
    Calls Tryz.prog 117 #[.agg #[.int .u16 t, .slice a len cap]] w fun e w' => e = .returned (.bool (decide (65531 < len))) ∧ Below w.heap.size w w' := by
  go_enter Tryz.func117, Tryz.ntmps117
  go_wp2
  go_ret
  exact ⟨congrArg (fun x => Ending.returned (.bool x)) (show decide (65531 < (len : Int)) = decide (65531 < len) by rw [decide_eq_decide]; omega), (Below.refl _ _).alloc (Nat.le_refl _) _⟩

/-- one of them is too long -/
def Long (ps : List Prm) : Prop := ∃ p ∈ ps, 65531 < p.2.2.1
theorem index (base : Nat) (w : World) (pa : Option Addr) (n pcap : Nat) (ps : List Prm) (hp : Prms base w pa n ps) :
    Calls Tryz.prog 127 #[.slice pa n pcap, .func (.func 117) #[] #[]] w fun e w' => ∃ k : Int, e = .returned (.int .i64 k) ∧ (0 ≤ k ↔ Long ps) ∧ Below w.heap.size w w' := by
  go_enter Tryz.func127, Tryz.ntmps127
  go_wp2_with fail
  go_loopw [8] (fun i wr => ∃ k : Nat, k ≤ n ∧ i = .int .i64 k ∧ (∀ p ∈ ps.take k, ¬ 65531 < p.2.2.1) ∧ Below w.heap.size w wr) (fun i _ => n - (intOf i).toNat)
  case atStart => exact ⟨0, Nat.zero_le _, rfl, (fun p hp => by simp at hp), Below.refl _ _⟩
  case round =>
    obtain ⟨k, hk, rfl, hno, hbl⟩ := hrel
    have hnl := hp.2.1
    rcases Nat.lt_or_ge k n with hlt | hge
    · obtain ⟨b, off, t, a, len, cap, zs, rfl, hpk, hc1, hc2, hone⟩ := (hp.later hbl).get hlt
      obtain ⟨_, _, hlim, _⟩ := hone.len
      have HP := hidden hpk
      have HN := hidden hno
      have HB := hidden hbl
      clear hpk hno hbl
      go_wp2_with fail
      refine (tooLong t a len cap hlim _).mono ?_
      rintro e w' ⟨rfl, b2⟩
      have HB2 := hidden (HB.out.trans (b2.mono HB.out.size))
      by_cases hL : 65531 < len
      · rw [decide_eq_true hL]
        go_wp2
        go_ret
        exact ⟨k, rfl, ⟨fun _ => ⟨_, List.mem_of_getElem? HP.out, hL⟩, fun _ => by omega⟩, HB2.out⟩
      · rw [decide_eq_false hL]
        go_wp2
        go_roundw
        case rel =>
          refine ⟨k + 1, by omega, by go_num, fun p hp => ?_, HB2.out⟩
          rcases mem_take_succ HP.out hp with h | h
          · exact HN.out p h
          · subst h; exact hL
        case measure => simp [intOf]; omega
    · obtain rfl : k = n := by omega
      rw [List.take_of_length_le (by rw [hp.1]; omega)] at hno
      have HN := hidden hno
      clear hno
      go_wp2
      go_ret
      exact ⟨-1, rfl, ⟨fun h => by omega, fun ⟨p, hp, hl⟩ => absurd hl (HN.out p hp)⟩, hbl⟩
theorem contains (base : Nat) (w : World) (pa : Option Addr) (n pcap : Nat) (ps : List Prm) (hp : Prms base w pa n ps) :
    Calls Tryz.prog 116 #[.slice pa n pcap, .func (.func 117) #[] #[]] w fun e w' => ∃ t : Bool, e = .returned (.bool t) ∧ (t = true ↔ Long ps) ∧ Below w.heap.size w w' := by
  have H := hidden (index base w pa n pcap ps hp)
  go_enter Tryz.func116, Tryz.ntmps116
  go_wp2_with fail
  refine Calls.mono H.out ?_
  rintro e w' ⟨k, rfl, hk, hb⟩
  have HK := hidden hk
  clear hk
  go_wp2
  go_ret
  exact ⟨_, rfl, by rw [← HK.out]; simp, hb⟩
/-- why a list is refused -/
def code (ps : List Prm) (e : Int) : Prop := (256 < ps.length ∧ e = 3) ∨ (ps.length ≤ 256 ∧ Long ps ∧ e = 2) ∨ (ps.length ≤ 256 ∧ ¬ Long ps ∧ e = 0)
theorem refusal (base : Nat) (w : World) (pa : Option Addr) (n pcap : Nat) (ps : List Prm) (hp : Prms base w pa n ps) :
    Calls Tryz.prog 108 #[.slice pa n pcap] w fun e w' => ∃ c : Int, e = .returned (.int .i64 c) ∧ code ps c ∧ Below w.heap.size w w' := by
  have H := hidden (contains base w pa n pcap ps hp)
  have hl := hp.1
  have hnl := hp.2.1
  have HC : Hid (∀ e, code ps e ↔ (256 < n ∧ e = 3) ∨ (n ≤ 256 ∧ Long ps ∧ e = 2) ∨ (n ≤ 256 ∧ ¬ Long ps ∧ e = 0)) := by intro e; unfold code; rw [hl]
  by_cases hm : 256 < n
  · go_enter Tryz.func108, Tryz.ntmps108
    go_wp2
    go_ret
    exact ⟨3, rfl, (HC.out _).2 (.inl ⟨hm, rfl⟩), Below.refl _ _⟩
  · go_enter Tryz.func108, Tryz.ntmps108
    go_wp2_with fail
    refine Calls.mono H.out ?_
    rintro e w' ⟨t, rfl, ht, hb⟩
    have HT := hidden ht
    clear ht
    cases t with
    | true =>
      go_wp2
      go_ret
      exact ⟨2, rfl, (HC.out _).2 (.inr (.inl ⟨by omega, HT.out.1 (by simp), rfl⟩)), hb⟩
    | false =>
      go_wp2
      go_ret
      exact ⟨0, rfl, (HC.out _).2 (.inr (.inr ⟨by omega, fun h => by simpa using HT.out.2 h, rfl⟩)), hb⟩
end Go.Proofs.YtmnndkhdekpecaaGreatDoor.Par
namespace Go.Proofs.YtmnndkhdekpecaaGreatDoor.Par
open Go.ChangeShapes Go.WideShapes Go.ChangeAt Go.RowKit
set_option linter.unusedVariables false

/-- bytes 0 up to a length that 4 divides -/
def pad (b : List Int) : List Int := b ++ List.replicate (fill4 b.length - b.length) 0
def head (x : Int × List Int) : List Int := [x.1 / 256, x.1 % 256, ((x.2.length + 4 : Nat) : Int) / 256 % 256, ((x.2.length + 4 : Nat) : Int) % 256]
def put (b : List Int) (x : Int × List Int) : List Int := pad b ++ head x ++ x.2
/-- a list's bytes -/
def enc (l : List (Int × List Int)) : List Int := l.foldl put []
theorem pad_len (b : List Int) : (pad b).length = fill4 b.length := by unfold pad fill4; rw [List.length_append, List.length_replicate]; omega
theorem put_len (b : List Int) (x : Int × List Int) : (put b x).length = fill4 b.length + (x.2.length + 4) := by unfold put; rw [List.length_append, List.length_append, pad_len]; simp [head]; omega
theorem enc_snoc (ps : List Prm) (k : Nat) (p : Prm) (h : ps[k]? = some p) : enc ((ps.take (k + 1)).map val) = put (enc ((ps.take k).map val)) (val p) := by
  rw [List.take_add_one, h]; unfold enc; simp
theorem fill4_le (n : Nat) : n ≤ fill4 n ∧ fill4 n ≤ n + 3 := by unfold fill4; omega
theorem enc_le (l : List (Int × List Int)) (h : ∀ x ∈ l, x.2.length ≤ 65531) : (enc l).length ≤ l.length * 65538 := by
  have : ∀ (l : List (Int × List Int)) (b : List Int), (∀ x ∈ l, x.2.length ≤ 65531) → (l.foldl put b).length ≤ b.length + l.length * 65538 := by
    intro l
    induction l with
    | nil => intro b _; simp
    | cons x l ih =>
      intro b h
      have h1 := ih (put b x) (fun y hy => h y (by simp [hy]))
      have h2 := put_len b x
      have h3 := fill4_le b.length
      have h4 := h x (by simp)
      simp only [List.foldl_cons, List.length_cons]
      omega
  have := this l [] h
  unfold enc
  simpa using this
theorem enc_bytes (l : List (Int × List Int)) (h : ∀ x ∈ l, (0 ≤ x.1 ∧ x.1 < 65536) ∧ Bytes x.2) : Bytes (enc l) := by
  have : ∀ (l : List (Int × List Int)) (b : List Int), Bytes b → (∀ x ∈ l, (0 ≤ x.1 ∧ x.1 < 65536) ∧ Bytes x.2) → Bytes (l.foldl put b) := by
    intro l
    induction l with
    | nil => intro b hb _; exact hb
    | cons x l ih =>
      intro b hb h
      refine ih (put b x) ?_ (fun y hy => h y (by simp [hy]))
      obtain ⟨h1, h2⟩ := h x (by simp)
      intro n hn
      unfold put pad head at hn
      rcases List.mem_append.1 hn with hn | hn
      · rcases List.mem_append.1 hn with hn | hn
        · rcases List.mem_append.1 hn with hn | hn
          · exact hb n hn
          · rw [List.eq_of_mem_replicate hn]; decide
        · simp only [List.mem_cons, List.not_mem_nil, or_false] at hn
          rcases hn with rfl | rfl | rfl | rfl <;> omega
      · exact h2 n hn
  exact this l [] (fun n hn => by cases hn) h
theorem Long.not {ps : List Prm} {base : Nat} {w : World} (h : ¬ Long ps) (hp : ∀ p ∈ ps, One base w p) (k : Nat) : ∀ x ∈ (ps.take k).map val, x.2.length ≤ 65531 := by
  intro x hx
  obtain ⟨p, hp', rfl⟩ := List.mem_map.1 hx
  have hm := List.mem_of_mem_take hp'
  have := (hp p hm).2.1.1
  show p.2.2.2.2.length ≤ 65531
  rw [this]
  rcases Nat.lt_or_ge 65531 p.2.2.1 with hl | hl
  · exact absurd ⟨p, hm, hl⟩ h
  · exact hl
theorem enc_take_le {ps : List Prm} {base : Nat} {w : World} (h : ¬ Long ps) (hn : ps.length ≤ 256) (hp : ∀ p ∈ ps, One base w p) (k : Nat) : (enc ((ps.take k).map val)).length ≤ 16777728 := by
  have h1 := enc_le _ (Long.not h hp k)
  rw [List.length_map, List.length_take] at h1
  omega

theorem undrew {n : Nat} {w w' : World} (h : Below n w.drew w') : Below n w w' := ⟨h.os, h.tape, h.output, h.size, h.block⟩
theorem total (base : Nat) (w : World) (pa : Option Addr) (n pcap : Nat) (ps : List Prm) (hp : Prms base w pa n ps) (hL : ¬ Long ps) (hn : n ≤ 256) :
    Calls Tryz.prog 109 #[.slice pa n pcap] w fun e w' => e = .returned (.int .i64 ((enc (ps.map val)).length : Nat)) ∧ Below w.heap.size w w' := by
  have hE := enc_take_le hL (by rw [hp.1]; exact hn) hp.2.2.1
  have hA : enc ((ps.take n).map val) = enc (ps.map val) := by rw [List.take_of_length_le (by rw [hp.1]; omega)]
  rw [← hA]
  have HE := hidden hE
  clear hE hA
  go_enter Tryz.func109, Tryz.ntmps109
  go_wp2_with fail
  go_loopw [3, 8] (fun u i wr => ∃ k : Nat, k ≤ n ∧ i = .int .i64 k ∧ u = .int .i64 ((enc ((ps.take k).map val)).length : Nat) ∧ Below w.heap.size w wr) (fun _ i _ => n - (intOf i).toNat)
  case atStart => exact ⟨0, Nat.zero_le _, rfl, rfl, Below.refl _ _⟩
  case round =>
    obtain ⟨k, hk, rfl, rfl, hbl⟩ := hrel
    rcases Nat.lt_or_ge k n with hlt | hge
    · obtain ⟨b, off, t, a, len, cap, zs, rfl, hpk, hc1, hc2, hone⟩ := (hp.later hbl).get hlt
      obtain ⟨hzl, _, hlim, _⟩ := hone.len
      have hs := enc_snoc ps k _ hpk
      have hlen := put_len (enc ((ps.take k).map val)) (t, zs)
      have HS := hidden (show (enc ((ps.take (k + 1)).map val)).length = fill4 (enc ((ps.take k).map val)).length + (len + 4) by rw [hs, ← hzl]; exact hlen)
      have h1 := HE.out k
      have h2 := fill4_le (enc ((ps.take k).map val)).length
      have HB := hidden hbl
      have hbs := hbl.size
      clear hs hlen hpk hbl hzl hone
      generalize (enc ((ps.take k).map val)).length = m at *
      have HF := fun w => hidden (filled m (by omega) w)
      generalize fill4 m = f at *
      go_wp2_with fail
      go_region_with (first
        | (go_at_call 110; refine Calls.mono (HF _).out ?_; rintro e w' ⟨rfl, rfl⟩)
        | (go_at_call 118; refine (length_ t a len cap hlim _).mono ?_; rintro e w' ⟨rfl, b2⟩))
      all_goals
        have B2 : Below w.heap.size w w' := (HB.out.alloc hbs _).trans ((undrew b2).mono (by simp; omega))
        go_wp2
        go_roundw
        case rel => exact ⟨k + 1, by omega, by go_num, by rw [HS.out]; go_num, B2⟩
        case measure => simp [intOf]; omega
    · obtain rfl : k = n := by omega
      go_wp2
      go_ret
      exact ⟨rfl, hbl⟩
end Go.Proofs.YtmnndkhdekpecaaGreatDoor.Par
namespace Go.Proofs.YtmnndkhdekpecaaGreatDoor.Par
open Go.ChangeShapes Go.WideShapes Go.ChangeAt Go.RowKit
set_option linter.unusedVariables false

theorem info5 : (Tryz.prog.info? 5).map (fun i => (i.zero, i.size, i.bytes)) = some (some (.int .u8 0), 1, 1) := by kernel_rfl
def cs (zs : List Int) : List Value := zs.map (.int .u8)
theorem cs_append (xs ys : List Int) : cs (xs ++ ys) = cs xs ++ cs ys := List.map_append
theorem cs_len (xs : List Int) : (cs xs).length = xs.length := List.length_map _
theorem cs_one (zs : List Int) : ∀ u ∈ cs zs, u.oneCell' = true := by
  intro u hu
  obtain ⟨z, _, rfl⟩ := List.mem_map.1 hu
  rfl
/-- block g is a row of the call's own with room for cap bytes; the first are xs -/
def Cap (w : World) (B g cap : Nat) (xs : List Int) : Prop :=
  ∃ cur, w.heap[g]? = some (.cells cur 5 (0, 0)) ∧ B ≤ g ∧ cur.size = cap ∧ xs.length ≤ cap ∧ cap ≤ 140737488355328 ∧ cur.toList.take xs.length = cs xs
theorem Cap.own {w : World} {B g cap : Nat} {xs : List Int} (h : Cap w B g cap xs) : w.ownsRow B 5 1 (.slice (some ⟨g, 0, none⟩) xs.length cap) xs.length (cs xs) := by
  obtain ⟨cur, h1, h2, h3, h4, h5, h6⟩ := h
  exact ⟨by rw [cs_len, Nat.mul_one], .inr ⟨g, cap, cur, rfl, h2, h1, h4, by unfold maxLen; omega, by rw [Nat.mul_one]; exact h3, by rw [Nat.mul_one]; exact h6⟩⟩
theorem Cap.later {w w' : World} {B g cap : Nat} {xs : List Int} (h : Cap w B g cap xs) (hb : Below w.heap.size w w') : Cap w' B g cap xs := by
  obtain ⟨cur, h1, h2⟩ := h
  exact ⟨cur, (hb.block g (Array.getElem?_eq_some_iff.1 h1).1).trans h1, h2⟩
theorem Cap.setRow {w : World} {B g cap : Nat} {xs : List Int} (h : Cap w B g cap xs) (ys : List Int) (hroom : xs.length + ys.length ≤ cap) :
    ∃ cur, w.heap[g]? = some (.cells cur 5 (0, 0)) ∧ xs.length * 1 + (cs ys).length ≤ cur.size ∧ Cap (w.setRow g (cur.toList.take (xs.length * 1) ++ cs ys ++ cur.toList.drop (xs.length * 1 + (cs ys).length)).toArray) B g cap (xs ++ ys) ∧
      w.grownBy (w.setRow g (cur.toList.take (xs.length * 1) ++ cs ys ++ cur.toList.drop (xs.length * 1 + (cs ys).length)).toArray) (some g) := by
  obtain ⟨cur, h1, h2, h3, h4, h5, h6⟩ := h
  refine ⟨cur, h1, by rw [cs_len, Nat.mul_one]; omega, ⟨_, setRow_heap w g cur _ 5 _ h1, h2, ?_, by rw [List.length_append]; exact hroom, h5, ?_⟩, ⟨rfl, rfl, rfl, by simp, fun k _ hk => setRow_other w g k _ (fun e => hk (by rw [e]))⟩⟩
  · simp only [List.size_toArray, List.length_append, List.length_take, List.length_drop, Array.length_toList, cs_len]
    omega
  · rw [Nat.mul_one, h6, cs_append, List.length_append, ← cs_len xs, ← cs_len ys, ← List.length_append]
    simp only
    exact List.take_left

/-- append where there is room -/
theorem wpList_room {ops : Array Oper} {rest : List Oper} {o : Oper} {a : Act} {w : World} {Q : Exit → Act → World → Prop} (hgd : o.guard = none) (s x : Operand)
    (ho : o.op = .call { callee := .builtin .append, args := #[s, x], argTypes := #[27, 27] })
    (B g cap n : Nat) (xs : List Int) (hs : a.eval s = .slice (some ⟨g, 0, none⟩) n cap) (hn : xs.length = n) (hc : Cap w B g cap xs)
    (ad : Addr) (m c : Nat) (ys : List Int) (hx : a.eval x = .slice (some ad) m c) (hl : ys.length = m) (hnews : ∀ j u, (cs ys)[j]? = some u → w.cell? (ad.add j) = some u) (hroom : n + m ≤ cap)
    (h : ∀ w', Cap w' B g cap (xs ++ ys) → w.grownBy w' (some g) → wpList Tryz.prog ops Q rest (a.put o.dst (.slice (some ⟨g, 0, none⟩) (n + m) cap)) w') : wpList Tryz.prog ops Q (o :: rest) a w := by
  obtain ⟨i0, hi, hz0, hz1, hz2⟩ := info_parts info5
  subst hn; subst hl
  obtain ⟨cur, h1, h2, h3, h4⟩ := hc.setRow ys hroom
  have hr := run_append_room (P := Tryz.prog) w 27 o.type 5 i0 Tryz.underlying27 hi g xs.length cap cur h1 ad ys.length c (cs ys) (by rw [hz1, cs_len, Nat.mul_one]) hnews (cs_one ys) hroom (by rw [hz1]; exact h2)
  rw [hz1] at hr
  refine wpList_plain hgd fun K hK => ?_
  unfold Oper.wp
  simp only [execOp, ho, resolve, invoke, builtin, Sem.run_bind, Sem.run_pure, Result.andThen_ok, List.map_toArray, List.map_cons, List.map_nil, hs, hx, hr]
  exact hK _ _ (h _ h3 h4)
theorem wpList_room_none {ops : Array Oper} {rest : List Oper} {o : Oper} {a : Act} {w : World} {Q : Exit → Act → World → Prop} (hgd : o.guard = none) (s x : Operand)
    (ho : o.op = .call { callee := .builtin .append, args := #[s, x], argTypes := #[27, 27] })
    (B g cap n : Nat) (xs : List Int) (hs : a.eval s = .slice (some ⟨g, 0, none⟩) n cap) (hn : xs.length = n) (hc : Cap w B g cap xs) (hx : a.eval x = .slice none 0 0)
    (h : wpList Tryz.prog ops Q rest (a.put o.dst (.slice (some ⟨g, 0, none⟩) n cap)) w) : wpList Tryz.prog ops Q (o :: rest) a w := by
  obtain ⟨i0, hi, hz0, hz1, hz2⟩ := info_parts info5
  subst hn
  exact wpList_append_own_none hgd s x 27 ho B 5 i0 1 Tryz.underlying27 hi _ _ _ hs hc.own hx h
theorem zeroCells_u8 (m : Nat) : Builtin.zeroCells #[Value.int .u8 0] m = (cs (List.replicate m 0)).toArray := by
  apply Array.ext'
  unfold Builtin.zeroCells cs
  apply List.ext_getElem?
  intro j
  rw [Array.getElem?_toList, Array.getElem?_map, Array.getElem?_range]
  by_cases hj : j < m
  · rw [if_pos (by simpa using hj)]
    simp [hj, Nat.mod_one]
  · rw [if_neg (by simpa using hj)]
    simp [hj]
/-- append of a new row of zeros where there is room -/
theorem wpList_room_zeros {ops : Array Oper} {rest : List Oper} {o : Oper} {a : Act} {w : World} {Q : Exit → Act → World → Prop} (hgd : o.guard = none) (s x : Operand)
    (ho : o.op = .call { callee := .builtin .append, args := #[s, x], argTypes := #[27, 3] })
    (B g cap n : Nat) (xs : List Int) (hs : a.eval s = .slice (some ⟨g, 0, none⟩) n cap) (hn : xs.length = n) (hc : Cap w B g cap xs)
    (m : Nat) (hx : a.eval x = .int .i64 (m : Int)) (hm : m ≤ 1000) (hroom : n + m ≤ cap)
    (h : ∀ w', Cap w' B g cap (xs ++ List.replicate m 0) → w.grownBy w' (some g) → wpList Tryz.prog ops Q rest (a.put o.dst (.slice (some ⟨g, 0, none⟩) (n + m) cap)) w') : wpList Tryz.prog ops Q (o :: rest) a w := by
  obtain ⟨i0, hi, hz0, hz1, hz2⟩ := info_parts info5
  subst hn
  obtain ⟨cur, h1, h2, h3, h4⟩ := hc.setRow (List.replicate m 0) (by rw [List.length_replicate]; exact hroom)
  have hst := run_storeCells_at Tryz.prog g (xs.length * 1) 5 (cs (List.replicate m 0)) 0 cur w h1 (by simpa using h2) (cs_one _)
  simp only [Nat.add_zero, Nat.mul_one] at hst
  have hw : IntKind.i64.wrap (m : Int) = (m : Int) := by unfold IntKind.wrap; simp [IntKind.bits, IntKind.signed]; omega
  have hr : (Builtin.append_ #[27, 3] o.type #[.slice (some ⟨g, 0, none⟩) xs.length cap, .int .i64 (m : Int)]).run Tryz.prog w = .ok (.slice (some ⟨g, 0, none⟩) (xs.length + m) cap) (w.setRow g (cur.toList.take (xs.length * 1) ++ cs (List.replicate m 0) ++ cur.toList.drop (xs.length * 1 + (cs (List.replicate m 0)).length)).toArray) := by
    have hai : ∀ w : World, (asInt (.int .i64 (m : Int))).run Tryz.prog w = .ok (m : Int) w := fun _ => rfl
    have hbig : ¬ (281474976710656 : Int) < (m : Int) := by omega
    have hneg : ¬ (m : Int) < 0 := by omega
    have hcz : (Value.int .u8 0).cells = #[Value.int .u8 0] := rfl
    by_cases hm0 : m = 0
    · subst hm0
      have e0 : cs (List.replicate 0 0) = [] := rfl
      rw [e0] at hst ⊢
      have hai0 : ∀ w : World, (asInt (.int .i64 0)).run Tryz.prog w = .ok 0 w := fun _ => rfl
      have hw0 : IntKind.i64.wrap 0 = 0 := rfl
      have hroom0 : xs.length ≤ cap := hroom
      simp [Builtin.append_, run_underlying Tryz.underlying27, run_underlying Tryz.underlying3, sizeOf, typeInfo, hi, hz0, hz1, hz2, hai0, zeroValue, hw0, hroom0, Addr.add_lit, hst]
    · simp [Builtin.append_, run_underlying Tryz.underlying27, run_underlying Tryz.underlying3, sizeOf, typeInfo, hi, hz0, hz1, hz2, hai, zeroValue, hw, hbig, hneg, hroom, Addr.add_lit, hm0, hcz, zeroCells_u8, hst]
  refine wpList_plain hgd fun K hK => ?_
  unfold Oper.wp
  simp only [execOp, ho, resolve, invoke, builtin, Sem.run_bind, Sem.run_pure, Result.andThen_ok, List.map_toArray, List.map_cons, List.map_nil, hs, hx, hr]
  exact hK _ _ (h _ h3 h4)
theorem cells_new (w : World) (c : Array Value) (t : TypeId) : ∀ j u, c.toList[j]? = some u → (w.alloc (.cells c t)).cell? ((⟨w.heap.size, 0, none⟩ : Addr).add j) = some u := by
  intro j u hj
  have hadd : (⟨w.heap.size, 0, none⟩ : Addr).add j = ⟨w.heap.size, j, none⟩ := by unfold Addr.add; split <;> simp_all
  have h : (w.alloc (.cells c t)).heap[w.heap.size]? = some (.cells c t) := heap_alloc_new w _
  rw [hadd]
  simp only [World.cell?, h]
  simpa using hj
/-- a parameter in a new block of its own -/
theorem box_new (w : World) (t : Int) (a : Option Addr) (len cap : Nat) (ty : TypeId) : (w.alloc (.cells #[.int .u16 t, .slice a len cap] ty)).cell? ⟨w.heap.size, 0, none⟩ = some (.int .u16 t) ∧ (w.alloc (.cells #[.int .u16 t, .slice a len cap] ty)).cell? ⟨w.heap.size, 1, none⟩ = some (.slice a len cap) := by
  have h : (w.alloc (.cells #[.int .u16 t, .slice a len cap] ty)).heap[w.heap.size]? = some (.cells #[.int .u16 t, .slice a len cap] ty) := heap_alloc_new w _
  exact ⟨by simp only [World.cell?, h]; rfl, by simp only [World.cell?, h]; rfl⟩
theorem Row.news {base : Nat} {w : World} {ad : Addr} {len : Nat} {zs : List Int} (h : Row base w (some ad) len zs) : ∀ j u, (cs zs)[j]? = some u → w.cell? (ad.add j) = some u := by
  intro j u hj
  rcases h.2.2.2 with h0 | ⟨b, off, he, _, hc⟩
  · rw [List.eq_nil_of_length_eq_zero (h.1.trans h0)] at hj; cases hj
  · cases he
    have hadd : (⟨b, off, none⟩ : Addr).add j = ⟨b, off + j, none⟩ := by unfold Addr.add; split <;> simp_all
    have hjl : j < zs.length := by
      rcases Nat.lt_or_ge j zs.length with h' | h'
      · exact h'
      · rw [List.getElem?_eq_none (by rw [cs_len]; exact h')] at hj; cases hj
    rw [hadd, hc j (by rw [← h.1]; exact hjl), List.getD_eq_getElem?_getD, List.getElem?_eq_getElem hjl]
    simp [cs, List.getElem?_eq_getElem hjl] at hj
    subst hj
    rfl

theorem appendP (w0 w : World) (base g cap n : Nat) (xs : List Int) (t : Int) (a : Option Addr) (len pcap : Nat) (zs : List Int) (ho : One base w0 (t, a, len, pcap, zs)) (hb : Below w0.heap.size w0 w) (hc : Cap w w0.heap.size g cap xs) (hn : xs.length = n)
    (hlen : len ≤ 65531) (hroom : n + (len + 4) ≤ cap) :
    Calls Tryz.prog 111 #[.slice (some ⟨g, 0, none⟩) n cap, .agg #[.int .u16 t, .slice a len pcap]] w fun e w' =>
      e = .returned (.slice (some ⟨g, 0, none⟩) (n + (len + 4)) cap) ∧ Cap w' w0.heap.size g cap (xs ++ head (t, zs) ++ zs) ∧ Below w0.heap.size w0 w' := by
  obtain ⟨hzl, hzb, hlim, ht⟩ := ho.len
  have h5 := hc
  obtain ⟨_, _, hg0, _, _, hcl, _⟩ := h5
  have HB := hidden hb
  have HC := hidden hc
  have hbs := hb.size
  have hd : (t / 256) % 256 = t / 256 := by omega
  clear hb hc
  go_enter Tryz.func111, Tryz.ntmps111
  go_wp2_with fail
  refine (length_ t a len pcap hlim _).mono ?_
  rintro e w1 ⟨rfl, b1⟩
  have hcw := HC.out.later ((Below.refl _ w).alloc (Nat.le_refl _) (.cells #[.int .u16 t, .slice a len pcap] 114))
  have HC1 := hidden (hcw.later b1)
  obtain ⟨bx0, bx1⟩ := box_new w t a len pcap 114
  have c0 := (b1.cell (cell_lt bx0)).trans bx0
  have c1 := (b1.cell (cell_lt bx1)).trans bx1
  have HB1 := hidden ((HB.out.alloc hbs (.cells #[.int .u16 t, .slice a len pcap] 114)).trans (b1.mono (by simp; omega)))
  have hs1 := HB1.out.size
  have hw1 := b1.size
  have hgw : g < w.heap.size := by obtain ⟨cur, h1, _⟩ := HC.out; exact (Array.getElem?_eq_some_iff.1 h1).1
  simp only [World.size_alloc] at hw1
  clear b1 bx0 bx1 hcw HC HB
  have HE := hidden (show head (t, zs) = [t / 256, t % 256, ((len : Int) + 4) / 256, ((len : Int) + 4) % 256] by
    unfold head
    simp only [hzl]
    rw [show ((len + 4 : Nat) : Int) = (len : Int) + 4 by omega, show ((len : Int) + 4) / 256 % 256 = ((len : Int) + 4) / 256 by omega])
  go_wp2_with (at_builtin; refine wpList_room rfl _ _ rfl w0.heap.size g cap n xs rfl hn ?c0 ⟨w1.heap.size, 0, none⟩ 4 4 (head (t, zs)) rfl rfl ?c1 ?c2 ?_)
  case c0 => exact HC1.out.later ((Below.refl _ _).alloc (Nat.le_refl _) _)
  case c1 => rw [HE.out]; exact cells_new w1 _ 5
  case c2 => omega
  intro w2 hc2 hg2
  have HC2 := hidden hc2
  have HB2 := hidden ((HB1.out.alloc hs1 (Obj.cells #[Value.int IntKind.u8 (t / 256), Value.int IntKind.u8 (t % 256), Value.int IntKind.u8 (((len : Int) + 4) / 256), Value.int IntKind.u8 (((len : Int) + 4) % 256)] 5)).grown hg2 (by simp; omega) (fun k hk => by cases hk; exact hg0))
  have d1 : w2.cell? ⟨w.heap.size, 1, none⟩ = some (.slice a len pcap) := hg2.cell (a := ⟨w.heap.size, 1, none⟩) ((World.cell?_alloc_lt w1 _ _ (by show w.heap.size < _; omega)).trans c1) (by simp; omega)
  have HO := hidden (ho.later HB2.out)
  clear hc2 hg2 c0 c1 ho
  rcases a with _ | ad
  · obtain ⟨h0, h1⟩ := HO.out.2.2.2.2 rfl
    simp only at h0 h1
    subst h0; subst h1
    obtain rfl := List.eq_nil_of_length_eq_zero hzl
    go_wp2_with (at_builtin; refine wpList_room_none rfl _ _ rfl w0.heap.size g cap (n + 4) (xs ++ head (t, [])) rfl ?e0 HC2.out rfl ?_)
    case e0 => rw [List.length_append, hn]; rfl
    go_wp2
    go_ret
    exact ⟨rfl, by rw [List.append_nil]; exact HC2.out, HB2.out⟩
  · go_wp2_with (at_builtin; refine wpList_room rfl _ _ rfl w0.heap.size g cap (n + 4) (xs ++ head (t, zs)) rfl ?f0 HC2.out ad len pcap zs rfl hzl ?f1 ?f2 ?_)
    case f0 => rw [List.length_append, hn]; rfl
    case f1 => exact HO.out.2.1.news
    case f2 => omega
    intro w3 hc3 hg3
    have B3 := HB2.out.grown hg3 HB2.out.size (fun k hk => by cases hk; exact hg0)
    clear hg3
    have HC3 := hidden hc3
    clear hc3
    go_wp2
    go_ret
    exact ⟨by simp only [Nat.add_assoc, Nat.add_comm 4]; rfl, by rw [List.append_assoc]; exact HC3.out, B3⟩

theorem enc_grows (l : List (Int × List Int)) : ∀ b : List Int, b.length ≤ (l.foldl put b).length := by
  induction l with
  | nil => intro b; exact Nat.le_refl _
  | cons x l ih =>
    intro b
    have h1 := ih (put b x)
    have h2 := put_len b x
    have h3 := fill4_le b.length
    simp only [List.foldl_cons]
    omega
theorem enc_take_mono (ps : List Prm) (k : Nat) : (enc ((ps.take k).map val)).length ≤ (enc (ps.map val)).length := by
  have e : enc (ps.map val) = ((ps.drop k).map val).foldl put (enc ((ps.take k).map val)) := by
    unfold enc
    rw [← List.foldl_append, ← List.map_append, List.take_append_drop]
  rw [e]
  exact enc_grows _ _
/-- a new row without bytes, with no name for the new world -/
theorem make_any (B c : Nat) (hc : c ≤ 1000000000) : ∃ mk : World → World, (∀ w : World, (Instr.makeSlice 27 (.int .i64 0) (.int .i64 (c : Int))).run Tryz.prog w = .ok (.slice (some ⟨w.heap.size, 0, none⟩) 0 c) (mk w)) ∧
    (∀ w : World, B ≤ w.heap.size → Cap (mk w) B w.heap.size c []) ∧ ∀ w : World, Below w.heap.size w (mk w) := by
  obtain ⟨i0, hi, hz0, hz1, hz2⟩ := info_parts info5
  refine ⟨fun w => w.alloc (.cells (madeCells (Value.int .u8 0).cells (c * 1)) 5), fun w => ?_, fun w hB => ?_, fun w => (Below.refl _ w).alloc (Nat.le_refl _) _⟩
  · have hr := run_make (P := Tryz.prog) w 27 5 i0 (.int .u8 0) Tryz.underlying27 hi hz0 .i64 .i64 0 c (Int.le_refl _) (by omega) (by rw [hz2]; omega) (by omega)
    rw [hz1] at hr
    simpa using hr
  · refine ⟨_, heap_alloc_new w _, hB, by rw [size_madeCells, Nat.mul_one], Nat.zero_le _, by omega, by simp [cs]⟩

set_option maxRecDepth 20000 in
theorem encode (base : Nat) (w : World) (pa : Option Addr) (n pcap : Nat) (ps : List Prm) (hp : Prms base w pa n ps) :
    Calls Tryz.prog 96 #[.slice pa n pcap] w fun e w' => ∃ v c, e = .returned (.tuple #[v, .int .i64 c]) ∧ code ps c ∧ (c ≠ 0 → v = .slice none 0 0) ∧
      (c = 0 → ∃ g cap, v = .slice (some ⟨g, 0, none⟩) (enc (ps.map val)).length cap ∧ Cap w' w.heap.size g cap (enc (ps.map val))) ∧ Below w.heap.size w w' := by
  have R := hidden (refusal base w pa n pcap ps hp)
  have HP := hidden hp
  have hnl := hp.2.1
  clear hp
  go_enter Tryz.func96, Tryz.ntmps96
  go_wp2_with fail
  refine Calls.mono R.out ?_
  rintro e w1 ⟨c, rfl, hc, b1⟩
  have HCD := hidden hc
  clear hc R
  by_cases h0 : c = 0
  · subst h0
    have hL : ¬ Long ps ∧ ps.length ≤ 256 := by
      rcases HCD.out with ⟨_, h⟩ | ⟨_, _, h⟩ | ⟨h1, h2, _⟩
      · omega
      · omega
      · exact ⟨h2, h1⟩
    have hn : n ≤ 256 := by rw [← HP.out.1]; exact hL.2
    have T := hidden (total base w1 pa n pcap ps (HP.out.later b1) hL.1 hn)
    have hTl := enc_take_le hL.1 hL.2 HP.out.2.2.1 n
    rw [List.take_of_length_le (by rw [HP.out.1]; omega)] at hTl
    have HM := hidden (enc_take_mono ps)
    have HL := hidden hL
    have HB1 := hidden b1
    clear b1 hL
    generalize hT : (enc (ps.map val)).length = TT at T hTl HM ⊢
    have HT := hidden hT
    clear hT
    go_wp2_with fail
    refine Calls.mono T.out ?_
    rintro e w2 ⟨rfl, b2⟩
    have HB2 := hidden (HB1.out.trans (b2.mono HB1.out.size))
    obtain ⟨mk, hmk, hmc, hmb⟩ := make_any w.heap.size TT (by omega)
    have hmc := hidden (hmc w2 HB2.out.size)
    have hmb := hidden (HB2.out.trans ((hmb w2).mono HB2.out.size))
    have hg0 := HB2.out.size
    clear T b2 HB1
    go_wp2_with fail
    generalize mk w2 = W1 at *
    generalize w2.heap.size = g at *
    clear hmk
    go_loopw [5, 18] (fun v i wr => ∃ k : Nat, k ≤ n ∧ i = .int .i64 k ∧ v = .slice (some ⟨g, 0, none⟩) (enc ((ps.take k).map val)).length TT ∧ Cap wr w.heap.size g TT (enc ((ps.take k).map val)) ∧ Below w.heap.size w wr) (fun _ i _ => n - (intOf i).toNat)
    case atStart => exact ⟨0, Nat.zero_le _, rfl, rfl, hmc.out, hmb.out⟩
    case round =>
      obtain ⟨k, hk, rfl, rfl, hcap, hbl⟩ := hrel
      rcases Nat.lt_or_ge k n with hlt | hge
      · obtain ⟨b, off, t, a, len, cap, zs, rfl, hpk, hc1, hc2, hone⟩ := (HP.out.later hbl).get hlt
        have hone0 := HP.out.2.2.1 _ (List.mem_of_getElem? hpk)
        obtain ⟨hzl, _, hlim, _⟩ := hone.len
        have hs := enc_snoc ps k _ hpk
        have hlen := put_len (enc ((ps.take k).map val)) (t, zs)
        have hk1 := HM.out (k + 1)
        have HPK := hidden hpk
        have hshort : len ≤ 65531 := by
          rcases Nat.lt_or_ge 65531 len with h | h
          · exact absurd ⟨_, List.mem_of_getElem? hpk, h⟩ HL.out.1
          · exact h
        have hroom : fill4 (enc ((ps.take k).map val)).length + (len + 4) ≤ TT := by rw [hs] at hk1; rw [← hzl]; show fill4 _ + (((t, zs) : Int × List Int).2.length + 4) ≤ TT; rw [← hlen]; exact hk1
        have hput : put (enc ((ps.take k).map val)) (t, zs) = enc ((ps.take k).map val) ++ List.replicate (fill4 (enc ((ps.take k).map val)).length - (enc ((ps.take k).map val)).length) 0 ++ head (t, zs) ++ zs := rfl
        have HS := hidden (hs.trans hput)
        have h2 := fill4_le (enc ((ps.take k).map val)).length
        have HC := hidden hcap
        have HB := hidden hbl
        have hbs := hbl.size
        have hgr : g < wr.heap.size := by obtain ⟨cur, h1, _⟩ := hcap; exact (Array.getElem?_eq_some_iff.1 h1).1
        have HO := hidden hone0
        have HM2 := HM.out k
        clear hs hlen hk1 hpk hcap hbl hput hone hone0
        generalize hX : enc ((ps.take k).map val) = X at *
        have HX := hidden hX
        clear hX
        generalize hm : X.length = m at *
        have Hm := hidden hm
        clear hm
        have HF := fun w => hidden (filled m (by omega) w)
        generalize fill4 m = f at *
        obtain ⟨d, hd⟩ : ∃ d : Nat, f = m + d := ⟨f - m, by omega⟩
        subst hd
        rw [Nat.add_sub_cancel_left] at HS
        go_wp2_with fail
        refine Calls.mono (HF _).out ?_
        rintro e w3 ⟨rfl, rfl⟩
        have hdd : ((m + d : Nat) : Int) - (m : Int) = (d : Int) := by omega
        go_wp2_with (at_builtin; refine wpList_room_zeros rfl _ _ rfl w.heap.size g TT m X rfl Hm.out ?c0 d ?c1 ?c2 ?c3 ?_)
        case c0 => exact HC.out.later ((Below.refl _ _).alloc (Nat.le_refl _) _)
        case c1 =>
          show Value.int IntKind.i64 ((m : Int) + d - m) = _
          rw [show (m : Int) + d - m = d by omega]
        case c2 => omega
        case c3 => omega
        intro w4 hc4 hg4
        have B3 : Below w.heap.size w w4 := (HB.out.alloc hbs _).grown hg4 (by simp; omega) (fun k hk => by cases hk; exact hg0)
        obtain ⟨bx0, bx1⟩ := box_new wr t a len cap 114
        have c0 := hg4.cell bx0 (by simp; omega)
        have c1 := hg4.cell bx1 (by simp; omega)
        have AP := hidden (appendP w w4 base g TT (m + d) (X ++ List.replicate d 0) t a len cap zs HO.out B3 hc4 (by rw [List.length_append, List.length_replicate, Hm.out]) hshort hroom)
        have HSL := hidden (show (enc ((ps.take (k + 1)).map val)).length = m + d + (len + 4) by rw [HS.out, List.length_append, List.length_append, List.length_append, List.length_replicate, Hm.out, hzl]; show m + d + 4 + len = _; omega)
        clear hc4 hg4 B3 bx0 bx1 HC HB HM2 HO
        go_wp2_with fail
        refine Calls.mono AP.out ?_
        rintro e w5 ⟨rfl, hc5, b5⟩
        have HC5 := hidden hc5
        clear hc5 AP
        go_wp2
        go_roundw
        case rel => exact ⟨k + 1, by omega, by go_num, by rw [HSL.out], by rw [HS.out]; exact HC5.out, b5⟩
        case measure => simp [intOf]; omega
      · obtain rfl : k = n := by omega
        rw [List.take_of_length_le (by rw [HP.out.1]; omega)] at hcap
        have hcap' := hidden hcap
        have e : (enc ((ps.take k).map val)).length = TT := by rw [List.take_of_length_le (by rw [HP.out.1]; omega)]; exact HT.out
        rw [e]
        clear hcap e
        go_wp2
        go_ret2
        exact ⟨_, _, rfl, HCD.out, (fun h => absurd rfl h), (fun _ => ⟨g, TT, by rw [HT.out]; rfl, hcap'.out⟩), hbl⟩
  · go_wp2
    go_ret2
    exact ⟨_, _, rfl, HCD.out, (fun _ => rfl), (fun h => absurd h h0), b1⟩

theorem size_ (base : Nat) (w : World) (pa : Option Addr) (n pcap : Nat) (ps : List Prm) (hp : Prms base w pa n ps) :
    Calls Tryz.prog 95 #[.slice pa n pcap] w fun e w' => ∃ c s, code ps c ∧ (c ≠ 0 → s = 0) ∧ (c = 0 → s = ((enc (ps.map val)).length : Int)) ∧ e = .returned (.int .i64 s) ∧ Below w.heap.size w w' := by
  have R := hidden (refusal base w pa n pcap ps hp)
  have HP := hidden hp
  clear hp
  go_enter Tryz.func95, Tryz.ntmps95
  go_wp2_with fail
  refine Calls.mono R.out ?_
  rintro e w1 ⟨c, rfl, hc, b1⟩
  have HCD := hidden hc
  clear hc R
  by_cases h0 : c = 0
  · subst h0
    have hL : ¬ Long ps ∧ ps.length ≤ 256 := by
      rcases HCD.out with ⟨_, h⟩ | ⟨_, _, h⟩ | ⟨h1, h2, _⟩
      · omega
      · omega
      · exact ⟨h2, h1⟩
    have hn : n ≤ 256 := by rw [← HP.out.1]; exact hL.2
    have T := hidden (total base w1 pa n pcap ps (HP.out.later b1) hL.1 hn)
    have HB1 := hidden b1
    clear b1 hL
    go_wp2_with fail
    refine Calls.mono T.out ?_
    rintro e w2 ⟨rfl, b2⟩
    go_wp2
    go_ret
    exact ⟨_, _, HCD.out, (fun h => absurd rfl h), (fun _ => rfl), rfl, HB1.out.trans (b2.mono HB1.out.size)⟩
  · go_wp2
    go_ret
    exact ⟨_, _, HCD.out, (fun _ => rfl), (fun h => absurd h h0), rfl, b1⟩
end Go.Proofs.YtmnndkhdekpecaaGreatDoor.Par
namespace Go.Proofs.YtmnndkhdekpecaaGreatDoor.Par
open Go.ChangeShapes Go.WideShapes Go.ChangeAt Go.RowKit
set_option linter.unusedVariables false

/-- bytes as a text -/
theorem conv_row (base : Nat) (w : World) (a : Option Addr) (len cap : Nat) (zs : List Int) (h : Row base w a len zs) :
    (convert 27 9 (.slice a len cap)).run Tryz.prog w = .ok (.string (strOfNums zs)) w := by
  rcases Nat.eq_zero_or_pos len with rfl | hp
  · obtain rfl := List.eq_nil_of_length_eq_zero h.1
    cases a with
    | none => exact run_convert_bytes_nil w 27 5 Tryz.underlying27 Tryz.underlying5 0 cap 9 Tryz.underlying9
    | some x =>
      rw [run_convert_bytes_string w 27 9 5 _ 0 cap Tryz.underlying27 Tryz.underlying5 Tryz.underlying9]
      exact run_bytesToString w x 0 cap [] (run_loadCells_list w x [] (fun j v hj => by cases hj))
  · obtain ⟨b, off, rfl, _, hc⟩ := h.2.2.2.resolve_left (by omega)
    exact run_convert_bytes_arg w 27 5 Tryz.underlying27 Tryz.underlying5 b off len cap zs h.1 hc 9 Tryz.underlying9
theorem str_inj (xs ys : List Int) (hx : Bytes xs) (hy : Bytes ys) (h : strOfNums xs = strOfNums ys) : xs = ys := by
  have e : xs.map (fun n => UInt8.ofNat n.toNat) = ys.map (fun n => UInt8.ofNat n.toNat) := by
    rw [← strOfNums_data, ← strOfNums_data, h]
  clear h
  induction xs generalizing ys with
  | nil => cases ys with
    | nil => rfl
    | cons y ys => simp at e
  | cons x xs ih => cases ys with
    | nil => simp at e
    | cons y ys =>
      simp only [List.map_cons, List.cons.injEq] at e
      have h1 := hx x (by simp)
      have h2 := hy y (by simp)
      have h3 := congrArg UInt8.toNat e.1
      simp only [UInt8.toNat_ofNat'] at h3
      rw [ih ys (fun n hn => hx n (by simp [hn])) (fun n hn => hy n (by simp [hn])) e.2, show x = y by omega]
theorem str_eq (xs ys : List Int) (hx : Bytes xs) (hy : Bytes ys) : strOfNums xs = strOfNums ys ↔ xs = ys := ⟨str_inj xs ys hx hy, fun h => by rw [h]⟩
/-- a row of the call's own can be read -/
theorem row_own {w : World} {base n : Nat} {v : Value} {zs : List Int} (h : w.ownsRow base 5 1 v n (cs zs)) (hb : Bytes zs) (hn : n ≤ 140737488355328) :
    ∃ a cap, v = .slice a n cap ∧ Row base w a n zs ∧ n ≤ cap ∧ cap ≤ maxLen ∧ (a = none → n = 0 ∧ cap = 0) := by
  obtain ⟨hl, h⟩ := h
  rw [cs_len, Nat.mul_one] at hl
  rcases h with ⟨rfl, rfl⟩ | ⟨g, cap, cur, rfl, hg, hh, hcap, hcm, hsz, htake⟩
  · exact ⟨none, 0, rfl, ⟨hl, hb, hn, .inl rfl⟩, Nat.le_refl _, Nat.zero_le _, (fun _ => ⟨rfl, rfl⟩)⟩
  · refine ⟨_, cap, rfl, ⟨hl, hb, hn, .inr ⟨g, 0, rfl, hg, fun j hj => ?_⟩⟩, hcap, hcm, (fun h => by cases h)⟩
    rw [Nat.mul_one] at htake
    have e := congrArg (fun t => t[j]?) htake
    simp only [List.getElem?_take, if_pos hj, cs, List.getElem?_map, List.getElem?_eq_getElem (show j < zs.length by omega)] at e
    simp only [World.cell?, hh, Nat.zero_add]
    rw [List.getD_eq_getElem?_getD, List.getElem?_eq_getElem (show j < zs.length by omega)]
    simpa using e
theorem Cap.row {w : World} {B g cap : Nat} {xs : List Int} (h : Cap w B g cap xs) (hb : Bytes xs) : Row B w (some ⟨g, 0, none⟩) xs.length xs := by
  have hl : xs.length ≤ 140737488355328 := by obtain ⟨_, _, _, _, h1, h2, _⟩ := h; omega
  obtain ⟨a, cap', e, hr, _⟩ := row_own h.own hb hl
  cases e
  exact hr
theorem vals_bytes {base : Nat} {w : World} {ps : List Prm} (h : ∀ p ∈ ps, One base w p) : ∀ x ∈ ps.map val, (0 ≤ x.1 ∧ x.1 < 65536) ∧ Bytes x.2 := by
  intro x hx
  obtain ⟨p, hp, rfl⟩ := List.mem_map.1 hx
  exact ⟨(h p hp).1, (h p hp).2.1.2.1⟩

/-- the two parameters of the law's own -/
def two (b : Nat) : List Prm := [(7, some ⟨b, 0, none⟩, 3, 3, [1, 2, 3]), (1, none, 0, 0, [])]
theorem two_enc (b : Nat) : enc ((two b).map val) = [0, 7, 0, 7, 1, 2, 3, 0, 0, 1, 0, 4] := by
  show enc [(7, [1, 2, 3]), (1, [])] = _
  decide
theorem two_code (b : Nat) (c : Int) (h : code (two b) c) : c = 0 := by
  rcases h with ⟨h, _⟩ | ⟨_, ⟨p, hp, hl⟩, _⟩ | ⟨_, _, h⟩
  · simp [two] at h
  · simp only [two, List.mem_cons, List.not_mem_nil, or_false] at hp
    rcases hp with rfl | rfl <;> simp at hl
  · exact h
theorem two_str : strOfNums [0, 7, 0, 7, 1, 2, 3, 0, 0, 1, 0, 4] = ⟨#[0, 7, 0, 7, 1, 2, 3, 0, 0, 1, 0, 4]⟩ := by decide
theorem two_prms (w : World) : Prms 0 ((w.alloc (.cells #[.int .u8 1, .int .u8 2, .int .u8 3] 5)).alloc (.cells #[.int .u16 7, .slice (some ⟨w.heap.size, 0, none⟩) 3 3, .int .u16 1, .slice none 0 0] 114)) (some ⟨w.heap.size + 1, 0, none⟩) 2 (two w.heap.size) := by
  have h1 : ((w.alloc (.cells #[.int .u8 1, .int .u8 2, .int .u8 3] 5)).alloc (.cells #[.int .u16 7, .slice (some ⟨w.heap.size, 0, none⟩) 3 3, .int .u16 1, .slice none 0 0] 114)).heap[w.heap.size]? = some (.cells #[.int .u8 1, .int .u8 2, .int .u8 3] 5) := by
    rw [heap_alloc_old _ _ (by simp)]; exact heap_alloc_new w _
  have h2 : ((w.alloc (.cells #[.int .u8 1, .int .u8 2, .int .u8 3] 5)).alloc (.cells #[.int .u16 7, .slice (some ⟨w.heap.size, 0, none⟩) 3 3, .int .u16 1, .slice none 0 0] 114)).heap[w.heap.size + 1]? = some (.cells #[.int .u16 7, .slice (some ⟨w.heap.size, 0, none⟩) 3 3, .int .u16 1, .slice none 0 0] 114) := by
    have := heap_alloc_new (w.alloc (.cells #[.int .u8 1, .int .u8 2, .int .u8 3] 5)) (.cells #[.int .u16 7, .slice (some ⟨w.heap.size, 0, none⟩) 3 3, .int .u16 1, .slice none 0 0] 114)
    rwa [World.size_alloc] at this
  refine ⟨rfl, by decide, ?_, .inr ⟨_, _, rfl, Nat.zero_le _, ?_⟩⟩
  · intro p hp
    simp only [two, List.mem_cons, List.not_mem_nil, or_false] at hp
    rcases hp with rfl | rfl
    · refine ⟨⟨by simp, by simp⟩, ⟨rfl, show ∀ n ∈ ([1, 2, 3] : List Int), 0 ≤ n ∧ n < 256 by decide, by simp, .inr ⟨_, _, rfl, Nat.zero_le _, fun j hj => ?_⟩⟩, by simp, by simp [maxLen], (fun h => by cases h)⟩
      simp only [World.cell?, h1]
      match j, hj with
      | 0, _ => rfl
      | 1, _ => rfl
      | 2, _ => rfl
    · exact ⟨⟨by decide, by decide⟩, ⟨rfl, (fun n hn => by cases hn), by decide, .inl rfl⟩, by decide, by simp [maxLen], (fun _ => ⟨rfl, rfl⟩)⟩
  · intro j p hj
    match j, hj with
    | 0, hj => cases hj; simp only [World.cell?, h2]; exact ⟨rfl, rfl⟩
    | 1, hj => cases hj; simp only [World.cell?, h2]; exact ⟨rfl, rfl⟩

end Go.Proofs.YtmnndkhdekpecaaGreatDoor.Par
namespace Go.Proofs.YtmnndkhdekpecaaGreatDoor.Par
open Go.ChangeShapes Go.WideShapes Go.ChangeAt Go.RowKit
set_option linter.unusedVariables false

theorem vals_step {ps qs : List Prm} {k : Nat} {p q : Prm} (hp : ps[k]? = some p) (hq : qs[k]? = some q) (h : (ps.take k).map val = (qs.take k).map val) (e : val p = val q) : (ps.take (k + 1)).map val = (qs.take (k + 1)).map val := by
  rw [List.take_add_one, List.take_add_one, hp, hq, List.map_append, List.map_append, h]
  simp [e]
theorem vals_at {ps qs : List Prm} {k : Nat} {p q : Prm} (hp : ps[k]? = some p) (hq : qs[k]? = some q) (h : ps.map val = qs.map val) : val p = val q := by
  have e := congrArg (fun l => l[k]?) h
  simp only [List.getElem?_map, hp, hq, Option.map_some, Option.some.injEq] at e
  exact e
theorem Row.drewN {base : Nat} {w : World} {a : Option Addr} {len : Nat} {zs : List Int} (h : Row base w a len zs) (n : Nat) : Row base (w.drewN n) a len zs := h
theorem val_eq {t t' : Int} {a a' : Option Addr} {l l' c c' : Nat} {zs zs' : List Int} : val (t, a, l, c, zs) = val (t', a', l', c', zs') ↔ t = t' ∧ zs = zs' := by
  show (t, zs) = (t', zs') ↔ _
  rw [Prod.mk.injEq]

theorem below_drewN {n : Nat} {w0 w : World} (h : Below n w0 w) (k : Nat) : Below n w0 (w.drewN k) := ⟨h.os, h.tape, h.output, h.size, h.block⟩
theorem str_beq (xs ys : List Int) (hx : Bytes xs) (hy : Bytes ys) : ∃ t : Bool, ((strOfNums xs).toList == (strOfNums ys).toList) = t ∧ (t = true ↔ xs = ys) := by
  refine ⟨_, rfl, ?_⟩
  rw [beq_iff_eq, ByteArray.toList_eq, ByteArray.toList_eq, strOfNums_data, strOfNums_data]
  constructor
  · intro h
    refine str_inj xs ys hx hy ?_
    have e : (strOfNums xs).data.toList = (strOfNums ys).data.toList := by rw [strOfNums_data, strOfNums_data]; exact h
    have e2 : (strOfNums xs).data = (strOfNums ys).data := by rw [← Array.toList_inj]; exact e
    cases hX : strOfNums xs with
    | mk d => cases hY : strOfNums ys with
      | mk d' => rw [hX, hY] at e2; simp at e2; rw [e2]
  · intro h; rw [h]

theorem rSame (base base' : Nat) (w : World) (pa qa : Option Addr) (n m pcap qcap : Nat) (ps qs : List Prm) (hp : Prms base w pa n ps) (hq : Prms base' w qa m qs) :
    Calls Tryz.prog 79 #[.slice pa n pcap, .slice qa m qcap] w fun e w' => ∃ t : Bool, e = .returned (.bool t) ∧ (t = true ↔ ps.map val = qs.map val) ∧ Below w.heap.size w w' := by
  have HP := hidden hp
  have HQ := hidden hq
  have hpl := hp.1
  have hql := hq.1
  have hnl := hp.2.1
  have hml := hq.2.1
  clear hp hq
  by_cases hm : n = m
  · subst hm
    go_enter Tryz.func79, Tryz.ntmps79
    go_wp2_with fail
    go_loopw [5] (fun i wr => ∃ k : Nat, k ≤ n ∧ i = .int .i64 k ∧ (ps.take k).map val = (qs.take k).map val ∧ Below w.heap.size w wr) (fun i _ => n - (intOf i).toNat)
    case atStart => exact ⟨0, Nat.zero_le _, rfl, rfl, Below.refl _ _⟩
    case round =>
      obtain ⟨k, hk, rfl, hsame, hbl⟩ := hrel
      rcases Nat.lt_or_ge k n with hlt | hge
      · obtain ⟨b, off, t, a, len, cap, zs, rfl, hpk, hc1, hc2, hone⟩ := (HP.out.later hbl).get hlt
        obtain ⟨b', off', t', a', len', cap', zs', rfl, hqk, hd1, hd2, hone'⟩ := (HQ.out.later hbl).get hlt
        have HPK := hidden hpk
        have HQK := hidden hqk
        have HSA := hidden hsame
        have HB := hidden hbl
        have HB1 := hidden hone.2.1.2.1
        have HB2 := hidden hone'.2.1.2.1
        have hcv : ∀ j, (convert 27 9 (.slice a len cap)).run Tryz.prog (wr.drewN j) = .ok (.string (strOfNums zs)) (wr.drewN j) := fun j => conv_row _ _ _ _ _ _ (hone.2.1.drewN j)
        have hcv' : ∀ j, (convert 27 9 (.slice a' len' cap')).run Tryz.prog (wr.drewN j) = .ok (.string (strOfNums zs')) (wr.drewN j) := fun j => conv_row _ _ _ _ _ _ (hone'.2.1.drewN j)
        clear hpk hqk hsame hbl hone hone'
        by_cases ht : t = t'
        · subst ht
          obtain ⟨tt, ht1, ht2⟩ := str_beq zs zs' HB1.out HB2.out
          have HT1 := hidden ht1
          have HT2 := hidden ht2
          clear ht1 ht2
          go_wp2
          go_quiet (fail)
          rw [HT1.out]
          have B2 : Below w.heap.size w (wr.drewN nq) := below_drewN HB.out nq
          cases tt with
          | true =>
            go_wp2
            go_roundw
            case rel => exact ⟨k + 1, by omega, by go_num, vals_step HPK.out HQK.out HSA.out (val_eq.2 ⟨rfl, HT2.out.1 (by simp)⟩), B2⟩
            case measure => simp [intOf]; omega
          | false =>
            go_wp2
            go_ret
            exact ⟨false, rfl, ⟨fun h => (by cases h), fun h => (by simpa using HT2.out.2 (val_eq.1 (vals_at HPK.out HQK.out h)).2)⟩, B2⟩
        · have htb : (t != t') = true := by simpa using ht
          go_wp2
          go_quiet (fail)
          have B2 : Below w.heap.size w (wr.drewN nq) := below_drewN HB.out nq
          go_wp2
          go_ret
          exact ⟨false, rfl, ⟨fun h => (by cases h), fun h => absurd (val_eq.1 (vals_at HPK.out HQK.out h)).1 ht⟩, B2⟩
      · obtain rfl : n = k := by omega
        rw [List.take_of_length_le (by omega), List.take_of_length_le (by omega)] at hsame
        have HSA := hidden hsame
        clear hsame
        go_wp2
        go_ret
        exact ⟨true, rfl, ⟨fun _ => HSA.out, fun _ => rfl⟩, hbl⟩
  · have hne : ¬ (n : Int) = (m : Int) := by omega
    go_enter Tryz.func79, Tryz.ntmps79
    go_wp2
    go_ret
    refine ⟨false, rfl, ⟨fun h => (by cases h), fun h => ?_⟩, Below.refl _ _⟩
    have := congrArg List.length h
    simp only [List.length_map] at this
    omega
end Go.Proofs.YtmnndkhdekpecaaGreatDoor.Par
namespace Go.Proofs.YtmnndkhdekpecaaGreatDoor.Par
open Go.ChangeShapes Go.WideShapes Go.ChangeAt Go.RowKit
set_option linter.unusedVariables false

theorem equal (base base' : Nat) (w : World) (a a' : Option Addr) (len cap len' cap' : Nat) (zs zs' : List Int) (h : Row base w a len zs) (h' : Row base' w a' len' zs') :
    Calls Tryz.prog 67 #[.slice a len cap, .slice a' len' cap'] w fun e w' => ∃ t : Bool, e = .returned (.bool t) ∧ (t = true ↔ zs = zs') ∧ w = w' := by
  obtain ⟨tt, ht1, ht2⟩ := str_beq zs zs' h.2.1 h'.2.1
  have hcv := conv_row _ w a len cap zs h
  have hcv' := conv_row _ w a' len' cap' zs' h'
  have HT2 := hidden ht2
  clear ht2
  go_enter Tryz.func67, Tryz.ntmps67
  go_wp2
  go_ret
  exact ⟨tt, rfl, HT2.out, rfl⟩
theorem same1 (base base' : Nat) (w : World) (p q : Prm) (h : One base w p) (h' : One base' w q) :
    Calls Tryz.prog 93 #[pv p, pv q] w fun e w' => ∃ t : Bool, e = .returned (.bool t) ∧ (t = true ↔ val p = val q) ∧ Below w.heap.size w w' := by
  obtain ⟨t, a, len, cap, zs⟩ := p
  obtain ⟨t', a', len', cap', zs'⟩ := q
  have HR := hidden h.2.1
  have HR' := hidden h'.2.1
  have hb : Below w.heap.size w ((w.alloc (.cells #[.int .u16 t, .slice a len cap] 114)).alloc (.cells #[.int .u16 t', .slice a' len' cap'] 114)) := ((Below.refl _ w).alloc (Nat.le_refl _) _).alloc (by simp) _
  have HB := hidden hb
  have EQ := hidden (equal base base' _ a a' len cap len' cap' zs zs' (HR.out.later hb) (HR'.out.later hb))
  clear hb h h'
  unfold pv
  by_cases ht : t = t'
  · subst ht
    go_enter Tryz.func93, Tryz.ntmps93
    go_wp2_with fail
    refine Calls.mono EQ.out ?_
    rintro e w' ⟨tt, rfl, h1, rfl⟩
    have H1 := hidden h1
    clear h1
    go_wp2
    go_ret
    exact ⟨tt, rfl, by rw [H1.out, val_eq]; simp, HB.out⟩
  · have htb : (t == t') = false := by simpa using ht
    go_enter Tryz.func93, Tryz.ntmps93
    go_wp2
    go_ret
    exact .inl ⟨rfl, fun h => ht (val_eq.1 h).1, HB.out⟩

theorem equalFunc (base base' : Nat) (w : World) (pa qa : Option Addr) (n m pcap qcap : Nat) (ps qs : List Prm) (hp : Prms base w pa n ps) (hq : Prms base' w qa m qs) :
    Calls Tryz.prog 92 #[.slice pa n pcap, .slice qa m qcap, .func (.func 93) #[] #[]] w fun e w' => ∃ t : Bool, e = .returned (.bool t) ∧ (t = true ↔ ps.map val = qs.map val) ∧ Below w.heap.size w w' := by
  have HP := hidden hp
  have HQ := hidden hq
  have hpl := hp.1
  have hql := hq.1
  have hnl := hp.2.1
  have hml := hq.2.1
  clear hp hq
  by_cases hm : n = m
  · subst hm
    go_enter Tryz.func92, Tryz.ntmps92
    go_wp2_with fail
    go_loopw [17] (fun i wr => ∃ k : Nat, k ≤ n ∧ i = .int .i64 k ∧ (ps.take k).map val = (qs.take k).map val ∧ Below w.heap.size w wr) (fun i _ => n - (intOf i).toNat)
    case atStart => exact ⟨0, Nat.zero_le _, rfl, rfl, Below.refl _ _⟩
    case round =>
      obtain ⟨k, hk, rfl, hsame, hbl⟩ := hrel
      rcases Nat.lt_or_ge k n with hlt | hge
      · obtain ⟨b, off, t, a, len, cap, zs, rfl, hpk, hc1, hc2, hone⟩ := (HP.out.later hbl).get hlt
        obtain ⟨b', off', t', a', len', cap', zs', rfl, hqk, hd1, hd2, hone'⟩ := (HQ.out.later hbl).get hlt
        have HPK := hidden hpk
        have HQK := hidden hqk
        have HSA := hidden hsame
        have HB := hidden hbl
        have hbs := hbl.size
        have hb : Below wr.heap.size wr ((wr.alloc (.cells #[.int .u16 t, .slice a len cap] 114)).alloc (.cells #[.int .u16 t', .slice a' len' cap'] 114)) := ((Below.refl _ wr).alloc (Nat.le_refl _) _).alloc (by simp) _
        have HS := hidden (same1 base base' _ _ _ (hone.later hb) (hone'.later hb))
        have HB1 := hidden (HB.out.trans (hb.mono hbs))
        have lt1 : b' < wr.heap.size := cell_lt hd1
        have lt2 : b < wr.heap.size := cell_lt hc1
        clear hpk hqk hsame hbl hone hone' hb
        unfold pv at HS
        go_wp2_with fail
        refine Calls.mono HS.out ?_
        rintro e w2 ⟨tt, rfl, h1, b2⟩
        have H1 := hidden h1
        have B2 : Below w.heap.size w w2 := HB1.out.trans (b2.mono HB1.out.size)
        clear h1 b2
        cases tt with
        | true =>
          go_wp2
          go_roundw
          case rel => exact ⟨k + 1, by omega, by go_num, vals_step HPK.out HQK.out HSA.out (H1.out.1 (by simp)), B2⟩
          case measure => simp [intOf]; omega
        | false =>
          go_wp2
          go_ret
          exact ⟨false, rfl, ⟨fun h => (by cases h), fun h => (by simpa using H1.out.2 (vals_at HPK.out HQK.out h))⟩, B2⟩
      · obtain rfl : n = k := by omega
        rw [List.take_of_length_le (by omega), List.take_of_length_le (by omega)] at hsame
        have HSA := hidden hsame
        clear hsame
        go_wp2
        go_ret
        exact ⟨true, rfl, ⟨fun _ => HSA.out, fun _ => rfl⟩, hbl⟩
  · have hne : ¬ (n : Int) = (m : Int) := by omega
    go_enter Tryz.func92, Tryz.ntmps92
    go_wp2
    go_ret
    refine ⟨false, rfl, ⟨fun h => (by cases h), fun h => ?_⟩, Below.refl _ _⟩
    have := congrArg List.length h
    simp only [List.length_map] at this
    omega
theorem same (base base' : Nat) (w : World) (pa qa : Option Addr) (n m pcap qcap : Nat) (ps qs : List Prm) (hp : Prms base w pa n ps) (hq : Prms base' w qa m qs) :
    Calls Tryz.prog 68 #[.slice pa n pcap, .slice qa m qcap] w fun e w' => ∃ t : Bool, e = .returned (.bool t) ∧ (t = true ↔ ps.map val = qs.map val) ∧ Below w.heap.size w w' := by
  have hmf : ∀ (fn : Fn) (first cap : Array Value) (w : World), (Instr.makeFunc fn first cap).run Tryz.prog w = .ok (.func fn first cap) w := fun _ _ _ _ => rfl
  have H := hidden (equalFunc base base' w pa qa n m pcap qcap ps qs hp hq)
  clear hp hq
  go_enter Tryz.func68, Tryz.ntmps68
  go_wp2_with fail
  refine Calls.mono H.out ?_
  rintro e w' ⟨t, rfl, h1, h2⟩
  have H1 := hidden h1
  clear h1
  go_wp2
  go_ret
  exact ⟨t, rfl, H1.out, h2⟩

theorem own_empty (w : World) (B : Nat) (hB : B ≤ w.heap.size) : (w.alloc (.cells #[] 5)).ownsRow B 5 1 (.slice (some ⟨w.heap.size, 0, none⟩) 0 0) 0 [] :=
  World.ownsRow_made w #[] 0 hB (Nat.zero_le _) rfl
theorem clone (base : Nat) (w : World) (a : Option Addr) (len cap : Nat) (zs : List Int) (h : Row base w a len zs) (hn : a = none → len = 0 ∧ cap = 0) :
    Calls Tryz.prog 137 #[.slice a len cap] w fun e w' => ∃ v, e = .returned v ∧ w'.ownsRow w.heap.size 5 1 v len (cs zs) ∧ Below w.heap.size w w' := by
  obtain ⟨i0, hi, hz0, hz1, hz2⟩ := info_parts info5
  have hlim := h.2.2.1
  have hl := h.1
  have hen : ∀ (x : Option Addr) (n c : Nat) (w : World), (binOp .eql 27 (.slice x n c) (.slice none 0 0)).run Tryz.prog w = .ok (.bool x.isNone) w := fun x n c w => Lib.run_eql_slice_nil w 27 5 x n c 0 0 Tryz.underlying27
  rcases a with _ | ad
  · obtain ⟨rfl, rfl⟩ := hn rfl
    obtain rfl := List.eq_nil_of_length_eq_zero hl
    clear h
    go_enter Tryz.func137, Tryz.ntmps137
    go_wp2
    go_ret
    exact ⟨_, rfl, World.ownsRow_nil _ _ _ _, Below.refl _ _⟩
  · have hb : Below w.heap.size w (w.alloc (.cells #[] 5)) := (Below.refl _ w).alloc (Nat.le_refl _) _
    have HNW := hidden ((h.later hb).news)
    have HO := hidden (own_empty w w.heap.size (Nat.le_refl _))
    have HB := hidden hb
    clear h hb
    go_enter Tryz.func137, Tryz.ntmps137
    go_wp2_with (at_builtin; refine wpList_append_own _ rfl _ _ 27 rfl w.heap.size 5 i0 (.int .u8 0) 1 1 Tryz.underlying27 hi hz0 hz1 hz2 rfl (by decide) _ _ _ rfl HO.out ad len cap (cs zs) rfl ?c0 HNW.out (cs_one _) ?c3 ?c4 (by simp) ?_)
    case c0 => rw [cs_len, hl, Nat.mul_one]
    case c3 => unfold maxLen; omega
    case c4 => omega
    intro v' w2 ho2 hg2 _
    have B2 : Below w.heap.size w w2 := HB.out.grown hg2 (by simp) (fun j hj => (HO.out.lt j hj).1)
    have HO2 := hidden ho2
    clear hg2 ho2
    go_wp2
    go_ret
    exact ⟨_, rfl, HO2.out, B2⟩

end Go.Proofs.YtmnndkhdekpecaaGreatDoor.Par
