/-
  Which lists are alike, as the document says it.
  Conditions: the numbers lie within their kinds, the cells hold them.
-/
import Derived.Test.YtifdkpifambhaaaParD
import Derived.BigQuiet
import Derived.Deep.QuietTactic
namespace Go.Proofs.Ytifdkpifambhaaa.Par
open Go.ChangeShapes Go.WideShapes Go.ChangeAt Go.RowKit
set_option linter.unusedVariables false

theorem vals_step {ps qs : List Prm} {k : Nat} {p q : Prm} (hp : ps[k]? = some p) (hq : qs[k]? = some q) (h : (ps.take k).map val = (qs.take k).map val) (e : val p = val q) : (ps.take (k + 1)).map val = (qs.take (k + 1)).map val := by
  rw [List.take_add_one, List.take_add_one, hp, hq, List.map_append, List.map_append, h]
  simp [e]
theorem vals_at {ps qs : List Prm} {k : Nat} {p q : Prm} (hp : ps[k]? = some p) (hq : qs[k]? = some q) (h : ps.map val = qs.map val) : val p = val q := by
  have e := congrArg (fun l => l[k]?) h
  simp only [List.getElem?_map, hp, hq, Option.map_some, Option.some.injEq] at e
  exact e
theorem Row.drewN {base : Nat} {w : World} {a : Option Addr} {len : Nat} {zs : List Int} (h : Row base w a len zs) (n : Nat) : Row base (w.drewN n) a len zs := h
theorem val_eq {t t' : Int} {a a' : Option Addr} {l l' c c' : Nat} {zs zs' : List Int} : val (t, a, l, c, zs) = val (t', a', l', c', zs') ↔ t = t' ∧ zs = zs' := by
  show (t, zs) = (t', zs') ↔ _
  rw [Prod.mk.injEq]

theorem below_drewN {n : Nat} {w0 w : World} (h : Below n w0 w) (k : Nat) : Below n w0 (w.drewN k) := ⟨h.os, h.tape, h.output, h.size, h.block⟩
theorem str_beq (xs ys : List Int) (hx : Bytes xs) (hy : Bytes ys) : ∃ t : Bool, ((strOfNums xs).toList == (strOfNums ys).toList) = t ∧ (t = true ↔ xs = ys) := by
  refine ⟨_, rfl, ?_⟩
  rw [beq_iff_eq, ByteArray.toList_eq, ByteArray.toList_eq, strOfNums_data, strOfNums_data]
  constructor
  · intro h
    refine str_inj xs ys hx hy ?_
    have e : (strOfNums xs).data.toList = (strOfNums ys).data.toList := by rw [strOfNums_data, strOfNums_data]; exact h
    have e2 : (strOfNums xs).data = (strOfNums ys).data := by rw [← Array.toList_inj]; exact e
    cases hX : strOfNums xs with
    | mk d => cases hY : strOfNums ys with
      | mk d' => rw [hX, hY] at e2; simp at e2; rw [e2]
  · intro h; rw [h]

theorem rSame (base base' : Nat) (w : World) (pa qa : Option Addr) (n m pcap qcap : Nat) (ps qs : List Prm) (hp : Prms base w pa n ps) (hq : Prms base' w qa m qs) :
    Calls Try.prog 39 #[.slice pa n pcap, .slice qa m qcap] w fun e w' => ∃ t : Bool, e = .returned (.bool t) ∧ (t = true ↔ ps.map val = qs.map val) ∧ Below w.heap.size w w' := by
  have HP := hidden hp
  have HQ := hidden hq
  have hpl := hp.1
  have hql := hq.1
  have hnl := hp.2.1
  have hml := hq.2.1
  clear hp hq
  by_cases hm : n = m
  · subst hm
    go_enter Try.func39, Try.ntmps39
    go_wp2_with fail
    go_loopw [5] (fun i wr => ∃ k : Nat, k ≤ n ∧ i = .int .i64 k ∧ (ps.take k).map val = (qs.take k).map val ∧ Below w.heap.size w wr) (fun i _ => n - (intOf i).toNat)
    case atStart => exact ⟨0, Nat.zero_le _, rfl, rfl, Below.refl _ _⟩
    case round =>
      obtain ⟨k, hk, rfl, hsame, hbl⟩ := hrel
      rcases Nat.lt_or_ge k n with hlt | hge
      · obtain ⟨b, off, t, a, len, cap, zs, rfl, hpk, hc1, hc2, hone⟩ := (HP.out.later hbl).get hlt
        obtain ⟨b', off', t', a', len', cap', zs', rfl, hqk, hd1, hd2, hone'⟩ := (HQ.out.later hbl).get hlt
        have HPK := hidden hpk
        have HQK := hidden hqk
        have HSA := hidden hsame
        have HB := hidden hbl
        have HB1 := hidden hone.2.1.2.1
        have HB2 := hidden hone'.2.1.2.1
        have hcv : ∀ j, (convert 23 9 (.slice a len cap)).run Try.prog (wr.drewN j) = .ok (.string (strOfNums zs)) (wr.drewN j) := fun j => conv_row _ _ _ _ _ _ (hone.2.1.drewN j)
        have hcv' : ∀ j, (convert 23 9 (.slice a' len' cap')).run Try.prog (wr.drewN j) = .ok (.string (strOfNums zs')) (wr.drewN j) := fun j => conv_row _ _ _ _ _ _ (hone'.2.1.drewN j)
        clear hpk hqk hsame hbl hone hone'
        by_cases ht : t = t'
        · subst ht
          obtain ⟨tt, ht1, ht2⟩ := str_beq zs zs' HB1.out HB2.out
          have HT1 := hidden ht1
          have HT2 := hidden ht2
          clear ht1 ht2
          go_wp2
          go_quiet (fail)
          rw [HT1.out]
          have B2 : Below w.heap.size w (wr.drewN nq) := below_drewN HB.out nq
          cases tt with
          | true =>
            go_wp2
            go_roundw
            case rel => exact ⟨k + 1, by omega, by go_num, vals_step HPK.out HQK.out HSA.out (val_eq.2 ⟨rfl, HT2.out.1 (by simp)⟩), B2⟩
            case measure => simp [intOf]; omega
          | false =>
            go_wp2
            go_ret
            exact ⟨false, rfl, ⟨fun h => (by cases h), fun h => (by simpa using HT2.out.2 (val_eq.1 (vals_at HPK.out HQK.out h)).2)⟩, B2⟩
        · have htb : (t != t') = true := by simpa using ht
          go_wp2
          go_quiet (fail)
          have B2 : Below w.heap.size w (wr.drewN nq) := below_drewN HB.out nq
          go_wp2
          go_ret
          exact ⟨false, rfl, ⟨fun h => (by cases h), fun h => absurd (val_eq.1 (vals_at HPK.out HQK.out h)).1 ht⟩, B2⟩
      · obtain rfl : n = k := by omega
        rw [List.take_of_length_le (by omega), List.take_of_length_le (by omega)] at hsame
        have HSA := hidden hsame
        clear hsame
        go_wp2
        go_ret
        exact ⟨true, rfl, ⟨fun _ => HSA.out, fun _ => rfl⟩, hbl⟩
  · have hne : ¬ (n : Int) = (m : Int) := by omega
    go_enter Try.func39, Try.ntmps39
    go_wp2
    go_ret
    refine ⟨false, rfl, ⟨fun h => (by cases h), fun h => ?_⟩, Below.refl _ _⟩
    have := congrArg List.length h
    simp only [List.length_map] at this
    omega
end Go.Proofs.Ytifdkpifambhaaa.Par
