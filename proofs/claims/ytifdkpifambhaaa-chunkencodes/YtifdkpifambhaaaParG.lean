/-
  Find and Same of package param, and the document's Find.
  Conditions: the numbers lie within their kinds, the cells hold them.
-/
import Derived.Test.YtifdkpifambhaaaParF
import Derived.Laws.OwnMore
import Derived.Lib.SliceRun
namespace Go.Proofs.Ytifdkpifambhaaa.Par
open Go.ChangeShapes Go.WideShapes Go.ChangeAt Go.RowKit
set_option linter.unusedVariables false

theorem equal (base base' : Nat) (w : World) (a a' : Option Addr) (len cap len' cap' : Nat) (zs zs' : List Int) (h : Row base w a len zs) (h' : Row base' w a' len' zs') :
    Calls Try.prog 43 #[.slice a len cap, .slice a' len' cap'] w fun e w' => ∃ t : Bool, e = .returned (.bool t) ∧ (t = true ↔ zs = zs') ∧ w = w' := by
  obtain ⟨tt, ht1, ht2⟩ := str_beq zs zs' h.2.1 h'.2.1
  have hcv := conv_row _ w a len cap zs h
  have hcv' := conv_row _ w a' len' cap' zs' h'
  have HT2 := hidden ht2
  clear ht2
  go_enter Try.func43, Try.ntmps43
  go_wp2
  go_ret
  exact ⟨tt, rfl, HT2.out, rfl⟩
theorem same1 (base base' : Nat) (w : World) (p q : Prm) (h : One base w p) (h' : One base' w q) :
    Calls Try.prog 66 #[pv p, pv q] w fun e w' => ∃ t : Bool, e = .returned (.bool t) ∧ (t = true ↔ val p = val q) ∧ Below w.heap.size w w' := by
  obtain ⟨t, a, len, cap, zs⟩ := p
  obtain ⟨t', a', len', cap', zs'⟩ := q
  have HR := hidden h.2.1
  have HR' := hidden h'.2.1
  have hb : Below w.heap.size w ((w.alloc (.cells #[.int .u16 t, .slice a len cap] 56)).alloc (.cells #[.int .u16 t', .slice a' len' cap'] 56)) := ((Below.refl _ w).alloc (Nat.le_refl _) _).alloc (by simp) _
  have HB := hidden hb
  have EQ := hidden (equal base base' _ a a' len cap len' cap' zs zs' (HR.out.later hb) (HR'.out.later hb))
  clear hb h h'
  unfold pv
  by_cases ht : t = t'
  · subst ht
    go_enter Try.func66, Try.ntmps66
    go_wp2_with fail
    refine Calls.mono EQ.out ?_
    rintro e w' ⟨tt, rfl, h1, rfl⟩
    have H1 := hidden h1
    clear h1
    go_wp2
    go_ret
    exact ⟨tt, rfl, by rw [H1.out, val_eq]; simp, HB.out⟩
  · have htb : (t == t') = false := by simpa using ht
    go_enter Try.func66, Try.ntmps66
    go_wp2
    go_ret
    exact .inl ⟨rfl, fun h => ht (val_eq.1 h).1, HB.out⟩

theorem equalFunc (base base' : Nat) (w : World) (pa qa : Option Addr) (n m pcap qcap : Nat) (ps qs : List Prm) (hp : Prms base w pa n ps) (hq : Prms base' w qa m qs) :
    Calls Try.prog 65 #[.slice pa n pcap, .slice qa m qcap, .func (.func 66) #[] #[]] w fun e w' => ∃ t : Bool, e = .returned (.bool t) ∧ (t = true ↔ ps.map val = qs.map val) ∧ Below w.heap.size w w' := by
  have HP := hidden hp
  have HQ := hidden hq
  have hpl := hp.1
  have hql := hq.1
  have hnl := hp.2.1
  have hml := hq.2.1
  clear hp hq
  by_cases hm : n = m
  · subst hm
    go_enter Try.func65, Try.ntmps65
    go_wp2_with fail
    go_loopw [17] (fun i wr => ∃ k : Nat, k ≤ n ∧ i = .int .i64 k ∧ (ps.take k).map val = (qs.take k).map val ∧ Below w.heap.size w wr) (fun i _ => n - (intOf i).toNat)
    case atStart => exact ⟨0, Nat.zero_le _, rfl, rfl, Below.refl _ _⟩
    case round =>
      obtain ⟨k, hk, rfl, hsame, hbl⟩ := hrel
      rcases Nat.lt_or_ge k n with hlt | hge
      · obtain ⟨b, off, t, a, len, cap, zs, rfl, hpk, hc1, hc2, hone⟩ := (HP.out.later hbl).get hlt
        obtain ⟨b', off', t', a', len', cap', zs', rfl, hqk, hd1, hd2, hone'⟩ := (HQ.out.later hbl).get hlt
        have HPK := hidden hpk
        have HQK := hidden hqk
        have HSA := hidden hsame
        have HB := hidden hbl
        have hbs := hbl.size
        have hb : Below wr.heap.size wr ((wr.alloc (.cells #[.int .u16 t, .slice a len cap] 56)).alloc (.cells #[.int .u16 t', .slice a' len' cap'] 56)) := ((Below.refl _ wr).alloc (Nat.le_refl _) _).alloc (by simp) _
        have HS := hidden (same1 base base' _ _ _ (hone.later hb) (hone'.later hb))
        have HB1 := hidden (HB.out.trans (hb.mono hbs))
        have lt1 : b' < wr.heap.size := cell_lt hd1
        have lt2 : b < wr.heap.size := cell_lt hc1
        clear hpk hqk hsame hbl hone hone' hb
        unfold pv at HS
        go_wp2_with fail
        refine Calls.mono HS.out ?_
        rintro e w2 ⟨tt, rfl, h1, b2⟩
        have H1 := hidden h1
        have B2 : Below w.heap.size w w2 := HB1.out.trans (b2.mono HB1.out.size)
        clear h1 b2
        cases tt with
        | true =>
          go_wp2
          go_roundw
          case rel => exact ⟨k + 1, by omega, by go_num, vals_step HPK.out HQK.out HSA.out (H1.out.1 (by simp)), B2⟩
          case measure => simp [intOf]; omega
        | false =>
          go_wp2
          go_ret
          exact ⟨false, rfl, ⟨fun h => (by cases h), fun h => (by simpa using H1.out.2 (vals_at HPK.out HQK.out h))⟩, B2⟩
      · obtain rfl : n = k := by omega
        rw [List.take_of_length_le (by omega), List.take_of_length_le (by omega)] at hsame
        have HSA := hidden hsame
        clear hsame
        go_wp2
        go_ret
        exact ⟨true, rfl, ⟨fun _ => HSA.out, fun _ => rfl⟩, hbl⟩
  · have hne : ¬ (n : Int) = (m : Int) := by omega
    go_enter Try.func65, Try.ntmps65
    go_wp2
    go_ret
    refine ⟨false, rfl, ⟨fun h => (by cases h), fun h => ?_⟩, Below.refl _ _⟩
    have := congrArg List.length h
    simp only [List.length_map] at this
    omega
theorem same (base base' : Nat) (w : World) (pa qa : Option Addr) (n m pcap qcap : Nat) (ps qs : List Prm) (hp : Prms base w pa n ps) (hq : Prms base' w qa m qs) :
    Calls Try.prog 44 #[.slice pa n pcap, .slice qa m qcap] w fun e w' => ∃ t : Bool, e = .returned (.bool t) ∧ (t = true ↔ ps.map val = qs.map val) ∧ Below w.heap.size w w' := by
  have hmf : ∀ (fn : Fn) (first cap : Array Value) (w : World), (Instr.makeFunc fn first cap).run Try.prog w = .ok (.func fn first cap) w := fun _ _ _ _ => rfl
  have H := hidden (equalFunc base base' w pa qa n m pcap qcap ps qs hp hq)
  clear hp hq
  go_enter Try.func44, Try.ntmps44
  go_wp2_with fail
  refine Calls.mono H.out ?_
  rintro e w' ⟨t, rfl, h1, h2⟩
  have H1 := hidden h1
  clear h1
  go_wp2
  go_ret
  exact ⟨t, rfl, H1.out, h2⟩

theorem own_empty (w : World) (B : Nat) (hB : B ≤ w.heap.size) : (w.alloc (.cells #[] 5)).ownsRow B 5 1 (.slice (some ⟨w.heap.size, 0, none⟩) 0 0) 0 [] :=
  World.ownsRow_made w #[] 0 hB (Nat.zero_le _) rfl
theorem clone (base : Nat) (w : World) (a : Option Addr) (len cap : Nat) (zs : List Int) (h : Row base w a len zs) (hn : a = none → len = 0 ∧ cap = 0) :
    Calls Try.prog 87 #[.slice a len cap] w fun e w' => ∃ v, e = .returned v ∧ w'.ownsRow w.heap.size 5 1 v len (cs zs) ∧ Below w.heap.size w w' := by
  obtain ⟨i0, hi, hz0, hz1, hz2⟩ := info_parts info5
  have hlim := h.2.2.1
  have hl := h.1
  have hen : ∀ (x : Option Addr) (n c : Nat) (w : World), (binOp .eql 23 (.slice x n c) (.slice none 0 0)).run Try.prog w = .ok (.bool x.isNone) w := fun x n c w => Lib.run_eql_slice_nil w 23 5 x n c 0 0 Try.underlying23
  rcases a with _ | ad
  · obtain ⟨rfl, rfl⟩ := hn rfl
    obtain rfl := List.eq_nil_of_length_eq_zero hl
    clear h
    go_enter Try.func87, Try.ntmps87
    go_wp2
    go_ret
    exact ⟨_, rfl, World.ownsRow_nil _ _ _ _, Below.refl _ _⟩
  · have hb : Below w.heap.size w (w.alloc (.cells #[] 5)) := (Below.refl _ w).alloc (Nat.le_refl _) _
    have HNW := hidden ((h.later hb).news)
    have HO := hidden (own_empty w w.heap.size (Nat.le_refl _))
    have HB := hidden hb
    clear h hb
    go_enter Try.func87, Try.ntmps87
    go_wp2_with (at_builtin; refine wpList_append_own _ rfl _ _ 23 rfl w.heap.size 5 i0 (.int .u8 0) 1 1 Try.underlying23 hi hz0 hz1 hz2 rfl (by decide) _ _ _ rfl HO.out ad len cap (cs zs) rfl ?c0 HNW.out (cs_one _) ?c3 ?c4 (by simp) ?_)
    case c0 => rw [cs_len, hl, Nat.mul_one]
    case c3 => unfold maxLen; omega
    case c4 => omega
    intro v' w2 ho2 hg2 _
    have B2 : Below w.heap.size w w2 := HB.out.grown hg2 (by simp) (fun j hj => (HO.out.lt j hj).1)
    have HO2 := hidden ho2
    clear hg2 ho2
    go_wp2
    go_ret
    exact ⟨_, rfl, HO2.out, B2⟩

end Go.Proofs.Ytifdkpifambhaaa.Par
