/-
  The smallest functions of package frag: how many pieces, which fit, a fault that is thrown, all bytes together.
  Conditions: as at each lemma.
-/
import Derived.Test.YteomkmbaoaahoaaFrB
namespace Go.Proofs.Yteomkmbaoaahoaa.Fr
open Go.ChangeShapes Go.WideShapes Go.ChangeAt Go.RowKit
open Ba (hidden Has Only cell_lt heap_lt)
open Ow (Own)
set_option linter.unusedVariables false

theorem count_arg {N Z : Int} (h : N < 1 ∨ 65536 < N ∨ Z < 1) (w : World) : Calls Try.prog 11 #[.int .i64 Z, .int .i64 N] w fun e w' => e = .returned (.tuple #[.int .i64 0, .int .i64 1]) ∧ w = w' := by
  by_cases h1 : N < 1
  · go_enter Try.func11, Try.ntmps11
    go_wp2
    go_ret2
    exact ⟨rfl, rfl⟩
  · by_cases h2 : 65536 < N
    · go_enter Try.func11, Try.ntmps11
      go_wp2
      go_ret2
      exact ⟨rfl, rfl⟩
    · have h3 : Z < 1 := by omega
      clear h
      go_enter Try.func11, Try.ntmps11
      go_wp2
      go_ret2
      exact ⟨rfl, rfl⟩
theorem count_long {N Z : Int} (h1 : 1 ≤ N) (h2 : N ≤ 65536) (h3 : 65536 < Z) (w : World) : Calls Try.prog 11 #[.int .i64 Z, .int .i64 N] w fun e w' => e = .returned (.tuple #[.int .i64 0, .int .i64 2]) ∧ w = w' := by
  have h4 : ¬ N < 1 := by omega
  have h5 : ¬ 65536 < N := by omega
  have h6 : ¬ Z < 1 := by omega
  go_enter Try.func11, Try.ntmps11
  go_wp2
  go_ret2
  exact ⟨rfl, rfl⟩
theorem cnt_int {n z : Nat} (h1 : 1 ≤ n) (h3 : 1 ≤ z) : ((z : Int) + (n : Int) - 1).tdiv (n : Int) = ((cnt z n : Nat) : Int) := by
  unfold cnt
  rw [Int.tdiv_eq_ediv_of_nonneg (by omega), show (z : Int) + (n : Int) - 1 = ((z + n - 1 : Nat) : Int) by omega]
  rfl
theorem count_ok {n z : Nat} (h1 : 1 ≤ n) (h2 : n ≤ 65536) (h3 : 1 ≤ z) (h4 : z ≤ 65536) (w : World) : Calls Try.prog 11 #[.int .i64 (z : Int), .int .i64 (n : Int)] w fun e w' => e = .returned (.tuple #[.int .i64 ((cnt z n : Nat) : Int), .int .i64 0]) ∧ w = w' := by
  have HD := hidden (cnt_int h1 h3)
  have hd := cnt_int h1 h3
  have hc : cnt z n ≤ 65536 := Nat.le_trans (cnt_le h1) h4
  generalize cnt z n = C at *
  go_enter Try.func11, Try.ntmps11
  go_wp2
  go_ret2
  exact ⟨rfl, rfl⟩
/-- a fault that is thrown -/
def thrown (f : Int) (p : Int) : Ending := .panicked [{ v := .iface 58 (.agg #[.int .i64 f, .int .i64 p]), recovered := false }]
theorem need_ok (f p : Int) (w : World) : Calls Try.prog 27 #[.bool true, .int .i64 f, .int .i64 p] w fun e w' => e = .returned (.tuple #[]) ∧ w = w' := by
  go_enter Try.func27, Try.ntmps27
  go_wp2
  go_end0
  exact ⟨rfl, rfl⟩
theorem need_bad (f p : Int) (w : World) : Calls Try.prog 27 #[.bool false, .int .i64 f, .int .i64 p] w fun e w' => e = thrown f p ∧ w = w' := by
  go_enter Try.func27, Try.ntmps27
  go_wp2
  exact ⟨rfl, rfl, rfl⟩
theorem fits (bg en t : Bool) (a : Option Addr) (len cap : Nat) (hl : len ≤ 140737488355328) (w : World) : Calls Try.prog 28 #[.agg #[.bool bg, .bool en, .slice a len cap], .bool t] w fun e w' => e = .returned (.bool (decide (0 < len) && (bg == t))) ∧ Below w.heap.size w w' := by
  have HB := hidden ((Below.refl _ w).alloc (Nat.le_refl _) (.cells #[.bool bg, .bool en, .slice a len cap] 48))
  by_cases h : 0 < len
  · have h0 : (0 : Int) < len := by omega
    rw [decide_eq_true h, Bool.true_and]
    cases bg <;> cases t <;> (go_enter Try.func28, Try.ntmps28; go_wp2; go_ret; exact ⟨rfl, HB.out⟩)
  · have h0 : ¬ (0 : Int) < len := by omega
    rw [decide_eq_false h, Bool.false_and]
    go_enter Try.func28, Try.ntmps28
    go_wp2
    go_ret
    exact ⟨rfl, HB.out⟩
section
variable {w : World} {pa : Option Addr} {n pcap : Nat} {vs : List V}
theorem size_ (hp : Pcs w pa n vs) (hl : (flat vs).length ≤ 140737488355328) : Calls Try.prog 29 #[.slice pa n pcap] w fun e w' => e = .returned (.int .i64 ((flat vs).length : Int)) ∧ Below w.heap.size w w' := by
  have H := hidden hp
  have HL := hidden hl
  have hpl := hp.1
  have hnl := hp.2.1
  clear hp hl
  go_enter Try.func29, Try.ntmps29
  go_wp2_with fail
  go_loopw [3, 8] (fun s i wr => ∃ k : Nat, k ≤ n ∧ i = .int .i64 k ∧ s = .int .i64 ((flat (vs.take k)).length : Int) ∧ Below w.heap.size w wr) (fun _ i _ => n - (intOf i).toNat)
  case atStart => exact ⟨0, Nat.zero_le _, rfl, rfl, Below.refl _ _⟩
  case round =>
    obtain ⟨k, hk, rfl, rfl, hbl⟩ := hrel
    rcases Nat.lt_or_ge k n with hlt | hge
    · obtain ⟨b, off, bg, en, zs, a, cap, rfl, hpk, c0, c1, c2, hr⟩ := (H.out.later hbl).get hlt
      have HN := hidden (flat_next hpk)
      have hle := flat_take_le vs (k + 1)
      rw [HN.out, List.length_append] at hle
      have hle2 := HL.out
      have HB := hidden (hbl.alloc hbl.size (.cells #[.bool bg, .bool en, .slice a zs.length cap] 48))
      simp only at hle
      have HN2 : Hid ((flat (vs.take (k + 1))).length = (flat (vs.take k)).length + zs.length) := by
        show (flat (vs.take (k + 1))).length = _
        rw [HN.out, List.length_append]
      clear hpk hbl hr HN
      generalize (flat (vs.take k)).length = F at *
      generalize zs.length = Z at *
      go_wp2
      go_roundw
      case rel => exact ⟨k + 1, by omega, by go_num, by rw [HN2.out]; go_num, HB.out⟩
      case measure => simp [intOf]; omega
    · obtain rfl : k = n := by omega
      have e : vs.take k = vs := List.take_of_length_le (by omega)
      rw [e]
      go_wp2
      go_ret
      exact ⟨rfl, hbl⟩
set_option maxHeartbeats 1000000 in
theorem gathered (hp : Pcs w pa n vs) (hl : (flat vs).length ≤ 1048576) (hne : ∀ v ∈ vs, v.2.2 ≠ []) : Calls Try.prog 30 #[.slice pa n pcap] w fun e w' => ∃ v, e = .returned v ∧ Mine w.heap.size w' v (flat vs) ∧ Below w.heap.size w w' := by
  have H := hidden hp
  have HL := hidden hl
  have HNE := hidden hne
  have SZ := hidden (size_ (pcap := pcap) hp (by omega))
  have hpl := hp.1
  have hnl := hp.2.1
  clear hp hl hne
  go_enter Try.func30, Try.ntmps30
  go_wp2_with fail
  refine Calls.mono SZ.out ?_
  rintro e w1 ⟨rfl, b1⟩
  obtain ⟨w2, mk, mine, b2, hs2⟩ := make_bytes (flat vs).length HL.out w1
  have M0 := hidden (mine w.heap.size b1.size)
  have B2 := hidden (b1.trans (b2.mono b1.size))
  have hs1 := b1.size
  clear b1 b2 mine SZ
  generalize (flat vs).length = F at mk M0
  go_wp2_with fail
  go_loopw [3, 11] (fun v i wr => ∃ k : Nat, k ≤ n ∧ i = .int .i64 k ∧ Hid (Mine w.heap.size wr v (flat (vs.take k))) ∧ v.ownBlock ≠ none ∧ Below w.heap.size w wr) (fun _ i _ => n - (intOf i).toNat)
  case atStart => exact ⟨0, Nat.zero_le _, rfl, M0.out, by simp [Value.ownBlock], B2.out⟩
  case round =>
    clear M0 B2 mk
    obtain ⟨k, hk, rfl, M, hob, hbl⟩ := hrel
    rcases Nat.lt_or_ge k n with hlt | hge
    · obtain ⟨b, off, bg, en, zs, a, cap, rfl, hpk, c0, c1, c2, hr⟩ := (H.out.later hbl).get hlt
      have hz : 0 < zs.length := List.length_pos_iff.2 (HNE.out _ (List.mem_of_getElem? hpk))
      obtain ⟨ba, oa, rfl⟩ := hr.open hz
      have HN := hidden (flat_next hpk)
      have hle := flat_take_le vs (k + 1)
      rw [HN.out, List.length_append] at hle
      have hle2 := HL.out
      have hB : Below wr.heap.size wr (wr.alloc (.cells #[.bool bg, .bool en, .slice (some ⟨ba, oa, none⟩) zs.length cap] 48)) := (Below.refl _ wr).alloc (Nat.le_refl _) _
      obtain ⟨v3, w3, hrun, m3, g3⟩ := app_bytes (c := cap) (M.out.later hB) (hr.later hB) (.inl hz) (by simp only at hle; omega) (Nat.le_trans hbl.size hB.size)
      have HB3 := hidden ((hbl.trans (hB.mono hbl.size)).grown g3 (Nat.le_trans hbl.size hB.size) (fun j hj => (M.out.1.lt j hj).1))
      have HM3 := hidden m3
      have hob3 : v3.ownBlock ≠ none := by
        intro e
        rcases m3.1.2 with ⟨_, h0⟩ | ⟨g, cap, cur, rfl, _⟩
        · rw [List.length_append] at h0; omega
        · cases e
      have HR := hidden hrun
      clear hpk hbl hr m3 g3 hle hle2 hB M hrun
      go_wp2_with (at_builtin; refine Rg.wpList_app rfl _ _ _ rfl rfl rfl HR.out ?_; clear HR)
      go_wp2
      go_roundw
      case rel => exact ⟨k + 1, by omega, by go_num, by rw [HN.out]; exact HM3.out, hob3, HB3.out⟩
      case measure => simp [intOf]; omega
    · obtain rfl : k = n := by omega
      have e : vs.take k = vs := List.take_of_length_le (by omega)
      rw [e] at M
      have HM := hidden M.out
      clear M
      go_wp2
      go_ret
      exact ⟨_, rfl, HM.out, hbl⟩
end
theorem clone {w : World} {b off len cap : Nat} {zs : List Int} (h : Row w (some ⟨b, off, none⟩) len zs) (hn : 0 < len) : Calls Try.prog 20 #[.slice (some ⟨b, off, none⟩) len cap] w fun e w' => ∃ v, e = .returned v ∧ Mine w.heap.size w' v zs ∧ Below w.heap.size w w' := by
  have H := hidden h
  have hnil : ∀ w, (binOp .eql 22 (.slice (some ⟨b, off, none⟩) len cap) (.slice none 0 0)).run Try.prog w = .ok (.bool false) w := fun w => Lib.run_eql_slice_nil w 22 5 _ len cap 0 0 Try.underlying22
  have hB : Below w.heap.size w (w.alloc (.cells #[] 5)) := (Below.refl _ w).alloc (Nat.le_refl _) _
  have hM : Mine w.heap.size (w.alloc (.cells #[] 5)) (.slice (some ⟨w.heap.size, 0, none⟩) 0 0) [] :=
    ⟨⟨rfl, .inr ⟨w.heap.size, 0, #[], rfl, Nat.le_refl _, heap_alloc_new w _, Nat.le_refl _, by decide, rfl, rfl⟩⟩, Bytes.nil, by decide⟩
  obtain ⟨v3, w3, hrun, m3, g3⟩ := app_bytes (c := cap) hM (h.later hB) (.inl hn) (by rw [h.1]; have := h.2.2.1; simpa using this) hB.size
  have HB3 := hidden (hB.grown g3 hB.size (fun j hj => (hM.1.lt j hj).1))
  have HM3 := hidden m3
  have HR := hidden hrun
  clear hM hB hrun m3 g3 h
  go_enter Try.func20, Try.ntmps20
  go_wp2_with (at_builtin; refine Rg.wpList_app rfl _ _ _ rfl rfl rfl HR.out ?_; clear HR)
  go_wp2
  go_ret
  exact ⟨_, rfl, HM3.out, HB3.out⟩
end Go.Proofs.Yteomkmbaoaahoaa.Fr
