/-
  Kinds of chunks, what a chunk has beside what its kind has, how many bytes its value has, as package chunk tells it.
  Conditions: the numbers lie within their kinds, the cells hold them.
-/
import Derived.Test.YtifdkpifambhaaaChB
namespace Go.Proofs.Ytifdkpifambhaaa.Chu
open Go.ChangeShapes Go.WideShapes Go.ChangeAt Go.RowKit
open Par (hidden Bytes Row Prm Prms cell_lt)
set_option linter.unusedVariables false
attribute [local go_sem ↓] execOp_ld execOp_bx execOp_st
attribute [local go_sem] run_box cc_0 cc_1 cc_2 cc_3 cc_4 cc_5 cc_6 cc_7 cc_8 cc_9 cc_10 cc_11 cc_12 cc_13 cc_14

/-- an unknown kind -/
def Oth (k : Int) : Prop := ¬ k = 0 ∧ ¬ k = 1 ∧ ¬ k = 2 ∧ ¬ k = 3 ∧ ¬ k = 4 ∧ ¬ k = 5 ∧ ¬ k = 6 ∧ ¬ k = 7 ∧ ¬ k = 8 ∧ ¬ k = 9 ∧ ¬ k = 10 ∧ ¬ k = 11 ∧ ¬ k = 14 ∧ ¬ k = 16
theorem kind_cases (k : Int) : k = 0 ∨ k = 1 ∨ k = 2 ∨ k = 3 ∨ k = 4 ∨ k = 5 ∨ k = 6 ∨ k = 7 ∨ k = 8 ∨ k = 9 ∨ k = 10 ∨ k = 11 ∨ k = 14 ∨ k = 16 ∨ Oth k := by unfold Oth; omega
/-- the flags that count -/
def cnt (k : Int) : Int := if k = 0 then 7 else if k = 6 ∨ k = 14 then 1 else if k = 1 ∨ k = 2 ∨ k = 3 ∨ k = 16 ∨ k = 4 ∨ k = 5 ∨ k = 9 ∨ k = 7 ∨ k = 8 ∨ k = 10 ∨ k = 11 then 0 else 255
/-- how many bytes stand ahead of the lists -/
def nb (k : Int) : Nat := if k = 1 ∨ k = 2 ∨ k = 16 then 16 else if k = 0 ∨ k = 3 then 12 else if k = 7 then 4 else 0
/-- a heartbeat -/
def beat (k : Int) : Bool := k == 4 || k == 5
theorem counting (k : Int) (w : World) : Calls Try.prog 50 #[.int .u8 k] w fun e w' => e = .returned (.int .u8 (cnt k)) ∧ w = w' := by
  rcases kind_cases k with rfl | rfl | rfl | rfl | rfl | rfl | rfl | rfl | rfl | rfl | rfl | rfl | rfl | rfl | h
  · go_enter Try.func50, Try.ntmps50
    go_wp2
    go_ret
    exact ⟨rfl, rfl⟩
  · go_enter Try.func50, Try.ntmps50
    go_wp2
    go_ret
    exact ⟨rfl, rfl⟩
  · go_enter Try.func50, Try.ntmps50
    go_wp2
    go_ret
    exact ⟨rfl, rfl⟩
  · go_enter Try.func50, Try.ntmps50
    go_wp2
    go_ret
    exact ⟨rfl, rfl⟩
  · go_enter Try.func50, Try.ntmps50
    go_wp2
    go_ret
    exact ⟨rfl, rfl⟩
  · go_enter Try.func50, Try.ntmps50
    go_wp2
    go_ret
    exact ⟨rfl, rfl⟩
  · go_enter Try.func50, Try.ntmps50
    go_wp2
    go_ret
    exact ⟨rfl, rfl⟩
  · go_enter Try.func50, Try.ntmps50
    go_wp2
    go_ret
    exact ⟨rfl, rfl⟩
  · go_enter Try.func50, Try.ntmps50
    go_wp2
    go_ret
    exact ⟨rfl, rfl⟩
  · go_enter Try.func50, Try.ntmps50
    go_wp2
    go_ret
    exact ⟨rfl, rfl⟩
  · go_enter Try.func50, Try.ntmps50
    go_wp2
    go_ret
    exact ⟨rfl, rfl⟩
  · go_enter Try.func50, Try.ntmps50
    go_wp2
    go_ret
    exact ⟨rfl, rfl⟩
  · go_enter Try.func50, Try.ntmps50
    go_wp2
    go_ret
    exact ⟨rfl, rfl⟩
  · go_enter Try.func50, Try.ntmps50
    go_wp2
    go_ret
    exact ⟨rfl, rfl⟩
  · obtain ⟨h0, h1, h2, h3, h4, h5, h6, h7, h8, h9, h10, h11, h14, h16⟩ := h
    have e0 := beq_f h0
    have e1 := beq_f h1
    have e2 := beq_f h2
    have e3 := beq_f h3
    have e4 := beq_f h4
    have e5 := beq_f h5
    have e6 := beq_f h6
    have e7 := beq_f h7
    have e8 := beq_f h8
    have e9 := beq_f h9
    have e10 := beq_f h10
    have e11 := beq_f h11
    have e14 := beq_f h14
    have e16 := beq_f h16
    go_enter Try.func50, Try.ntmps50
    go_wp2
    go_ret
    exact ⟨by rw [show cnt k = 255 by simp [cnt, h0, h1, h2, h3, h4, h5, h6, h7, h8, h9, h10, h11, h14, h16]]; rfl, rfl⟩
theorem numberBytes (k : Int) (w : World) : Calls Try.prog 53 #[.int .u8 k] w fun e w' => e = .returned (.int .i64 (nb k : Nat)) ∧ w = w' := by
  rcases kind_cases k with rfl | rfl | rfl | rfl | rfl | rfl | rfl | rfl | rfl | rfl | rfl | rfl | rfl | rfl | h
  · go_enter Try.func53, Try.ntmps53
    go_wp2
    go_ret
    exact ⟨rfl, rfl⟩
  · go_enter Try.func53, Try.ntmps53
    go_wp2
    go_ret
    exact ⟨rfl, rfl⟩
  · go_enter Try.func53, Try.ntmps53
    go_wp2
    go_ret
    exact ⟨rfl, rfl⟩
  · go_enter Try.func53, Try.ntmps53
    go_wp2
    go_ret
    exact ⟨rfl, rfl⟩
  · go_enter Try.func53, Try.ntmps53
    go_wp2
    go_ret
    exact ⟨rfl, rfl⟩
  · go_enter Try.func53, Try.ntmps53
    go_wp2
    go_ret
    exact ⟨rfl, rfl⟩
  · go_enter Try.func53, Try.ntmps53
    go_wp2
    go_ret
    exact ⟨rfl, rfl⟩
  · go_enter Try.func53, Try.ntmps53
    go_wp2
    go_ret
    exact ⟨rfl, rfl⟩
  · go_enter Try.func53, Try.ntmps53
    go_wp2
    go_ret
    exact ⟨rfl, rfl⟩
  · go_enter Try.func53, Try.ntmps53
    go_wp2
    go_ret
    exact ⟨rfl, rfl⟩
  · go_enter Try.func53, Try.ntmps53
    go_wp2
    go_ret
    exact ⟨rfl, rfl⟩
  · go_enter Try.func53, Try.ntmps53
    go_wp2
    go_ret
    exact ⟨rfl, rfl⟩
  · go_enter Try.func53, Try.ntmps53
    go_wp2
    go_ret
    exact ⟨rfl, rfl⟩
  · go_enter Try.func53, Try.ntmps53
    go_wp2
    go_ret
    exact ⟨rfl, rfl⟩
  · obtain ⟨h0, h1, h2, h3, h4, h5, h6, h7, h8, h9, h10, h11, h14, h16⟩ := h
    have e0 := beq_f h0
    have e1 := beq_f h1
    have e2 := beq_f h2
    have e3 := beq_f h3
    have e4 := beq_f h4
    have e5 := beq_f h5
    have e6 := beq_f h6
    have e7 := beq_f h7
    have e8 := beq_f h8
    have e9 := beq_f h9
    have e10 := beq_f h10
    have e11 := beq_f h11
    have e14 := beq_f h14
    have e16 := beq_f h16
    go_enter Try.func53, Try.ntmps53
    go_wp2
    go_ret
    exact ⟨by rw [show nb k = 0 by simp [nb, h0, h1, h2, h3, h7, h16]]; rfl, rfl⟩
theorem isBeat (k : Int) (w : World) : Calls Try.prog 28 #[.int .u8 k] w fun e w' => e = .returned (.bool (beat k)) ∧ w = w' := by
  by_cases h4 : k = 4
  · subst h4
    go_enter Try.func28, Try.ntmps28
    go_wp2
    go_ret
    exact ⟨rfl, rfl⟩
  · have e4 := beq_f h4
    go_enter Try.func28, Try.ntmps28
    go_wp2
    go_ret
    exact ⟨by simp [beat, e4], rfl⟩
theorem filled (n : Nat) (hn : n ≤ 2000000000000004) (w : World) : Calls Try.prog 45 #[.int .i64 (n : Int)] w fun e w' => e = .returned (.int .i64 (Par.fill4 n : Nat)) ∧ w = w' := by
  have hd : ((n : Int) + 3).tdiv 4 = (((n + 3) / 4 : Nat) : Int) := by
    rw [Int.tdiv_eq_ediv_of_nonneg (by omega)]; omega
  go_enter Try.func45, Try.ntmps45
  go_wp2
  go_ret
  refine Par.fin_int ?_
  unfold Par.fill4
  omega
/-- the Params of a heartbeat -/
def OneBeat (ps : List (Int × List Int)) : Prop := ∃ b, ps = [(1, b)]
theorem isOneBeat (base : Nat) (w : World) (pa : Option Addr) (n pcap : Nat) (ps : List Prm) (hp : Prms base w pa n ps) :
    Calls Try.prog 29 #[.slice pa n pcap] w fun e w' => ∃ t : Bool, e = .returned (.bool t) ∧ (t = true ↔ OneBeat (ps.map Par.val)) ∧ w = w' := by
  have hl := hp.1
  by_cases h1 : n = 1
  · subst h1
    obtain ⟨b, off, t, a, len, cap, zs, rfl, hpk, hc1, _, _⟩ := hp.get (k := 0) (by omega)
    obtain ⟨p, rfl⟩ : ∃ p, ps = [p] := by
      match ps, hl with
      | [p], _ => exact ⟨p, rfl⟩
    simp only [List.getElem?_cons_zero, Option.some.injEq] at hpk
    subst hpk
    simp only [Nat.zero_mul, Nat.add_zero] at hc1
    clear hp hl
    go_enter Try.func29, Try.ntmps29
    go_wp2
    go_ret
    exact ⟨_, rfl, by simp [OneBeat, Par.val], rfl⟩
  · have e1 : ((n : Int) == 1) = false := by simp; omega
    go_enter Try.func29, Try.ntmps29
    go_wp2
    go_ret
    refine ⟨false, rfl, ⟨fun h => (by cases h), fun ⟨b, hb⟩ => ?_⟩, rfl⟩
    have := congrArg List.length hb
    simp at this
    omega
theorem code_le {ps : List Prm} (h : Par.code ps 0) : ¬ Par.Long ps ∧ ps.length ≤ 256 := by
  rcases h with ⟨_, h⟩ | ⟨_, _, h⟩ | ⟨h1, h2, _⟩
  · omega
  · omega
  · exact ⟨h2, h1⟩
theorem code_one {ps : List Prm} {c d : Int} (h : Par.code ps c) (h2 : Par.code ps d) : c = d := by
  unfold Par.code at h h2
  rcases h with ⟨h, e⟩ | ⟨h, h', e⟩ | ⟨h, h', e⟩ <;> rcases h2 with ⟨g, f⟩ | ⟨g, g', f⟩ | ⟨g, g', f⟩ <;> first | omega | exact absurd h' g' | exact absurd g' h'
theorem paramsRefusal (base : Nat) (w : World) (pa : Option Addr) (n pcap : Nat) (ps : List Prm) (hp : Prms base w pa n ps) :
    Calls Try.prog 30 #[.slice pa n pcap] w fun e w' => ∃ c : Int, e = .returned (.int .i64 c) ∧ Par.code ps c ∧ Below w.heap.size w w' := by
  have S := hidden (Par.size_ base w pa n pcap ps hp)
  have HP := hidden hp
  clear hp
  go_enter Try.func30, Try.ntmps30
  go_wp2_with fail
  refine Calls.mono S.out ?_
  rintro e w1 ⟨c, s, hc, h1, h0, rfl, b1⟩
  have HC := hidden hc
  have HS := hidden h1
  clear h1 h0 hc S
  by_cases hs : 0 < s
  · go_wp2
    go_ret
    exact ⟨0, rfl, by
      rcases Int.lt_trichotomy c 0 with h | h | h
      · have := HS.out (by omega); omega
      · rw [← h]; exact HC.out
      · have := HS.out (by omega); omega, b1⟩
  · have E := hidden (Par.encode base w1 pa n pcap ps (HP.out.later b1))
    have HB := hidden b1
    clear b1
    go_wp2_with fail
    refine Calls.mono E.out ?_
    rintro e w2 ⟨v, d, rfl, hd, _, _, b2⟩
    have HD := hidden hd
    have B2 := HB.out.trans (b2.mono HB.out.size)
    clear hd b2 E
    go_wp2
    go_ret
    exact ⟨d, rfl, HD.out, B2⟩
end Go.Proofs.Ytifdkpifambhaaa.Chu
