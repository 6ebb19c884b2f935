/-
  Both boxes made and taken through a row of acts.
  Conditions: as at each lemma.
-/
import Derived.Test.YtdifceikfnnfeaaDoorInR
import Derived.Test.YtdifceikfnnfeaaDoorInQ
import Derived.Test.YtdifceikfnnfeaaDoorInArgs
namespace Go.Proofs.YtdifceikfnnfeaaDoor.Sp.Inb
open Go.ChangeShapes Go.WideShapes Go.ChangeAt Go.RowKit
open Ba (hidden Has cell_lt heap_lt)
set_option linter.unusedVariables false
set_option maxRecDepth 20000
def runS (l : List OA) (s : St) : St := l.foldl (fun s z => actS z s) s
theorem runS_take {l : List OA} {k : Nat} {z : OA} (h : l[k]? = some z) (s : St) : runS (l.take (k + 1)) s = actS z (runS (l.take k) s) := by
  rw [List.take_add_one, h, Option.toList_some]
  unfold runS
  rw [List.foldl_append]
  rfl
theorem Rf.lower {n0 n1 : Nat} {w : World} {r bs : Nat} {fx dp : Value} {P : List Nat} {s : St} (h : Rf n1 w r bs fx dp P s) (hn : n0 ≤ n1) (h0 : 0 < n0) : Rf n0 w r bs fx dp P s :=
  ⟨h.q, h.a, own_base h.f hn, h.p, own_base h.d hn, h.ne, Nat.le_trans hn h.hr, Nat.le_trans hn h.hs, h0, Nat.le_trans hn h.hn⟩
theorem ld_op {X : World} {b o : Nat} {k m : Int} (a : Option Addr) (l c : Nat) (h0 : X.cell? ⟨b, o, none⟩ = some (.int .i64 k)) (h1 : X.cell? ⟨b, o + 1, none⟩ = some (.slice a l c)) (h2 : X.cell? ⟨b, o + 2, none⟩ = some (.int .i64 m)) : (Instr.loadAt 35 (.pointer (some ⟨b, o, none⟩))).run Tryd.prog X = .ok (.agg #[.int .i64 k, .slice a l c, .int .i64 m]) X := by
  simp [go_sem, h0, h1, h2]
/-- both boxes, made side by side -/
theorem both {first : Nat} (hc : first < 4294967296) (delay : Int) (nr : Bool) {w w1 w2 : World} (hd : 0 ≤ delay ∧ delay ≤ 500) {b bc bf r bs : Nat} (h1 : Cd w.heap.size w1 b bc bf (.slice none 0 0) (newS first delay nr)) (m1 : Below w.heap.size w w1) (h2 : Rf w1.heap.size w2 r bs (.slice none 0 0) (.slice none 0 0) [] (newS first delay nr)) (m2 : Below w1.heap.size w1 w2) : After w.heap.size w w2 b bc bf r bs 0 (newS first delay nr) :=
  ⟨.slice none 0 0, .slice none 0 0, .slice none 0 0, [], ⟨h1.later m2, h2.lower m1.size h1.h0, new_ok first delay nr hd.1 hd.2, fun k hk => by cases hk⟩, m1.trans (m2.mono m1.size)⟩
set_option maxHeartbeats 4000000 in
theorem made_ {first : Nat} (hc : first < 4294967296) (delay : Int) (nr : Bool) (w : World) (hT : Tab w) {a : Option Addr} {n : Nat} (cap : Nat) {zs : List OA} (hz : Ops w a n zs) : Calls Tryd.prog 13 #[.int .u32 (first : Int), .int .i64 delay, .bool nr, .slice a n cap] w fun e w' =>
    (e = .returned (.tuple #[.pointer none, .pointer none, .bool true]) ∧ Below w.heap.size w w') ∨
    ((0 ≤ delay ∧ delay ≤ 500) ∧ ∃ b bc bf r bs, e = .returned (.tuple #[.pointer (some ⟨b, 0, none⟩), .pointer (some ⟨r, 0, none⟩), .bool true]) ∧ After w.heap.size w w' b bc bf r bs (min n 200) (runS (zs.take (min n 200)) (newS first delay nr))) := by
  have NB := hidden (new_box first hc delay nr w hT)
  have hn0 : 0 < w.heap.size := by have := cell_lt (hT 0 (by decide)); exact this
  have NR := hidden (fun (w1 : World) (h : w.heap.size ≤ w1.heap.size) => r_new first hc delay nr w1 (by omega))
  have HZ := hidden hz
  have hnb := hz.2.2.1
  clear hz
  have BT := hidden (fun (w1 w2 : World) (b bc bf r bs : Nat) hd h1 m1 h2 m2 => both (w := w) (w1 := w1) (w2 := w2) (b := b) (bc := bc) (bf := bf) (r := r) (bs := bs) hc delay nr hd h1 m1 h2 m2)
  go_enter Tryd.func13, Tryd.ntmps13
  generalize (first : Int) = fI at *
  go_wp2_with fail
  refine Calls.mono NB.out ?_
  rintro e w1 (⟨hno, rfl, rfl⟩ | ⟨hd, b, bc, bf, rfl, hC1, hB1⟩)
  · go_wp2_with fail
    refine Calls.mono (NR.out _ (Nat.le_refl _)) ?_
    rintro e w2 (⟨_, rfl, rfl⟩ | ⟨hd, _⟩)
    · go_wp2_with fail
      go_loopw [15] (fun i wr => i = .int .i64 0 ∧ w = wr) (fun i wr => 0)
      case atStart => exact ⟨rfl, rfl⟩
      case round =>
        obtain ⟨rfl, rfl⟩ := hrel
        go_wp2
        go_ret3
        exact .inl ⟨rfl, Below.refl _ _⟩
    · exact absurd hd hno
  · have HC1 := hidden hC1
    have HB1 := hidden hB1
    clear hC1 hB1
    go_wp2_with fail
    refine Calls.mono (NR.out _ HB1.out.size) ?_
    rintro e w2 (⟨hno, _⟩ | ⟨_, r, bs, rfl, hR2, hB2⟩)
    · exact absurd hd hno
    have AF := hidden (BT.out _ _ _ _ _ _ _ hd HC1.out HB1.out hR2 hB2)
    clear hR2 hB2
    go_wp2_with fail
    go_loopw [15] (fun i wr => ∃ k : Nat, k ≤ min n 200 ∧ i = .int .i64 (k : Int) ∧ Hid (After w.heap.size w wr b bc bf r bs k (runS (zs.take k) (newS fI delay nr)))) (fun i wr => 200 - (intOf i).toNat)
    case atStart => exact ⟨0, by omega, rfl, AF⟩
    case round =>
      obtain ⟨k, hk, rfl, hA⟩ := hrel
      by_cases hlt : k < min n 200
      · have h1 : (k : Int) < (n : Int) := by omega
        have h2 : (k : Int) < 200 := by omega
        have hA0 := hA.out
        obtain ⟨v, fx, dp, P, hX, hB⟩ := hA0
        obtain ⟨bb, off, z, rfl, hzk, c0, c1, c2, hrow⟩ := HZ.out.at hB (j := k) (by omega)
        have AC := hidden (act hX (by omega) z hrow)
        have LD := hidden (ld_op z.a z.m z.cap c0 c1 c2)
        have ST := hidden (fun (x : World) (h : After w.heap.size wr x b bc bf r bs (k + 1) (actS z (runS (zs.take k) (newS fI delay nr)))) => (by
          obtain ⟨v, fx, dp, P, hX, hB2⟩ := h
          rw [runS_take hzk]
          exact ⟨v, fx, dp, P, hX, hB.trans hB2⟩ : After w.heap.size w x b bc bf r bs (k + 1) (runS (zs.take (k + 1)) (newS fI delay nr))))
        clear hX hB c0 c1 c2 hrow hA
        have hlk : k < n := by omega
        go_wp2_with (first | (refine wpList_ldA rfl 35 _ rfl rfl LD.out ?_) | fail)
        refine Calls.mono AC.out ?_
        rintro e x ⟨rfl, hx⟩
        have FN := hidden (ST.out x hx)
        clear hx
        go_wp2
        go_roundw
        case rel => exact ⟨k + 1, by omega, rfl, FN⟩
        case measure => simp only [intOf]; omega
      · have hk2 : k = min n 200 := by omega
        have FN := hidden (show After w.heap.size w wr b bc bf r bs (min n 200) (runS (zs.take (min n 200)) (newS fI delay nr)) by rw [← hk2]; exact hA.out)
        clear hA
        by_cases hn2 : k < n
        · have h1 : (k : Int) < (n : Int) := by omega
          have h2 : ¬ (k : Int) < 200 := by omega
          go_wp2
          go_ret3
          exact .inr ⟨_, _, _, _, rfl, _, FN.out⟩
        · have h1 : ¬ (k : Int) < (n : Int) := by omega
          go_wp2
          go_ret3
          exact .inr ⟨_, _, _, _, rfl, _, FN.out⟩
end Go.Proofs.YtdifceikfnnfeaaDoor.Sp.Inb
