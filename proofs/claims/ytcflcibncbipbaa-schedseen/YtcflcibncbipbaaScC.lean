/-
  The paths of one state among those in question, and the class.
  Conditions: as at each lemma.
-/
import Derived.Test.YtcflcibncbipbaaScB
namespace Go.Proofs.Ytcflcibncbipbaa.Sc
open Go.ChangeShapes Go.WideShapes Go.ChangeAt Go.RowKit
open Ba (hidden Has Only)
open Ow (Own)
set_option linter.unusedVariables false

/-- a function that is asked for each path's number, in whatever world behind w -/
def Ask (w : World) (n f : Nat) (cb : Array Value) (r : Int → Value) : Prop := ∀ W, Below w.heap.size w W → ∀ x : Int, 0 ≤ x → x < n → Calls Try.prog f (#[.int .i64 x] ++ cb) W fun e w' => e = .returned (r x) ∧ W = w'
theorem Ask.later {w w' : World} {n f : Nat} {cb : Array Value} {r : Int → Value} (h : Ask w n f cb r) (hB : Below w.heap.size w w') : Ask w' n f cb r := fun W hW => h W (hB.trans (hW.mono hB.size))
def ofU (s : Int) (q : Nat → Bool) (vs : List Vw) (k : Nat) : List Int := upto (fun k => decide (stt vs k = s) && q k) k
theorem ofU_t {s : Int} {q : Nat → Bool} {vs : List Vw} {k : Nat} (h : stt vs k = s) (hq : q k = true) : ofU s q vs (k + 1) = ofU s q vs k ++ [(k : Int)] := upto_t (by rw [decide_eq_true h, hq]; rfl)
theorem ofU_f {s : Int} {q : Nat → Bool} {vs : List Vw} {k : Nat} (h : ¬ stt vs k = s) : ofU s q vs (k + 1) = ofU s q vs k := upto_f (by rw [decide_eq_false h]; rfl)
theorem ofU_q {s : Int} {q : Nat → Bool} {vs : List Vw} {k : Nat} (hq : q k = false) : ofU s q vs (k + 1) = ofU s q vs k := upto_f (by rw [hq, Bool.and_false])
section
variable {w0 w : World} {a : Option Addr} {n cap vb qb lb qf : Nat} {vs : List Vw} {cb : Array Value} {q : Nat → Bool}
/-- what is kept while the class is told -/
def Cl (w0 w : World) (lb qb vb : Nat) (v fv sv : Value) (k : Nat) (l : List Int) : Prop :=
  lb ≠ qb ∧ lb ≠ vb ∧ w.ownsRow w0.heap.size 3 1 v k (lc l) ∧ Own w0 w [(lb, #[v], 23), (qb, #[fv], 47), (vb, #[sv], 22)]
set_option maxHeartbeats 1000000 in
theorem take_ {v : Value} {k : Nat} {l : List Int} (h : Vs w0 a n vs) (h8 : n ≤ 8) (hq : Ask w0 n qf cb fun x => .bool (q x.toNat)) (eg : ∀ args w, (callFunc qf args).run Try.prog w = .ok (.enter qf args) w) (hC : Cl w0 w lb qb vb v (.func (.func qf) #[] cb) (.slice a n cap) k l) (s : Int) :
    Calls Try.prog 34 #[.int .i64 s, .pointer (some ⟨vb, 0, none⟩), .pointer (some ⟨qb, 0, none⟩), .pointer (some ⟨lb, 0, none⟩)] w fun e w' => e = .returned (.tuple #[]) ∧ ∃ v' k', Cl w0 w' lb qb vb v' (.func (.func qf) #[] cb) (.slice a n cap) k' (stp s q vs l) := by
  obtain ⟨n1, n2, hown, hO⟩ := hC
  have H := hidden h
  have HL := hidden h.len
  have HQ := hidden hq
  have N1 := hidden n1
  have N2 := hidden n2
  have vc := hO.cell (.tail _ (.tail _ (.head _))) 0 rfl
  have O := hidden hO
  have R := hidden hown
  have F0 := hidden (show w.ownsRow w.heap.size 3 1 (.slice none 0 0) 0 (lc []) from World.ownsRow_nil _ _ _ _)
  clear h hq hown hO n1 n2
  go_enter Try.func34, Try.ntmps34
  go_wp2_with fail
  go_loopw [5, 10] (fun vf i wr => ∃ j : Int, 0 ≤ j ∧ j ≤ (n : Int) ∧ i = .int .i64 j ∧ ∃ kf : Nat, Hid ((kf : Int) ≤ j) ∧ Hid (Below w.heap.size w wr) ∧ Hid (wr.ownsRow w.heap.size 3 1 vf kf (lc (ofU s q vs j.toNat)))) (fun _ i _ => n - (intOf i).toNat)
  case atStart => exact ⟨0, by omega, by omega, rfl, 0, by show ((0 : Nat) : Int) ≤ 0; omega, Below.refl _ w, F0.out⟩
  case round =>
    clear F0 vc
    obtain ⟨j, j1, j2, rfl, kf, K, B, FO⟩ := hrel
    have O1 := hidden (O.out.later B.out)
    have qc := O1.out.cell (.tail _ (.head _)) 0 rfl
    have qlt := O1.out.lt (.tail _ (.head _))
    by_cases hj : j < (n : Int)
    · obtain ⟨b, off, rfl, hb⟩ := Vs.open H.out (by omega)
      obtain ⟨c0, c1, c2, c3⟩ := Vs.get (H.out.later O1.out.below) (q := j.toNat) (by omega)
      have hbl := Nat.lt_of_lt_of_le hb O1.out.below.size
      have TJ : Hid ((j + 1).toNat = j.toNat + 1) := by show (j + 1).toNat = j.toNat + 1; omega
      have CJ : Hid (((j.toNat : Nat) : Int) = j) := by show ((j.toNat : Nat) : Int) = j; omega
      obtain ⟨w1, hw1⟩ : ∃ w1, (wr.alloc (.cells #[.int .i64 (stt vs j.toNat), .int .i64 (spc vs j.toNat), .int .i64 (trp vs j.toNat), .bool (shr vs j.toNat)] 42)) = w1 := ⟨_, rfl⟩
      have BA := hidden (show Below wr.heap.size wr w1 from hw1 ▸ (Below.refl wr.heap.size wr).alloc (Nat.le_refl _) _)
      have AQ := hidden (show Calls Try.prog qf (#[.int .i64 j] ++ cb) (wr.alloc (.cells #[.int .i64 (stt vs j.toNat), .int .i64 (spc vs j.toNat), .int .i64 (trp vs j.toNat), .bool (shr vs j.toNat)] 42)) fun e w' => e = .returned (.bool (q j.toNat)) ∧ w1 = w' from (HQ.out (wr.alloc (.cells #[.int .i64 (stt vs j.toNat), .int .i64 (spc vs j.toNat), .int .i64 (trp vs j.toNat), .bool (shr vs j.toNat)] 42)) (O1.out.below.trans ((hw1.symm ▸ BA.out : Below wr.heap.size wr (wr.alloc (.cells #[.int .i64 (stt vs j.toNat), .int .i64 (spc vs j.toNat), .int .i64 (trp vs j.toNat), .bool (shr vs j.toNat)] 42))).mono O1.out.below.size)) j j1 hj).mono fun e w' h => ⟨h.1, hw1.symm.trans h.2⟩)
      have HW := hidden hw1
      clear hw1
      by_cases hs : stt vs j.toNat = s
      · have HS := hidden hs
        rw [hs] at c0 AQ
        clear hs
        cases hqj : q j.toNat with
        | false =>
          have HN : Hid (ofU s q vs (j + 1).toNat = ofU s q vs j.toNat) := by
            show ofU s q vs (j + 1).toNat = _
            rw [TJ.out]
            exact ofU_q hqj
          rw [hqj] at AQ
          clear hqj
          go_wp2_with fail
          refine Calls.mono AQ.out ?_
          rintro e w1 ⟨rfl, rfl⟩
          clear AQ
          go_wp2
          go_roundw
          case rel => exact ⟨j + 1, by omega, by omega, rfl, kf, by have := K.out; show (kf : Int) ≤ j + 1; omega, B.out.trans (BA.out.mono B.out.size), by show (World.ownsRow _ _ _ _ _ _ (lc (ofU s q vs (j + 1).toNat))); rw [HN.out]; exact row_below FO.out BA.out⟩
          case measure => simp [intOf]; omega
        | true =>
          have HN : Hid (ofU s q vs (j + 1).toNat = ofU s q vs j.toNat ++ [j]) := by
            show ofU s q vs (j + 1).toNat = _
            rw [TJ.out, ofU_t HS.out hqj, CJ.out]
          rw [hqj] at AQ
          clear hqj
          have FO1 := row_below FO.out BA.out
          have B1 := B.out.trans (BA.out.mono B.out.size)
          obtain ⟨v', w2, hr, hown2, hgr, hwh⟩ := app1 FO1 (by have := K.out; omega) B1.size j
          have B2 := hidden (B1.trans (grown_below hgr B1.size fun g hg => (own_base FO1 g hg).1))
          rw [← HN.out] at hown2
          have R2 := hidden hown2
          have HR := hidden hr
          clear hown2 hr hgr hwh FO1 B1
          go_wp2_with fail
          refine Calls.mono AQ.out ?_
          rintro e w1 ⟨rfl, rfl⟩
          clear AQ
          go_wp2_with (first | (at_builtin; refine Rg.wpList_app rfl (.tmp 24) (.tmp 26) 23 rfl rfl rfl HR.out ?_; clear HR) | go_in)
          go_wp2
          go_roundw
          case rel => exact ⟨j + 1, by omega, by omega, rfl, kf + 1, by have := K.out; show ((kf + 1 : Nat) : Int) ≤ j + 1; omega, B2.out, R2.out⟩
          case measure => simp [intOf]; omega
      · have HN : Hid (ofU s q vs (j + 1).toNat = ofU s q vs j.toNat) := by
          show ofU s q vs (j + 1).toNat = _
          rw [TJ.out]
          exact ofU_f hs
        clear AQ
        go_wp2
        rw [HW.out]
        go_roundw
        case rel => exact ⟨j + 1, by omega, by omega, rfl, kf, by have := K.out; show (kf : Int) ≤ j + 1; omega, B.out.trans (BA.out.mono B.out.size), by show (World.ownsRow _ _ _ _ _ _ (lc (ofU s q vs (j + 1).toNat))); rw [HN.out]; exact row_below FO.out BA.out⟩
        case measure => simp [intOf]; omega
    · obtain rfl : j = (n : Int) := by omega
      have EO : Hid (ofU s q vs ((n : Int)).toNat = of s q vs) := by
        show ofU s q vs ((n : Int)).toNat = _
        rw [show ((n : Int)).toNat = vs.length by have := HL.out; omega]
        rfl
      have FO1 := FO.out
      rw [EO.out] at FO1
      obtain ⟨a', cap', rfl⟩ := Ba.own_len FO1
      have hlen : (of s q vs).length = kf := by have := FO1.1; rw [lc_len] at this; omega
      have O2 := O.out.later B.out
      have lf := O2.frozen (.head _) 0
      have lc0 := O2.cell (.head _) 0 rfl
      by_cases hk : 0 < kf
      · have E1 : stp s q vs l = of s q vs := stp_some fun e => by rw [e] at hlen; simp at hlen; omega
        have O3 := O2.set 0 (.slice a' kf cap') (by
          intro x hx
          have e1 : lb ≠ qb := N1.out
          have e2 : lb ≠ vb := N2.out
          rcases List.mem_cons.1 hx with rfl | hx
          · exact fun e => e1 e.symm
          · rcases List.mem_cons.1 hx with rfl | hx
            · exact fun e => e2 e.symm
            · cases hx)
        have hne : ∀ g, (Value.slice a' kf cap').ownBlock = some g → g ≠ lb := fun g hg e => by
          have := (own_base FO1 g hg).1
          have := O.out.lt (.head _)
          omega
        have R3 : (wr.setCell ⟨lb, 0, none⟩ (.slice a' kf cap')).ownsRow w0.heap.size 3 1 (.slice a' kf cap') kf (lc (of s q vs)) := Ba.own_mono (Ba.own_stay FO1 (Only.setCell (F := [lb]) wr (by simp) _) (fun g hg => by simpa using hne g hg)) (fun g hg => by
          have := (own_base FO1 g hg).1
          have := O.out.below.size
          omega)
        have END := hidden (show Cl w0 (wr.setCell ⟨lb, 0, none⟩ (.slice a' kf cap')) lb qb vb (.slice a' kf cap') (.func (.func qf) #[] cb) (.slice a n cap) kf (stp s q vs l) from ⟨N1.out, N2.out, by rw [E1]; exact R3, O3⟩)
        clear O2 O3 R3 FO1 hne E1 EO FO
        have hk' : (kf : Int) > 0 := by omega
        go_wp2
        go_end0
        exact ⟨rfl, _, _, END.out⟩
      · obtain rfl : kf = 0 := by omega
        have E1 : stp s q vs l = l := stp_nil (List.length_eq_zero_iff.1 hlen)
        have END := hidden (show Cl w0 wr lb qb vb v (.func (.func qf) #[] cb) (.slice a n cap) k (stp s q vs l) from ⟨N1.out, N2.out, by rw [E1]; exact row_below R.out B.out, O2⟩)
        clear O2 FO1 E1 EO FO
        go_wp2
        go_end0
        exact ⟨rfl, _, _, END.out⟩
end
end Go.Proofs.Ytcflcibncbipbaa.Sc
