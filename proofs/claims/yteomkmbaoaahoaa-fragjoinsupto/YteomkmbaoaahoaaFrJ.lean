/-
  The document's Join.
  Conditions: as at each lemma.
-/
import Derived.Test.YteomkmbaoaahoaaFrC
namespace Go.Proofs.Yteomkmbaoaahoaa.Fr
open Go.ChangeShapes Go.WideShapes Go.ChangeAt Go.RowKit
open Ba (hidden Has Only cell_lt heap_lt)
open Ow (Own)
set_option linter.unusedVariables false
set_option maxRecDepth 20000

/-- bytes taken so far: all, or more than a message may have -/
def Took (vs : List V) (k : Nat) (bs : List Int) : Prop := ∃ m, m ≤ k ∧ bs = flat (vs.take m) ∧ (m = k ∨ 65536 < bs.length)
theorem Took.next {vs : List V} {k : Nat} {bs : List Int} {v : V} (h : Took vs k bs) (hl : bs.length ≤ 65536) (hv : vs[k]? = some v) : Took vs (k + 1) (bs ++ v.2.2) := by
  obtain ⟨m, _, rfl, hm⟩ := h
  obtain rfl : m = k := by omega
  exact ⟨m + 1, Nat.le_refl _, (flat_next hv).symm, .inl rfl⟩
theorem Took.stay {vs : List V} {k : Nat} {bs : List Int} (h : Took vs k bs) (hl : 65536 < bs.length) : Took vs (k + 1) bs := by
  obtain ⟨m, h1, rfl, hm⟩ := h
  exact ⟨m, by omega, rfl, .inr hl⟩
theorem Took.end {vs : List V} {k : Nat} {bs : List Int} (h : Took vs k bs) (hk : vs.length ≤ k) : (bs.length ≤ 65536 → bs = flat vs ∧ (flat vs).length ≤ 65536) ∧ (65536 < bs.length → 65536 < (flat vs).length) := by
  obtain ⟨m, h1, rfl, hm⟩ := h
  have := flat_take_le vs m
  refine ⟨fun h => ?_, fun h => by omega⟩
  obtain rfl : m = k := by omega
  have e : vs.take m = vs := List.take_of_length_le hk
  rw [e] at h ⊢
  exact ⟨rfl, h⟩
theorem Took.le {vs : List V} {k : Nat} {bs : List Int} (h : Took vs k bs) : bs.length ≤ (flat vs).length := by
  obtain ⟨m, h1, rfl, hm⟩ := h
  exact flat_take_le vs m
theorem badP_or {n k : Nat} {bg en : Bool} {zs : List Int} : badP n k (bg, en, zs) = (decide (zs.length = 0) || (bg != decide (k = 0)) || (en && decide (k + 1 < n))) := rfl
theorem lastEnd_at' {vs : List V} {m : Nat} {v : V} (hl : vs.length = m + 1) (hv : vs[m]? = some v) : lastEnd vs = v.2.1 := by
  unfold lastEnd
  rw [hl, Nat.add_sub_cancel, hv]
  rfl
/-- what the document's Join tells -/
def RJO (w : World) (vs : List V) (e : Ending) (w' : World) : Prop := ∃ (v : Value) (bs : List Int) (i : Nat) (er : Int), e = .returned (.tuple #[v, .int .i64 (i : Int), .int .i64 er]) ∧ JO vs bs i er ∧ Mine w.heap.size w' v bs ∧ Below w.heap.size w w'
theorem RJO.no {w w' : World} {vs : List V} {i : Nat} {er : Int} (hb : Below w.heap.size w w') (hj : JO vs [] i er) : RJO w vs (.returned (.tuple #[.slice none 0 0, .int .i64 (i : Int), .int .i64 er])) w' := ⟨_, _, i, er, rfl, hj, ⟨World.ownsRow_nil _ _ _ _, Bytes.nil, by simp⟩, hb⟩
section
variable {w : World} {pa : Option Addr} {n pcap : Nat} {vs : List V}
set_option maxHeartbeats 4000000 in
theorem rjoin (hp : Pcs w pa n vs) (ht : (flat vs).length ≤ 140737488355328) : Calls Try.prog 16 #[.slice pa n pcap] w fun e w' => RJO w vs e w' := by
  have H := hidden hp
  have HT := hidden ht
  have hpl := hp.1
  have hnl := hp.2.1
  clear hp ht
  go_enter Try.func16, Try.ntmps16
  go_wp2_with fail
  go_loopw [5, 6] (fun v i wr => ∃ (k : Nat) (bs : List Int) (a : Option Addr) (len cap : Nat), k ≤ n ∧ i = .int .i64 k ∧ v = .slice a len cap ∧ Hid (bs.length = len) ∧ len ≤ 140737488355328 ∧ Hid (NoBad vs k) ∧ Hid (Took vs k bs) ∧ Hid (Mine w.heap.size wr v bs) ∧ Hid (Below w.heap.size w wr)) (fun _ i _ => n - (intOf i).toNat)
  case atStart => exact ⟨0, [], none, 0, 0, Nat.zero_le _, rfl, rfl, rfl, by decide, NoBad.zero _, ⟨0, Nat.le_refl _, by simp [flat], .inl rfl⟩, ⟨World.ownsRow_nil _ _ _ _, Bytes.nil, by simp⟩, Below.refl _ _⟩
  case round =>
    obtain ⟨k, bs, ba, bl, bc, hk, rfl, rfl, HL, hbl, NB, TK, MB, HB⟩ := hrel
    rcases Nat.lt_or_ge k n with hlt | hge
    · have hki : (k : Int) < n := by omega
      obtain ⟨b, off, bg, en, zs, a, cap, rfl, hpk, c0, c1, c2, hr⟩ := (H.out.later HB.out).get hlt
      obtain ⟨t, ht⟩ : ∃ t : Bool, ((k : Int) == 0) = t := ⟨_, rfl⟩
      have e1 : decide (k = 0) = t := by
        rw [← ht, Bool.eq_iff_iff, beq_iff_eq, decide_eq_true_eq]
        omega
      have HBAD := hidden (badP_or (n := vs.length) (k := k) (bg := bg) (en := en) (zs := zs))
      rw [e1, hpl] at HBAD
      have HJ : Hid (badP n k (bg, en, zs) = true → RJO w vs (.returned (.tuple #[.slice none 0 0, .int .i64 (k : Int), .int .i64 150])) wr) := fun h => RJO.no HB.out (.inl ⟨k, _, hpk, by rw [hpl]; exact h, NB.out, rfl, rfl, rfl⟩)
      have HN : Hid (badP n k (bg, en, zs) = false → NoBad vs (k + 1)) := fun h => NB.out.next hpk (by rw [hpl]; exact h)
      by_cases hz : zs.length = 0
      · have HF := hidden (HJ.out (by rw [HBAD.out, decide_eq_true hz]; rfl))
        rw [hz] at c2
        clear hpk hr HBAD HJ HN NB TK MB HB e1
        go_wp2
        go_ret3
        exact HF.out
      · have hz2 : ¬ (zs.length : Int) = 0 := by omega
        have hzl : zs.length ≤ 140737488355328 := hr.2.2.1
        have hzb : ((zs.length : Int) == 0) = false := by simpa using hz2
        rw [decide_eq_false hz] at HBAD
        cases hbt : (bg != t) with
        | true =>
          rw [hbt] at HBAD
          have HF := hidden (HJ.out (by rw [HBAD.out]; rfl))
          clear hpk hr HBAD HJ HN NB TK MB HB e1
          cases bg <;> cases t <;> first | (exfalso; simp at hbt; done) | (clear hbt; go_wp2; go_ret3; exact HF.out)
        | false =>
          rw [hbt] at HBAD
          obtain rfl : bg = t := by simpa using hbt
          clear hbt
          by_cases hen : en = true ∧ k + 1 < n
          · obtain ⟨rfl, hkn⟩ := hen
            have hkn2 : (k : Int) < (n : Int) - 1 := by omega
            have HF := hidden (HJ.out (by rw [HBAD.out, decide_eq_true hkn]; rfl))
            clear hpk hr HBAD HJ HN NB TK MB HB e1
            go_wp2
            go_ret3
            exact HF.out
          · have HN2 := hidden (HN.out (by
              rw [HBAD.out]
              cases en with
              | false => rfl
              | true => rw [decide_eq_false (fun h => hen ⟨rfl, h⟩)]; rfl))
            have hz3 : 0 < zs.length := by omega
            obtain ⟨za, zo, rfl⟩ := hr.open hz3
            by_cases hb6 : bl ≤ 65536
            · have hb7 : (bl : Int) ≤ 65536 := by omega
              have TK2 := hidden (TK.out.next (by rw [HL.out]; exact hb6) hpk)
              have hln := TK2.out.le
              rw [List.length_append, HL.out] at hln
              obtain ⟨v3, w3, hrun, m3, g3⟩ := app_bytes (c := cap) MB.out hr (.inl hz3) (by rw [HL.out]; have := HT.out; simp only at hln; omega) HB.out.size
              have HB3 := hidden (HB.out.grown g3 HB.out.size (fun j hj => (MB.out.1.lt j hj).1))
              obtain ⟨a3, c3, rfl, _⟩ := m3.row
              have hl3 := m3.2.2
              obtain ⟨l3, hl4⟩ : ∃ l, l = (bs ++ zs).length := ⟨_, rfl⟩
              rw [← hl4] at hrun hl3
              have m4 := m3
              rw [← hl4] at m4
              have HL4 := hidden hl4.symm
              clear hl4
              have FIN : Hid (∃ (k' : Nat) (bs' : List Int) (a' : Option Addr) (len' cap' : Nat), k' ≤ n ∧ Value.int .i64 ((k : Int) + 1) = .int .i64 k' ∧ Value.slice a3 l3 c3 = .slice a' len' cap' ∧ Hid (bs'.length = len') ∧ len' ≤ 140737488355328 ∧ Hid (NoBad vs k') ∧ Hid (Took vs k' bs') ∧ Hid (Mine w.heap.size w3 (.slice a3 l3 c3) bs') ∧ Hid (Below w.heap.size w w3)) :=
                ⟨k + 1, bs ++ zs, a3, l3, c3, by omega, by go_num, rfl, HL4.out, hl3, HN2.out, TK2.out, m4, HB3.out⟩
              have HR := hidden hrun
              clear hpk hr HBAD HJ HN NB TK MB HB e1 m3 m4 g3 HB3 TK2 HN2 hrun hln
              by_cases he : en = true
              · subst he
                have hkn2 : ¬ (k : Int) < (n : Int) - 1 := fun h => hen ⟨rfl, by omega⟩
                go_wp2_with (at_builtin; refine Rg.wpList_app rfl _ _ _ rfl rfl rfl HR.out ?_; clear HR)
                go_wp2
                go_roundw
                case rel => exact FIN.out
                case measure => simp [intOf]; omega
              · have he2 : en = false := by simpa using he
                subst he2
                go_wp2_with (at_builtin; refine Rg.wpList_app rfl _ _ _ rfl rfl rfl HR.out ?_; clear HR)
                go_wp2
                go_roundw
                case rel => exact FIN.out
                case measure => simp [intOf]; omega
            · have hb7 : ¬ (bl : Int) ≤ 65536 := by omega
              have FIN : Hid (∃ (k' : Nat) (bs' : List Int) (a' : Option Addr) (len' cap' : Nat), k' ≤ n ∧ Value.int .i64 ((k : Int) + 1) = .int .i64 k' ∧ Value.slice ba bl bc = .slice a' len' cap' ∧ Hid (bs'.length = len') ∧ len' ≤ 140737488355328 ∧ Hid (NoBad vs k') ∧ Hid (Took vs k' bs') ∧ Hid (Mine w.heap.size wr (.slice ba bl bc) bs') ∧ Hid (Below w.heap.size w wr)) :=
                ⟨k + 1, bs, ba, bl, bc, by omega, by go_num, rfl, HL.out, hbl, HN2.out, TK.out.stay (by rw [HL.out]; omega), MB.out, HB.out⟩
              clear hpk hr HBAD HJ HN NB TK MB HB e1 HN2
              by_cases he : en = true
              · subst he
                have hkn2 : ¬ (k : Int) < (n : Int) - 1 := fun h => hen ⟨rfl, by omega⟩
                go_wp2
                go_roundw
                case rel => exact FIN.out
                case measure => simp [intOf]; omega
              · have he2 : en = false := by simpa using he
                subst he2
                go_wp2
                go_roundw
                case rel => exact FIN.out
                case measure => simp [intOf]; omega
    · obtain rfl : k = n := by omega
      have NBA : Hid (NoBad vs vs.length) := NB.out.full (by omega)
      have TE := hidden (TK.out.end (by omega))
      rw [HL.out] at TE
      rcases Nat.eq_zero_or_pos k with rfl | hpos
      · obtain rfl := List.eq_nil_of_length_eq_zero hpl
        have HF : Hid (RJO w [] (.returned (.tuple #[.slice none 0 0, .int .i64 ((0 : Nat) : Int), .int .i64 150])) wr) := RJO.no HB.out (.inr (.inl ⟨NBA.out, rfl, rfl, rfl, rfl⟩))
        clear NB TK MB HB TE
        go_wp2
        go_ret3
        exact HF.out
      · obtain ⟨m, hm⟩ : ∃ m, k = m + 1 := ⟨k - 1, by omega⟩
        obtain ⟨b, off, bg, en, zs, a, cap, rfl, hpk, c0, c1, c2, hr⟩ := (H.out.later HB.out).get (k := m) (by omega)
        have HLE := hidden (lastEnd_at' (by omega) hpk)
        simp only at HLE
        have hmk : m < k := by omega
        have hmi : (k : Int) - 1 = (m : Int) := by omega
        have hk0 : ¬ (k : Int) = 0 := by omega
        clear hm
        cases en with
        | false =>
          have HF : Hid (RJO w vs (.returned (.tuple #[.slice none 0 0, .int .i64 (k : Int), .int .i64 150])) wr) := RJO.no HB.out (.inr (.inl ⟨NBA.out, HLE.out, rfl, hpl.symm, rfl⟩))
          clear NB TK MB HB TE hpk hr
          go_wp2
          go_ret3
          exact HF.out
        | true =>
          by_cases hb6 : bl ≤ 65536
          · have hb7 : ¬ (65536 : Int) < bl := by omega
            have HF : Hid (RJO w vs (.returned (.tuple #[.slice ba bl bc, .int .i64 ((0 : Nat) : Int), .int .i64 0])) wr) := ⟨_, bs, 0, 0, rfl, .inr (.inr (.inr ⟨NBA.out, HLE.out, (TE.out.1 hb6).2, (TE.out.1 hb6).1, rfl, rfl⟩)), MB.out, HB.out⟩
            clear NB TK MB HB TE hpk hr
            go_wp2
            go_ret3
            exact HF.out
          · have hb7 : (65536 : Int) < bl := by omega
            have HF : Hid (RJO w vs (.returned (.tuple #[.slice none 0 0, .int .i64 ((0 : Nat) : Int), .int .i64 2])) wr) := RJO.no HB.out (.inr (.inr (.inl ⟨NBA.out, HLE.out, TE.out.2 (by omega), rfl, rfl, rfl⟩)))
            clear NB TK MB HB TE hpk hr
            go_wp2
            go_ret3
            exact HF.out
end
end Go.Proofs.Yteomkmbaoaahoaa.Fr
