/-
  The document's path of a chunk that is sent anew; equal rows; that the program answers at all.
  Conditions: as at each lemma.
-/
import Derived.Test.YtcflcibncbipbaaScL
import Derived.Test.YtcflcibncbipbaaScO
namespace Go.Proofs.Ytcflcibncbipbaa.Sc
open Go.ChangeShapes Go.WideShapes Go.ChangeAt Go.RowKit Go.Sort Go.Lib
open Ba (hidden Has Only)
open Ow (Own)
set_option linter.unusedVariables false

theorem take_next {G : List Int} {q : Nat} {z : Int} (h : G[q]? = some z) : G.take (q + 1) = G.take q ++ [z] := by
  rw [List.take_add_one, h]
  rfl
theorem take_same {xs ys : List Int} {q : Nat} {x y : Int} (h : xs.take q = ys.take q) (hx : xs[q]? = some x) (hy : ys[q]? = some y) (e : x = y) : xs.take (q + 1) = ys.take (q + 1) := by
  rw [take_next hx, take_next hy, h, e]
section
variable {w : World} {a a2 : Option Addr} {n cap n2 cap2 : Nat} {xs ys : List Int}
theorem same (h : Nu w a n xs) (h2 : Nu w a2 n2 ys) : Calls Try.prog 12 #[.slice a n cap, .slice a2 n2 cap2] w fun e w' => e = .returned (.bool (decide (xs = ys))) ∧ Below w.heap.size w w' := by
  have hl := h.len
  have hl2 := h2.len
  have hn : n ≤ 140737488355328 := h.2.2.1
  have hn2 : n2 ≤ 140737488355328 := h2.2.2.1
  by_cases e : n = n2
  · subst e
    have H := hidden h
    have H2 := hidden h2
    have HL := hidden hl
    have HL2 := hidden hl2
    clear h h2 hl hl2
    go_enter Try.func12, Try.ntmps12
    go_wp2_with fail
    go_loopw [5] (fun i wr => ∃ q : Int, 0 ≤ q ∧ q ≤ (n : Int) ∧ i = .int .i64 q ∧ Hid (xs.take q.toNat = ys.take q.toNat) ∧ Hid (Below w.heap.size w wr)) (fun i _ => n - (intOf i).toNat)
    case atStart => exact ⟨0, by omega, by omega, rfl, rfl, Below.refl _ _⟩
    case round =>
      obtain ⟨q, j1, j2, rfl, HU, HB⟩ := hrel
      by_cases hq : q < (n : Int)
      · obtain ⟨b, off, rfl, hb⟩ := Nu.open H.out (by omega)
        obtain ⟨b2, off2, rfl, hb2⟩ := Nu.open H2.out (by omega)
        obtain ⟨x, hx, d0⟩ := Nu.get (H.out.later HB.out) (q := q.toNat) (by omega)
        obtain ⟨y, hy, d1⟩ := Nu.get (H2.out.later HB.out) (q := q.toNat) (by omega)
        by_cases he : x = y
        · have HN : Hid (xs.take (q + 1).toNat = ys.take (q + 1).toNat) := by
            show xs.take (q + 1).toNat = ys.take (q + 1).toNat
            rw [show (q + 1).toNat = q.toNat + 1 by omega]
            exact take_same HU.out hx hy he
          subst he
          clear hx hy
          go_wp2
          go_quiet (fail)
          go_wp2
          go_roundw
          case rel => exact ⟨q + 1, by omega, by omega, rfl, HN.out, below_drewN HB.out _⟩
          case measure => simp [intOf]; omega
        · have HG : Hid (decide (xs = ys) = false) := decide_eq_false fun h => by
            rw [h, hy] at hx
            cases hx
            exact he rfl
          clear hx hy
          go_wp2
          go_quiet (fail)
          go_wp2
          go_ret
          exact ⟨by rw [HG.out]; rfl, below_drewN HB.out _⟩
      · obtain rfl : q = (n : Int) := by omega
        have HG : Hid (decide (xs = ys) = true) := decide_eq_true (by
          have := HU.out
          rw [List.take_of_length_le (by rw [HL.out]; omega), List.take_of_length_le (by rw [HL2.out]; omega)] at this
          exact this)
        go_wp2
        go_ret
        exact ⟨by rw [HG.out]; rfl, HB.out⟩
  · have HG : Hid (decide (xs = ys) = false) := decide_eq_false fun h => e (by rw [← hl, ← hl2, h])
    rw [HG.out]
    have e1 : ¬ ((n : Int) = (n2 : Int)) := by omega
    clear h h2 hl hl2 e
    go_enter Try.func12, Try.ntmps12
    go_wp2
    go_ret
    exact ⟨rfl, Below.refl _ _⟩
end
section
variable {w : World} {a : Option Addr} {n cap : Nat} {vs : List Vw}
set_option maxHeartbeats 1000000 in
theorem rmost (h : Vs w a n vs) (s m : Int) : Calls Try.prog 31 #[.slice a n cap, .int .i64 s, .int .i64 m] w fun e w' => e = .returned (.int .i64 (mst s m vs vs.length)) ∧ Below w.heap.size w w' := by
  have hn : n ≤ 140737488355328 := h.2.2.1
  have H := hidden h
  have HL := hidden h.len
  clear h
  go_enter Try.func31, Try.ntmps31
  go_wp2_with fail
  go_loopw [7, 8] (fun b i wr => ∃ q : Nat, q ≤ n ∧ i = .int .i64 (q : Int) ∧ b = .int .i64 (mst s m vs q) ∧ Hid (Below w.heap.size w wr)) (fun _ i _ => n - (intOf i).toNat)
  case atStart => exact ⟨0, by omega, rfl, rfl, Below.refl _ w⟩
  case round =>
    obtain ⟨q, j2, rfl, rfl, HB⟩ := hrel
    by_cases hq : q < n
    · have hqz : (q : Int) < (n : Int) := by omega
      obtain ⟨r, off, rfl, hr⟩ := Vs.open H.out (by omega)
      obtain ⟨c0, c1, c2, c3⟩ := Vs.get (H.out.later HB.out) (q := q) hq
      have hm := mst_in s m vs q
      clear c2 c3
      have QS : Hid (¬ ((stt vs q = s ∧ (q : Int) ≠ m) ∧ (mst s m vs q < 0 ∨ spc vs (mst s m vs q).toNat < spc vs q)) → mst s m vs (q + 1) = mst s m vs q) := fun e => mst_keep e
      have QT : Hid ((stt vs q = s ∧ (q : Int) ≠ m) ∧ (mst s m vs q < 0 ∨ spc vs (mst s m vs q).toNat < spc vs q) → mst s m vs (q + 1) = q) := fun e => mst_take e
      by_cases hs : stt vs q = s
      · by_cases hne : (q : Int) = m
        · have HN := hidden (QS.out fun h => h.1.2 hne)
          clear QS QT
          rw [hs] at c0
          subst hne
          generalize mst s (q : Int) vs q = M at *
          go_wp2
          go_quiet (fail)
          go_wp2
          go_roundw
          case rel => exact ⟨q + 1, by omega, by first | rfl | simp, by first | rw [HN.out] | (rw [HN.out]; rfl), below_drewN HB.out _⟩
          case measure => simp [intOf]; omega
        · have hne2 : ((q : Int) != m) = true := by simp [hne]
          by_cases hb : mst s m vs q < 0
          · have HN := hidden (QT.out ⟨⟨hs, hne⟩, .inl hb⟩)
            clear QS QT
            rw [hs] at c0
            generalize mst s m vs q = M at *
            go_wp2
            go_quiet (fail)
            go_wp2
            go_roundw
            case rel => exact ⟨q + 1, by omega, by first | rfl | simp, by first | rw [HN.out] | (rw [HN.out]; rfl), below_drewN HB.out _⟩
            case measure => simp [intOf]; omega
          · obtain ⟨d0, d1, d2, d3⟩ := Vs.get (H.out.later HB.out) (q := (mst s m vs q).toNat) (by omega)
            have hb0 : 0 ≤ mst s m vs q := by omega
            have hb1 : mst s m vs q < n := by omega
            clear d0 d2 d3
            by_cases hp : spc vs (mst s m vs q).toNat < spc vs q
            · have HN := hidden (QT.out ⟨⟨hs, hne⟩, .inr hp⟩)
              clear QS QT
              rw [hs] at c0
              generalize mst s m vs q = M at *
              go_wp2
              go_quiet (fail)
              go_wp2
              go_roundw
              case rel => exact ⟨q + 1, by omega, by first | rfl | simp, by first | rw [HN.out] | (rw [HN.out]; rfl), below_drewN HB.out _⟩
              case measure => simp [intOf]; omega
            · have HN := hidden (QS.out fun h => by
                rcases h.2 with h | h
                · exact hb h
                · exact hp h)
              clear QS QT
              rw [hs] at c0
              generalize mst s m vs q = M at *
              go_wp2
              go_quiet (fail)
              go_wp2
              go_roundw
              case rel => exact ⟨q + 1, by omega, by first | rfl | simp, by first | rw [HN.out] | (rw [HN.out]; rfl), below_drewN HB.out _⟩
              case measure => simp [intOf]; omega
      · have HN := hidden (QS.out fun h => hs h.1.1)
        have hs2 : (stt vs q == s) = false := by simp [hs]
        clear QS QT
        generalize stt vs q = S at *
        generalize mst s m vs q = M at *
        go_wp2
        go_quiet (fail)
        go_wp2
        go_roundw
        case rel => exact ⟨q + 1, by omega, by first | rfl | simp, by first | rw [HN.out] | (rw [HN.out]; rfl), below_drewN HB.out _⟩
        case measure => simp [intOf]; omega
    · obtain rfl : q = n := by omega
      have HE : Hid (mst s m vs q = mst s m vs vs.length) := by
        show _ = _
        rw [HL.out]
      generalize mst s m vs q = M at *
      go_wp2
      go_ret
      exact ⟨by rw [← HE.out]; rfl, HB.out⟩
theorem ragain_no (h : Vs w a n vs) (hc : ¬ chk vs = 0) (m : Int) : Calls Try.prog 17 #[.int .i64 m, .slice a n cap] w fun e w' => e = .returned (.tuple #[.int .i64 (agV m vs), .int .i64 (agE m vs)]) ∧ Below w.heap.size w w' := by
  rw [(ag_no hc m).1, (ag_no hc m).2]
  have CK := hidden (rcheck (cap := cap) h)
  generalize chk vs = C at *
  clear h
  go_enter Try.func17, Try.ntmps17
  go_wp2_with fail
  refine Calls.mono CK.out ?_
  rintro e w1 ⟨rfl, hB⟩
  have BE := hidden hB
  clear hB CK
  go_wp2
  go_ret2
  exact ⟨rfl, BE.out⟩
theorem ragain_out (h : Vs w a n vs) (hc : chk vs = 0) {m : Int} (hm : ¬ (0 ≤ m ∧ m ≤ (vs.length : Int) - 1)) : Calls Try.prog 17 #[.int .i64 m, .slice a n cap] w fun e w' => e = .returned (.tuple #[.int .i64 (agV m vs), .int .i64 (agE m vs)]) ∧ Below w.heap.size w w' := by
  rw [(ag_out hc hm).1, (ag_out hc hm).2]
  have hl := h.len
  have hn := h.2.2.1
  have CK := hidden (rcheck (cap := cap) h)
  rw [hc] at CK
  rw [hl] at hm
  clear h hl
  by_cases m0 : m < 0
  · clear hm
    go_enter Try.func17, Try.ntmps17
    go_wp2_with fail
    refine Calls.mono CK.out ?_
    rintro e w1 ⟨rfl, hB⟩
    have BE := hidden hB
    clear hB CK
    go_wp2
    go_ret2
    exact ⟨rfl, BE.out⟩
  · have m1 : m ≥ (n : Int) := by omega
    clear hm
    go_enter Try.func17, Try.ntmps17
    go_wp2_with fail
    refine Calls.mono CK.out ?_
    rintro e w1 ⟨rfl, hB⟩
    have BE := hidden hB
    clear hB CK
    go_wp2
    go_ret2
    exact ⟨rfl, BE.out⟩
set_option maxHeartbeats 1000000 in
theorem ragain_ok (h : Vs w a n vs) (hc : chk vs = 0) {m : Int} (hm : 0 ≤ m ∧ m ≤ (vs.length : Int) - 1) : Calls Try.prog 17 #[.int .i64 m, .slice a n cap] w fun e w' => e = .returned (.tuple #[.int .i64 (agV m vs), .int .i64 (agE m vs)]) ∧ Below w.heap.size w w' := by
  rw [(ag_ok hc hm).1, (ag_ok hc hm).2]
  obtain ⟨h8, hv⟩ := chk_0 hc
  have hl := h.len
  have hn := h.2.2.1
  have CK := hidden (rcheck (cap := cap) h)
  have hst := (ok_at hv (k := m.toNat) (by omega)).1
  rw [hc] at CK
  rw [hl] at hm
  obtain ⟨b, off, rfl, hb⟩ := Vs.open h (by omega)
  have m0 : ¬ m < 0 := by omega
  have m1 : ¬ m ≥ (n : Int) := by omega
  have mi : m < (n : Int) := by omega
  have mp : 0 ≤ m := by omega
  have PH : Hid (∀ s : Int, Past m vs s → 1 ≤ s → s ≤ 3 → 0 ≤ mst s m vs vs.length → (srt (lx (cst 2 m vs)) (agL m vs)).headD m = mst s m vs vs.length) := fun s hp h1 h2 h3 => past_hit hp ⟨h1, h2⟩ hst h3
  have PS : Hid (∀ s : Int, Past m vs s → stt vs m.toNat = s → mst s m vs vs.length < 0 → (srt (lx (cst 2 m vs)) (agL m vs)).headD m = m) := fun s hp h1 h2 => past_self hp hst h1 h2
  generalize (srt (lx (cst 2 m vs)) (agL m vs)).headD m = V at *
  have H := hidden h
  have HS := hidden hst
  clear h h8 hv hl hst hc hm
  go_enter Try.func17, Try.ntmps17
  go_wp2_with fail
  refine Calls.mono CK.out ?_
  rintro e w1 ⟨rfl, hB⟩
  have B1 := hidden hB
  clear hB CK
  go_wp2_with fail
  go_loopw [7] (fun i wr => ∃ s : Int, 1 ≤ s ∧ s ≤ 4 ∧ i = .int .i64 s ∧ Hid (Past m vs s) ∧ Hid (Below w.heap.size w wr)) (fun i _ => 4 - (intOf i).toNat)
  case atStart => exact ⟨1, by omega, by omega, rfl, fun t t1 t2 => by omega, B1.out⟩
  case round =>
    clear B1
    obtain ⟨s, s1, s4, rfl, HP, HB⟩ := hrel
    by_cases hs : s ≤ 3
    · have MO := hidden (rmost (cap := cap) (H.out.later HB.out) s m)
      have PN : Hid (mst s m vs vs.length < 0 → stt vs m.toNat ≠ s → Past m vs (s + 1)) := fun h1 h2 => past_next HP.out h1 h2
      have PH1 : Hid (0 ≤ mst s m vs vs.length → V = mst s m vs vs.length) := fun h3 => PH.out s HP.out s1 hs h3
      have PS1 : Hid (stt vs m.toNat = s → mst s m vs vs.length < 0 → V = m) := fun h1 h2 => PS.out s HP.out h1 h2
      generalize mst s m vs vs.length = M at *
      by_cases hM : M ≥ 0
      · have HE := hidden (PH1.out hM)
        go_wp2_with fail
        refine Calls.mono MO.out ?_
        rintro e w2 ⟨rfl, hB⟩
        have BE := hidden (HB.out.trans (hB.mono HB.out.size))
        clear hB MO
        go_wp2
        go_ret2
        exact ⟨by rw [HE.out]; rfl, BE.out⟩
      · have hM' : M < 0 := by omega
        by_cases hsm : stt vs m.toNat = s
        · have HE := hidden (PS1.out hsm hM')
          go_wp2_with fail
          refine Calls.mono MO.out ?_
          rintro e w2 ⟨rfl, hB⟩
          have BE := hidden (HB.out.trans (hB.mono HB.out.size))
          clear hB MO
          obtain ⟨c0, c1, c2, c3⟩ := Vs.get (H.out.later BE.out) (q := m.toNat) (by omega)
          rw [hsm] at c0
          clear c1 c2 c3 hsm
          go_wp2
          go_ret2
          exact ⟨by rw [HE.out]; rfl, BE.out⟩
        · have HN := hidden (PN.out hM' hsm)
          go_wp2_with fail
          refine Calls.mono MO.out ?_
          rintro e w2 ⟨rfl, hB⟩
          have BE := hidden (HB.out.trans (hB.mono HB.out.size))
          clear hB MO
          obtain ⟨c0, c1, c2, c3⟩ := Vs.get (H.out.later BE.out) (q := m.toNat) (by omega)
          have hw : IntKind.i64.wrap (s + 1) = s + 1 := by rw [IntKind.wrap_i64]; omega
          clear c1 c2 c3
          go_wp2
          go_roundw
          case rel => exact ⟨s + 1, by omega, by omega, by first | rfl | rw [hw], HN.out, BE.out⟩
          case measure => simp [intOf]; omega
    · obtain rfl : s = 4 := by omega
      have hst := HS.out
      exact absurd rfl (HP.out (stt vs m.toNat) hst.1 (by omega)).2
theorem ragain (h : Vs w a n vs) (m : Int) : Calls Try.prog 17 #[.int .i64 m, .slice a n cap] w fun e w' => e = .returned (.tuple #[.int .i64 (agV m vs), .int .i64 (agE m vs)]) ∧ Below w.heap.size w w' := by
  by_cases hc : chk vs = 0
  · by_cases hm : 0 ≤ m ∧ m ≤ (vs.length : Int) - 1
    · exact ragain_ok h hc hm
    · exact ragain_out h hc hm
  · exact ragain_no h hc m
end
end Go.Proofs.Ytcflcibncbipbaa.Sc
