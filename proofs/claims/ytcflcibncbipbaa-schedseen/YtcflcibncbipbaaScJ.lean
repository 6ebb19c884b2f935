/-
  The document's: the paths that are fit, the better one of two; that they are the code's.
  Conditions: as at each lemma.
-/
import Derived.Test.YtcflcibncbipbaaScI
namespace Go.Proofs.Ytcflcibncbipbaa.Sc
open Go.ChangeShapes Go.WideShapes Go.ChangeAt Go.RowKit Go.Sort Go.Lib
open Ba (hidden Has Only)
open Ow (Own)
set_option linter.unusedVariables false

def fq (c : Int) (vs : List Vw) (k : Nat) : Bool := (decide (c = 0) || decide (stt vs k = c)) && decide (0 < spc vs k) && shr vs k
def rfit (vs : List Vw) : List Int := upto (fq (rcl vs) vs) vs.length
section
variable {w : World} {a : Option Addr} {n cap : Nat} {vs : List Vw}
set_option maxHeartbeats 1000000 in
theorem rfit_ (h : Vs w a n vs) (h8 : n ≤ 8) : Calls Try.prog 18 #[.slice a n cap] w fun e w' => ∃ v k, e = .returned v ∧ w'.ownsRow w.heap.size 3 1 v k (lc (rfit vs)) ∧ Below w.heap.size w w' := by
  have CL := hidden (rclass (cap := cap) h)
  have H := hidden h
  have HL := hidden h.len
  have F0 := hidden (show w.ownsRow w.heap.size 3 1 (.slice none 0 0) 0 (lc []) from World.ownsRow_nil _ _ _ _)
  have HR : Hid (rfit vs = upto (fq (rcl vs) vs) n) := by
    show _ = _
    unfold rfit
    rw [h.len]
  generalize rfit vs = RF at *
  generalize rcl vs = C at *
  clear h
  go_enter Try.func18, Try.ntmps18
  go_wp2_with fail
  refine Calls.mono CL.out ?_
  rintro e w1 ⟨rfl, rfl⟩
  clear CL
  go_wp2_with fail
  go_loopw [4, 5] (fun vf i wr => ∃ j : Int, 0 ≤ j ∧ j ≤ (n : Int) ∧ i = .int .i64 j ∧ ∃ kf : Nat, Hid ((kf : Int) ≤ j) ∧ Hid (Below w.heap.size w wr) ∧ Hid (wr.ownsRow w.heap.size 3 1 vf kf (lc (upto (fq C vs) j.toNat)))) (fun _ i _ => n - (intOf i).toNat)
  case atStart => exact ⟨0, by omega, by omega, rfl, 0, by show ((0 : Nat) : Int) ≤ 0; omega, Below.refl _ w, F0.out⟩
  case round =>
    clear F0
    obtain ⟨j, j1, j2, rfl, kf, K, B, FO⟩ := hrel
    by_cases hj : j < (n : Int)
    · obtain ⟨b, off, rfl, hb⟩ := Vs.open H.out (by omega)
      obtain ⟨c0, c1, c2, c3⟩ := Vs.get (H.out.later B.out) (q := j.toNat) (by omega)
      have TJ : Hid ((j + 1).toNat = j.toNat + 1) := by show (j + 1).toNat = j.toNat + 1; omega
      have CJ : Hid (((j.toNat : Nat) : Int) = j) := by show ((j.toNat : Nat) : Int) = j; omega
      have hbl := Nat.lt_of_lt_of_le hb B.out.size
      have QT : Hid (fq C vs j.toNat = ((decide (C = 0) || decide (stt vs j.toNat = C)) && decide (0 < spc vs j.toNat) && shr vs j.toNat)) := rfl
      clear c2
      generalize stt vs j.toNat = S at *
      generalize spc vs j.toNat = P at *
      generalize shr vs j.toNat = T at *
      have SK : Hid (fq C vs j.toNat = false → upto (fq C vs) (j + 1).toNat = upto (fq C vs) j.toNat) := fun e => by rw [TJ.out]; exact upto_f e
      have TK : Hid (fq C vs j.toNat = true → upto (fq C vs) (j + 1).toNat = upto (fq C vs) j.toNat ++ [j]) := fun e => by rw [TJ.out, upto_t e, CJ.out]
      by_cases hC : C = 0
      · subst hC
        by_cases hP : P > 0
        · cases T with
          | true =>
            have HN := hidden (TK.out (by rw [QT.out]; simp [hP]))
            clear SK TK QT
            obtain ⟨v', w2, hr, hown2, hgr, hwh⟩ := app1 FO.out (by have := K.out; omega) B.out.size j
            have B2 := hidden (B.out.trans (grown_below hgr B.out.size fun g hg => (own_base FO.out g hg).1))
            rw [← HN.out] at hown2
            have R2 := hidden hown2
            have HRn := hidden hr
            clear hown2 hr hgr hwh
            go_wp2_with (first | (at_builtin; refine Rg.wpList_app rfl (.tmp 40) (.tmp 42) 23 rfl rfl rfl HRn.out ?_; clear HRn) | go_in)
            go_wp2
            go_roundw
            case rel => exact ⟨j + 1, by omega, by omega, rfl, kf + 1, by have := K.out; show ((kf + 1 : Nat) : Int) ≤ j + 1; omega, B2.out, R2.out⟩
            case measure => simp [intOf]; omega
          | false =>
            have HN := hidden (SK.out (by rw [QT.out]; simp))
            clear SK TK QT
            go_wp2
            go_roundw
            case rel => exact ⟨j + 1, by omega, by omega, rfl, kf, by have := K.out; show (kf : Int) ≤ j + 1; omega, B.out, by show World.ownsRow _ _ _ _ _ _ (lc (upto _ (j + 1).toNat)); rw [HN.out]; exact FO.out⟩
            case measure => simp [intOf]; omega
        · have HN := hidden (SK.out (by rw [QT.out]; simp [hP]))
          clear SK TK QT
          go_wp2
          go_roundw
          case rel => exact ⟨j + 1, by omega, by omega, rfl, kf, by have := K.out; show (kf : Int) ≤ j + 1; omega, B.out, by show World.ownsRow _ _ _ _ _ _ (lc (upto _ (j + 1).toNat)); rw [HN.out]; exact FO.out⟩
          case measure => simp [intOf]; omega
      · by_cases hS : S = C
        · subst hS
          by_cases hP : P > 0
          · cases T with
            | true =>
              have HN := hidden (TK.out (by rw [QT.out]; simp [hP]))
              clear SK TK QT
              obtain ⟨v', w2, hr, hown2, hgr, hwh⟩ := app1 FO.out (by have := K.out; omega) B.out.size j
              have B2 := hidden (B.out.trans (grown_below hgr B.out.size fun g hg => (own_base FO.out g hg).1))
              rw [← HN.out] at hown2
              have R2 := hidden hown2
              have HRn := hidden hr
              clear hown2 hr hgr hwh
              go_wp2_with (first | (at_builtin; refine Rg.wpList_app rfl (.tmp 40) (.tmp 42) 23 rfl rfl rfl HRn.out ?_; clear HRn) | go_in)
              go_wp2
              go_roundw
              case rel => exact ⟨j + 1, by omega, by omega, rfl, kf + 1, by have := K.out; show ((kf + 1 : Nat) : Int) ≤ j + 1; omega, B2.out, R2.out⟩
              case measure => simp [intOf]; omega
            | false =>
              have HN := hidden (SK.out (by rw [QT.out]; simp))
              clear SK TK QT
              go_wp2
              go_roundw
              case rel => exact ⟨j + 1, by omega, by omega, rfl, kf, by have := K.out; show (kf : Int) ≤ j + 1; omega, B.out, by show World.ownsRow _ _ _ _ _ _ (lc (upto _ (j + 1).toNat)); rw [HN.out]; exact FO.out⟩
              case measure => simp [intOf]; omega
          · have HN := hidden (SK.out (by rw [QT.out]; simp [hP]))
            clear SK TK QT
            go_wp2
            go_roundw
            case rel => exact ⟨j + 1, by omega, by omega, rfl, kf, by have := K.out; show (kf : Int) ≤ j + 1; omega, B.out, by show World.ownsRow _ _ _ _ _ _ (lc (upto _ (j + 1).toNat)); rw [HN.out]; exact FO.out⟩
            case measure => simp [intOf]; omega
        · have HN := hidden (SK.out (by rw [QT.out]; simp [hC, hS]))
          clear SK TK QT
          go_wp2
          go_roundw
          case rel => exact ⟨j + 1, by omega, by omega, rfl, kf, by have := K.out; show (kf : Int) ≤ j + 1; omega, B.out, by show World.ownsRow _ _ _ _ _ _ (lc (upto _ (j + 1).toNat)); rw [HN.out]; exact FO.out⟩
          case measure => simp [intOf]; omega
    · obtain rfl : j = (n : Int) := by omega
      have FO1 := FO.out
      rw [Int.toNat_natCast, ← HR.out] at FO1
      obtain ⟨a1, c1, rfl⟩ := Ba.own_len FO1
      have R2 := hidden FO1
      clear FO1
      go_wp2
      go_ret
      exact ⟨_, rfl, ⟨_, R2.out⟩, B.out⟩
/-- the document's better one -/
def bet (kind last : Int) (vs : List Vw) (i k : Nat) : Bool :=
  if kind = 1 then (if trp vs i = trp vs k then decide (i < k) else decide (trp vs i < trp vs k))
  else if kind = 2 then (if spc vs i = spc vs k then decide (i < k) else decide (spc vs k < spc vs i))
  else (if 0 ≤ last ∧ last < (vs.length : Int) ∧ (((i : Int) > last) ≠ ((k : Int) > last)) then decide ((i : Int) > last) else decide (i < k))
theorem better1 {b off : Nat} (h : Vs w (some ⟨b, off, none⟩) n vs) {i k : Int} (i0 : 0 ≤ i) (i1 : i < n) (k0 : 0 ≤ k) (k1 : k < n) (last : Int) : Calls Try.prog 26 #[.int .i64 1, .int .i64 last, .slice (some ⟨b, off, none⟩) n cap, .int .i64 i, .int .i64 k] w fun e w' => e = .returned (.bool (bet 1 last vs i.toNat k.toNat)) ∧ ∃ q, w' = w.drewN q := by
  have hn : n ≤ 140737488355328 := h.2.2.1
  obtain ⟨c0, c1, c2, c3⟩ := Vs.get h (q := i.toNat) (by omega)
  obtain ⟨e0, e1, e2, e3⟩ := Vs.get h (q := k.toNat) (by omega)
  unfold bet
  rw [if_pos rfl]
  generalize trp vs i.toNat = X at *
  generalize trp vs k.toNat = Y at *
  clear c0 c1 c3 e0 e1 e3
  by_cases e : X = Y
  · rw [if_pos e]
    subst e
    by_cases l : i < k
    · rw [decide_eq_true (show i.toNat < k.toNat by omega)]
      clear h
      go_enter Try.func26, Try.ntmps26
      go_wp2_with fail
      go_quiet (fail)
      go_wp2
      go_ret
      exact ⟨by rfl, _, rfl⟩
    · rw [decide_eq_false (show ¬ i.toNat < k.toNat by omega)]
      clear h
      go_enter Try.func26, Try.ntmps26
      go_wp2_with fail
      go_quiet (fail)
      go_wp2
      go_ret
      exact ⟨by simp [l], _, rfl⟩
  · rw [if_neg e]
    generalize hD : decide (X < Y) = D
    clear h
    go_enter Try.func26, Try.ntmps26
    go_wp2_with fail
    go_quiet (fail)
    go_wp2_with fail
    have d0 : (w.drewN nq).cell? ⟨b, off + i.toNat * 4 + 2, none⟩ = some (.int .i64 X) := c2
    have d1 : (w.drewN nq).cell? ⟨b, off + k.toNat * 4 + 2, none⟩ = some (.int .i64 Y) := e2
    clear c2 e2
    obtain ⟨w2, hw2⟩ : ∃ w2, w.drewN nq = w2 := ⟨_, rfl⟩
    rw [hw2] at d0 d1
    have HW := hidden hw2
    rw [hw2]
    clear hw2
    go_quiet (fail)
    go_wp2
    go_ret
    exact ⟨by first | rfl | (rw [← hD]) | (simp [← hD]), _, by rw [← HW.out, World.drewN_drewN]⟩
theorem better2 {b off : Nat} (h : Vs w (some ⟨b, off, none⟩) n vs) {i k : Int} (i0 : 0 ≤ i) (i1 : i < n) (k0 : 0 ≤ k) (k1 : k < n) (last : Int) : Calls Try.prog 26 #[.int .i64 2, .int .i64 last, .slice (some ⟨b, off, none⟩) n cap, .int .i64 i, .int .i64 k] w fun e w' => e = .returned (.bool (bet 2 last vs i.toNat k.toNat)) ∧ ∃ q, w' = w.drewN q := by
  have hn : n ≤ 140737488355328 := h.2.2.1
  obtain ⟨c0, c1, c2, c3⟩ := Vs.get h (q := i.toNat) (by omega)
  obtain ⟨e0, e1, e2, e3⟩ := Vs.get h (q := k.toNat) (by omega)
  unfold bet
  rw [if_neg (by decide), if_pos rfl]
  generalize spc vs i.toNat = X at *
  generalize spc vs k.toNat = Y at *
  clear c0 c2 c3 e0 e2 e3
  by_cases e : X = Y
  · rw [if_pos e]
    subst e
    by_cases l : i < k
    · rw [decide_eq_true (show i.toNat < k.toNat by omega)]
      clear h
      go_enter Try.func26, Try.ntmps26
      go_wp2_with fail
      go_quiet (fail)
      go_wp2
      go_ret
      exact ⟨by rfl, _, rfl⟩
    · rw [decide_eq_false (show ¬ i.toNat < k.toNat by omega)]
      clear h
      go_enter Try.func26, Try.ntmps26
      go_wp2_with fail
      go_quiet (fail)
      go_wp2
      go_ret
      exact ⟨by simp [l], _, rfl⟩
  · rw [if_neg e]
    generalize hD : decide (Y < X) = D
    clear h
    go_enter Try.func26, Try.ntmps26
    go_wp2_with fail
    go_quiet (fail)
    go_wp2_with fail
    have d0 : (w.drewN nq).cell? ⟨b, off + i.toNat * 4 + 1, none⟩ = some (.int .i64 X) := c1
    have d1 : (w.drewN nq).cell? ⟨b, off + k.toNat * 4 + 1, none⟩ = some (.int .i64 Y) := e1
    clear c1 e1
    obtain ⟨w2, hw2⟩ : ∃ w2, w.drewN nq = w2 := ⟨_, rfl⟩
    rw [hw2] at d0 d1
    have HW := hidden hw2
    rw [hw2]
    clear hw2
    go_quiet (fail)
    go_wp2
    go_ret
    exact ⟨by first | rfl | (rw [← hD]) | (simp [← hD]), _, by rw [← HW.out, World.drewN_drewN]⟩
theorem better0 {b off : Nat} (h : Vs w (some ⟨b, off, none⟩) n vs) {i k : Int} (i0 : 0 ≤ i) (i1 : i < n) (k0 : 0 ≤ k) (k1 : k < n) {kind : Int} (hk1 : ¬ kind = 1) (hk2 : ¬ kind = 2) (last : Int) : Calls Try.prog 26 #[.int .i64 kind, .int .i64 last, .slice (some ⟨b, off, none⟩) n cap, .int .i64 i, .int .i64 k] w fun e w' => e = .returned (.bool (bet kind last vs i.toNat k.toNat)) ∧ ∃ q, w' = w.drewN q := by
  have hn : n ≤ 140737488355328 := h.2.2.1
  have hl := h.len
  unfold bet
  rw [if_neg hk1, if_neg hk2, hl, Int.toNat_of_nonneg i0, Int.toNat_of_nonneg k0, show decide (i.toNat < k.toNat) = decide (i < k) from decide_eq_decide.2 (by omega)]
  clear h
  by_cases l0 : 0 ≤ last
  · by_cases l1 : last < (n : Int)
    · by_cases gi : i > last
      · by_cases gk : k > last
        · rw [if_neg (by simp [gi, gk])]
          go_enter Try.func26, Try.ntmps26
          go_wp2
          go_ret
          exact ⟨by rfl, 0, rfl⟩
        · rw [if_pos ⟨l0, l1, by simp [gi, gk]⟩]
          go_enter Try.func26, Try.ntmps26
          go_wp2
          go_ret
          exact ⟨by rfl, 0, rfl⟩
      · by_cases gk : k > last
        · rw [if_pos ⟨l0, l1, by simp [gi, gk]⟩]
          go_enter Try.func26, Try.ntmps26
          go_wp2
          go_ret
          exact ⟨by simp [gi], 0, rfl⟩
        · rw [if_neg (by simp [gi, gk])]
          go_enter Try.func26, Try.ntmps26
          go_wp2
          go_ret
          exact ⟨by rfl, 0, rfl⟩
    · rw [if_neg (fun h => l1 h.2.1)]
      go_enter Try.func26, Try.ntmps26
      go_wp2
      go_ret
      exact ⟨by rfl, 0, rfl⟩
  · rw [if_neg (fun h => l0 h.1)]
    go_enter Try.func26, Try.ntmps26
    go_wp2
    go_ret
    exact ⟨by rfl, 0, rfl⟩
theorem better {b off : Nat} (h : Vs w (some ⟨b, off, none⟩) n vs) {i k : Int} (i0 : 0 ≤ i) (i1 : i < n) (k0 : 0 ≤ k) (k1 : k < n) (kind last : Int) : Calls Try.prog 26 #[.int .i64 kind, .int .i64 last, .slice (some ⟨b, off, none⟩) n cap, .int .i64 i, .int .i64 k] w fun e w' => e = .returned (.bool (bet kind last vs i.toNat k.toNat)) ∧ ∃ q, w' = w.drewN q := by
  by_cases hk1 : kind = 1
  · subst hk1
    exact better1 h i0 i1 k0 k1 last
  · by_cases hk2 : kind = 2
    · subst hk2
      exact better2 h i0 i1 k0 k1 last
    · exact better0 h i0 i1 k0 k1 hk1 hk2 last
end
end Go.Proofs.Ytcflcibncbipbaa.Sc
