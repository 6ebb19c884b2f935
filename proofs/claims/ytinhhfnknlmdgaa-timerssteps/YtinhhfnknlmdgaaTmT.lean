/-
  A table of timers and the document's, side by side: what each call leaves of both.
  Conditions: both lie in memory, apart.
-/
import Derived.Test.YtinhhfnknlmdgaaTmW
namespace Go.Proofs.Ytinhhfnknlmdgaa.Tm
open Go.RowKit Go.Sort Go.ChangeShapes Go.WideShapes Go.ChangeAt
open Ba (hidden Only In Has own_ne own_stay own_len own_some own_mono cell_lt heap_lt)
set_option linter.unusedVariables false

/-- both tables, since W -/
def Pr (W : World) (F0 : List Nat) (w : World) (t r : Nat) (S R : List D) (l1 l2 : Int) : Prop :=
  ∃ F G, Tb w t S l1 F ∧ RT w r R l2 G ∧ (∀ k ∈ F, k ∉ G) ∧ Only F0 W w ∧ In F0 (F ++ G) W
theorem Pr.later {W w w' : World} {F0 : List Nat} {t r : Nat} {S R : List D} {l1 l2 : Int} (h : Pr W F0 w t r S R l1 l2) (hB : Below w.heap.size w w') : Pr W F0 w' t r S R l1 l2 := by
  obtain ⟨F, G, h1, h2, h3, h4, h5⟩ := h
  exact ⟨F, G, h1.later hB, h2.later hB, h3, h4.then (Only.of_below hB), h5⟩
theorem Pr.tb {W w w' : World} {F0 : List Nat} {t r : Nat} {S S' R : List D} {l1 l1' l2 : Int} {F G F' : List Nat} (h1 : Tb w t S l1 F) (h2 : RT w r R l2 G) (h3 : ∀ k ∈ F, k ∉ G) (h4 : Only F0 W w) (h5 : In F0 (F ++ G) W) (g1 : Tb w' t S' l1' F') (g2 : Only F w w') (g3 : In F F' w) : RT w' r R l2 G ∧ (∀ k ∈ F', k ∉ G) ∧ Only F0 W w' ∧ In F0 (F' ++ G) W := by
  refine ⟨h2.stay g2 (fun k hk hf => h3 k hf hk), fun k hk hg => ?_, h4.trans g2 (fun k hk => h5 k (List.mem_append_left _ hk)), fun k hk => ?_⟩
  · rcases g3 k hk with e | e
    · exact h3 k e hg
    · have := h2.lt k hg; omega
  · rcases List.mem_append.1 hk with hk | hk
    · rcases g3 k hk with e | e
      · exact h5 k (List.mem_append_left _ e)
      · exact .inr (Nat.le_trans h4.size e)
    · exact h5 k (List.mem_append_right _ hk)
theorem Pr.rt {W w w' : World} {F0 : List Nat} {t r : Nat} {S R R' : List D} {l1 l2 l2' : Int} {F G G' : List Nat} (h1 : Tb w t S l1 F) (h2 : RT w r R l2 G) (h3 : ∀ k ∈ F, k ∉ G) (h4 : Only F0 W w) (h5 : In F0 (F ++ G) W) (g1 : RT w' r R' l2' G') (g2 : Only G w w') (g3 : In G G' w) : Tb w' t S l1 F ∧ (∀ k ∈ F, k ∉ G') ∧ Only F0 W w' ∧ In F0 (F ++ G') W := by
  refine ⟨h1.stay g2 h3, fun k hk hg => ?_, h4.trans g2 (fun k hk => h5 k (List.mem_append_right _ hk)), fun k hk => ?_⟩
  · rcases g3 k hg with e | e
    · exact h3 k hk e
    · have := h1.lt k hk; omega
  · rcases List.mem_append.1 hk with hk | hk
    · exact h5 k (List.mem_append_left _ hk)
    · rcases g3 k hk with e | e
      · exact h5 k (List.mem_append_right _ e)
      · exact .inr (Nat.le_trans h4.size e)
section
variable {W w : World} {F0 : List Nat} {t r : Nat} {S R : List D} {l1 l2 : Int}
theorem Pr.set (h : Pr W F0 w t r S R l1 l2) (id due : Int) : Calls Try.prog 10 #[.pointer (some ⟨t, 0, none⟩), .int .i64 id, .int .i64 due] w fun e w' => e = .returned (.int .i64 (setE id due)) ∧ Pr W F0 w' t r (setS id due S) R l1 l2 := by
  obtain ⟨F, G, h1, h2, h3, h4, h5⟩ := h
  refine (tset h1 id due).mono ?_
  rintro e w' ⟨rfl, F', g1, g2, g3⟩
  obtain ⟨k1, k2, k3, k4⟩ := Pr.tb h1 h2 h3 h4 h5 g1 g2 g3
  exact ⟨rfl, F', G, g1, k1, k2, k3, k4⟩
theorem Pr.rset {id due : Int} (h : Pr W F0 w t r (setS id due S) S l1 l2) (hk : ∀ d ∈ S, Ok d) : Calls Try.prog 25 #[.pointer (some ⟨r, 0, none⟩), .int .i64 id, .int .i64 due] w fun e w' => e = .returned (.int .i64 (setE id due)) ∧ Pr W F0 w' t r (setS id due S) (setS id due S) l1 l2 := by
  obtain ⟨F, G, h1, h2, h3, h4, h5⟩ := h
  refine (Tm.rset h2 id due hk h1.ok.2.2.2).mono ?_
  rintro e w' ⟨rfl, G', g1, g2, g3⟩
  obtain ⟨k1, k2, k3, k4⟩ := Pr.rt h1 h2 h3 h4 h5 g1 g2 g3
  exact ⟨rfl, F, G', k1, g1, k2, k3, k4⟩
theorem Pr.stop (h : Pr W F0 w t r S R l1 l2) (id : Int) (hi : I64 id) : Calls Try.prog 12 #[.pointer (some ⟨t, 0, none⟩), .int .i64 id] w fun e w' => e = .returned (.tuple #[.bool (stopB id S), .int .i64 (stopE id)]) ∧ Pr W F0 w' t r (stopS id S) R l1 l2 := by
  obtain ⟨F, G, h1, h2, h3, h4, h5⟩ := h
  refine (tstop h1 id hi).mono ?_
  rintro e w' ⟨rfl, F', g1, g2, g3⟩
  obtain ⟨k1, k2, k3, k4⟩ := Pr.tb h1 h2 h3 h4 h5 g1 g2 g3
  exact ⟨rfl, F', G, g1, k1, k2, k3, k4⟩
theorem Pr.rstop (h : Pr W F0 w t r S R l1 l2) (id : Int) : Calls Try.prog 26 #[.pointer (some ⟨r, 0, none⟩), .int .i64 id] w fun e w' => e = .returned (.tuple #[.bool (stopB id R), .int .i64 (stopE id)]) ∧ Pr W F0 w' t r S (stopS id R) l1 l2 := by
  obtain ⟨F, G, h1, h2, h3, h4, h5⟩ := h
  refine (Tm.rstop h2 id).mono ?_
  rintro e w' ⟨rfl, G', g1, g2, g3⟩
  obtain ⟨k1, k2, k3, k4⟩ := Pr.rt h1 h2 h3 h4 h5 g1 g2 g3
  exact ⟨rfl, F, G', k1, g1, k2, k3, k4⟩
/-- what is told, what is left, the clock -/
def dT (now l : Int) (S : List D) : List D := if dueE now l = 0 then told now S else []
def dS (now l : Int) (S : List D) : List D := if dueE now l = 0 then rest now S else S
def dL (now l : Int) : Int := if dueE now l = 0 then now else l
/-- both tables, and a row that was told -/
def PrT (W : World) (F0 : List Nat) (w : World) (t r : Nat) (S R : List D) (l1 l2 : Int) (tv : Value) (T : List D) : Prop :=
  ∃ F G, Tb w t S l1 F ∧ RT w r R l2 G ∧ (∀ k ∈ F, k ∉ G) ∧ Only F0 W w ∧ In F0 (F ++ G) W ∧ Own w tv T ∧ (∀ k, tv.ownBlock = some k → k ∉ F ∧ k ∉ G) ∧ T.length ≤ 4096
theorem PrT.pr {tv : Value} {T : List D} (h : PrT W F0 w t r S R l1 l2 tv T) : Pr W F0 w t r S R l1 l2 := by
  obtain ⟨F, G, h1, h2, h3, h4, h5, _⟩ := h
  exact ⟨F, G, h1, h2, h3, h4, h5⟩
theorem dT_len (now l : Int) {S : List D} (h : S.length ≤ 4096) : (dT now l S).length ≤ 4096 := by
  unfold dT told
  split
  · exact Nat.le_trans (List.Sublist.length_le (List.takeWhile_sublist _)) h
  · simp
theorem Pr.due (h : Pr W F0 w t r S R l1 l2) (now : Int) : Calls Try.prog 13 #[.pointer (some ⟨t, 0, none⟩), .int .i64 now] w fun e w' => ∃ tv, e = .returned (.tuple #[tv, .int .i64 (dueE now l1)]) ∧ PrT W F0 w' t r (dS now l1 S) R (dL now l1) l2 tv (dT now l1 S) := by
  obtain ⟨F, G, h1, h2, h3, h4, h5⟩ := h
  have hlen := h1.ok.2.2.2
  refine (tdue h1 now).mono ?_
  rintro e w' ⟨tv, T, rfl, q1, F', q2, q3, g2, g3⟩
  have hTS : T = dT now l1 S ∧ Tb w' t (dS now l1 S) (dL now l1) F' := by
    unfold dT dS dL
    rcases q3 with ⟨e, rfl, hh⟩ | ⟨e, rfl, hh⟩
    · rw [e]; exact ⟨rfl, hh⟩
    · rw [e]; exact ⟨rfl, hh⟩
  obtain ⟨rfl, g1⟩ := hTS
  obtain ⟨k1, k2, k3, k4⟩ := Pr.tb h1 h2 h3 h4 h5 g1 g2 g3
  refine ⟨tv, rfl, F', G, g1, k1, k2, k3, k4, own_mono q1 (fun k _ => Nat.zero_le _), fun k hk => ⟨q2 k hk, fun hg => ?_⟩, dT_len _ _ hlen⟩
  have a1 := (q1.lt k hk).1
  have a2 := h2.lt k hg
  omega
theorem PrT.rdue {tv : Value} {T : List D} (h : PrT W F0 w t r S R l1 l2 tv T) (now : Int) : Calls Try.prog 27 #[.pointer (some ⟨r, 0, none⟩), .int .i64 now] w fun e w' => ∃ rv, e = .returned (.tuple #[rv, .int .i64 (dueE now l2)]) ∧ Pr W F0 w' t r S (dS now l2 R) l1 (dL now l2) ∧ Rw w' tv T ∧ Rw w' rv (dT now l2 R) := by
  obtain ⟨F, G, h1, h2, h3, h4, h5, h6, h7, h8⟩ := h
  have hlen : R.length ≤ 4096 := by obtain ⟨_, _, _, _, hh⟩ := h2; exact hh
  refine (Tm.rdue h2 now).mono ?_
  rintro e w' ⟨rv, T', rfl, q1, G', q2, q3, g2, g3⟩
  have hTS : T' = dT now l2 R ∧ RT w' r (dS now l2 R) (dL now l2) G' := by
    unfold dT dS dL
    rcases q3 with ⟨e, rfl, hh⟩ | ⟨e, rfl, hh⟩
    · rw [e]; exact ⟨rfl, hh⟩
    · rw [e]; exact ⟨rfl, hh⟩
  obtain ⟨rfl, g1⟩ := hTS
  obtain ⟨k1, k2, k3, k4⟩ := Pr.rt h1 h2 h3 h4 h5 g1 g2 g3
  have hl2 := dT_len now l2 hlen
  exact ⟨rv, rfl, ⟨F, G', k1, g1, k2, k3, k4⟩, Own.rw (own_stay h6 g2 (fun k hk => (h7 k hk).2)) (by omega), Own.rw (own_mono q1 (fun k _ => Nat.zero_le _)) (by omega)⟩
end
/-- what a step leaves -/
def StepO (w : World) (t r : Nat) (F0 : List Nat) (e : Ending) (w' : World) : Prop := e = .returned (.bool true) ∧ ∃ S l, Pr w F0 w' t r S S l l
end Go.Proofs.Ytinhhfnknlmdgaa.Tm
