/-
  Two tables of timers and a row of what the first told: what each call leaves of all three.
  Conditions: they lie in memory, apart.
-/
import Derived.Test.YtinhhfnknlmdgaaTmT
namespace Go.Proofs.Ytinhhfnknlmdgaa.Tm
open Go.RowKit Go.Sort Go.ChangeShapes Go.WideShapes Go.ChangeAt
open Ba (hidden Only In Has own_ne own_stay own_len own_some own_mono cell_lt heap_lt)
set_option linter.unusedVariables false

/-- an append of a row of its own to another, whatever both are -/
theorem app_any {w : World} {gv tv : Value} {X T : List D} (h : Own w gv X) (ht : Own w tv T) (hl : X.length + T.length ≤ 1000000) :
    ∃ v' w', (Builtin.append_ #[26, 26] 26 #[gv, tv]).run Try.prog w = .ok v' w' ∧ Own w' v' (X ++ T) ∧ Only gv.ownBlock.toList w w' ∧ ∀ k, v'.ownBlock = some k → gv.ownBlock = some k ∨ w.heap.size ≤ k := by
  rcases ht.2 with ⟨e1, e2⟩ | ⟨g, cap, cur, e1, _, _, _⟩
  · obtain ⟨i0, hi0⟩ := info_due_parts
    have hT : T = [] := by
      have := dcs_len T
      rw [e2] at this
      simp at this
      exact List.length_eq_zero_iff.1 (by omega)
    have htv : tv = .slice none 0 0 := e1
    subst hT
    rw [htv]
    refine ⟨gv, w, run_append_owned_none (P := Try.prog) (w := w) 0 26 26 43 i0 2 Try.underlying26 hi0 _ _ _ h, by rw [List.append_nil]; exact h, Only.refl _ _, fun k hk => .inl hk⟩
  · subst e1
    by_cases hv : gv.ownBlock = none
    · have hg : gv = .slice none 0 0 ∧ X = [] := by
        rcases h.2 with ⟨e1, e2⟩ | ⟨g', cap', cur', e1, _⟩
        · refine ⟨e1, ?_⟩
          have := dcs_len X
          rw [e2] at this
          simp at this
          exact List.length_eq_zero_iff.1 (by omega)
        · subst e1
          simp [Value.ownBlock] at hv
      obtain ⟨rfl, rfl⟩ := hg
      obtain ⟨i, hi, hz, hs, hb⟩ := info_parts info_due
      obtain ⟨v', w', hr, q1, q2, q3⟩ := run_append_own (P := Try.prog) w w.heap.size 26 26 43 i _ 2 _ Try.underlying26 hi hz hs hb rfl (by decide) (.slice none 0 0) 0 [] (World.ownsRow_nil _ _ _ _) ⟨g, 0, none⟩ T.length cap (dcs T) (dcs_len T)
        (fun j u hj => by
          have hjl : j < T.length * 2 := by rw [← dcs_len]; exact (List.getElem?_eq_some_iff.1 hj).1
          have e : (⟨g, 0, none⟩ : Addr).add j = ⟨g, j, none⟩ := by unfold Addr.add; split <;> simp_all
          rw [e]
          have := World.ownsRow.cellAt ht j hjl
          rw [this]
          exact hj)
        (by
          intro u hu
          obtain ⟨d, _, hm⟩ := List.mem_flatMap.1 hu
          simp only [dc, List.mem_cons, List.not_mem_nil, or_false] at hm
          rcases hm with rfl | rfl <;> rfl) (by unfold maxLen; simp at hl; omega) (by simp at hl; omega) (Nat.le_refl _)
      refine ⟨v', w', hr, ?_, Only.grown q2 (by intro k hk; simp [hk]), fun k hk => .inr (q1.lt k hk).1⟩
      have := own_mono (base' := 0) q1 (fun k _ => Nat.zero_le _)
      unfold Own
      rw [List.nil_append]
      rw [Nat.zero_add, List.nil_append] at this
      exact this
    · obtain ⟨v', w', hr, q1, q2, q3, q4⟩ := app_rows (w := w) (base := 0) (v := gv) (T := X) (Y := T) (g := g) (off := 0) (c := cap) h (Nat.zero_le _) hv hl (fun j hj => by
        have := ht.cell hj
        rw [Nat.zero_add]
        exact ⟨this.1, this.2.1⟩)
      refine ⟨v', w', hr, q1, q2, fun k hk => ?_⟩
      rcases q3 with e | e
      · exact .inl (e ▸ hk)
      · rw [e] at hk
        cases hk
        exact .inr (Nat.le_refl _)

theorem in_apart {F F' H : List Nat} {w : World} (h : ∀ k ∈ F, k ∉ H) (hl : ∀ k ∈ H, k < w.heap.size) (g : In F F' w) : ∀ k ∈ F', k ∉ H := fun k hk hh => by
  rcases g k hk with e | e
  · exact h k e hh
  · have := hl k hh; omega
/-- two tables and a row, since W -/
def Tw (W : World) (F0 : List Nat) (w : World) (a b : Nat) (S R : List D) (l r : Int) (gv : Value) (X : List D) : Prop :=
  ∃ F G, Tb w a S l F ∧ Tb w b R r G ∧ (∀ k ∈ F, k ∉ G) ∧ Own w gv X ∧ (∀ k, gv.ownBlock = some k → k ∉ F ∧ k ∉ G) ∧ Only F0 W w ∧ In F0 F W ∧ In F0 G W ∧ In F0 gv.ownBlock.toList W
/-- .. and what was told last -/
def TwT (W : World) (F0 : List Nat) (w : World) (a b : Nat) (S R : List D) (l r : Int) (gv : Value) (X : List D) (tv : Value) (T : List D) : Prop :=
  ∃ F G, Tb w a S l F ∧ Tb w b R r G ∧ (∀ k ∈ F, k ∉ G) ∧ Own w gv X ∧ (∀ k, gv.ownBlock = some k → k ∉ F ∧ k ∉ G) ∧ Only F0 W w ∧ In F0 F W ∧ In F0 G W ∧ In F0 gv.ownBlock.toList W ∧ Own w tv T
section
variable {W w : World} {F0 : List Nat} {a b : Nat} {S R X : List D} {l r : Int} {gv : Value}
theorem Tw.later {w' : World} (h : Tw W F0 w a b S R l r gv X) (hB : Below w.heap.size w w') : Tw W F0 w' a b S R l r gv X := by
  obtain ⟨F, G, h1, h2, h3, h4, h5, h6, h7⟩ := h
  exact ⟨F, G, h1.later hB, h2.later hB, h3, own_stay (F := []) h4 (Only.of_below hB) (by simp), h5, h6.then (Only.of_below hB), h7⟩
theorem TwT.later {w' : World} {tv : Value} {T : List D} (h : TwT W F0 w a b S R l r gv X tv T) (hB : Below w.heap.size w w') : TwT W F0 w' a b S R l r gv X tv T := by
  obtain ⟨F, G, h1, h2, h3, h4, h5, h6, h7, h8, h9, h10⟩ := h
  exact ⟨F, G, h1.later hB, h2.later hB, h3, own_stay (F := []) h4 (Only.of_below hB) (by simp), h5, h6.then (Only.of_below hB), h7, h8, h9, own_stay (F := []) h10 (Only.of_below hB) (by simp)⟩
theorem TwT.tw {tv : Value} {T : List D} (h : TwT W F0 w a b S R l r gv X tv T) : Tw W F0 w a b S R l r gv X := by
  obtain ⟨F, G, h1, h2, h3, h4, h5, h6, h7, h8, h9, h10⟩ := h
  exact ⟨F, G, h1, h2, h3, h4, h5, h6, h7, h8, h9⟩
theorem tw_a {w' : World} {S' : List D} {l' : Int} {F F' G : List Nat} (h1 : Tb w a S l F) (h2 : Tb w b R r G) (h3 : ∀ k ∈ F, k ∉ G) (h4 : Own w gv X) (h5 : ∀ k, gv.ownBlock = some k → k ∉ F ∧ k ∉ G) (h6 : Only F0 W w) (h7 : In F0 F W) (h8 : In F0 G W) (h9 : In F0 gv.ownBlock.toList W) (g1 : Tb w' a S' l' F') (g2 : Only F w w') (g3 : In F F' w) : Tw W F0 w' a b S' R l' r gv X := by
  refine ⟨F', G, g1, h2.stay g2 (fun k hk hf => h3 k hf hk), in_apart h3 h2.lt g3, own_stay h4 g2 (fun k hk => (h5 k hk).1), fun k hk => ⟨fun hf => ?_, (h5 k hk).2⟩, h6.trans g2 h7, h7.trans g3 h6.size, h8, h9⟩
  rcases g3 k hf with e | e
  · exact (h5 k hk).1 e
  · have := (h4.lt k hk).2; omega
theorem tw_b {w' : World} {R' : List D} {r' : Int} {F G G' : List Nat} (h1 : Tb w a S l F) (h2 : Tb w b R r G) (h3 : ∀ k ∈ F, k ∉ G) (h4 : Own w gv X) (h5 : ∀ k, gv.ownBlock = some k → k ∉ F ∧ k ∉ G) (h6 : Only F0 W w) (h7 : In F0 F W) (h8 : In F0 G W) (h9 : In F0 gv.ownBlock.toList W) (g1 : Tb w' b R' r' G') (g2 : Only G w w') (g3 : In G G' w) : Tw W F0 w' a b S R' l r' gv X := by
  refine ⟨F, G', h1.stay g2 h3, g1, fun k hk hg => in_apart (H := F) (fun k hk hf => h3 k hf hk) h1.lt g3 k hg hk, own_stay h4 g2 (fun k hk => (h5 k hk).2), fun k hk => ⟨(h5 k hk).1, fun hf => ?_⟩, h6.trans g2 h8, h7, h8.trans g3 h6.size, h9⟩
  rcases g3 k hf with e | e
  · exact (h5 k hk).2 e
  · have := (h4.lt k hk).2; omega
theorem Tw.seta (h : Tw W F0 w a b S R l r gv X) (id due : Int) : Calls Try.prog 10 #[.pointer (some ⟨a, 0, none⟩), .int .i64 id, .int .i64 due] w fun e w' => e = .returned (.int .i64 (setE id due)) ∧ Tw W F0 w' a b (setS id due S) R l r gv X := by
  obtain ⟨F, G, h1, h2, h3, h4, h5, h6, h7, h8, h9⟩ := h
  refine (tset h1 id due).mono ?_
  rintro e w' ⟨rfl, F', g1, g2, g3⟩
  exact ⟨rfl, tw_a h1 h2 h3 h4 h5 h6 h7 h8 h9 g1 g2 g3⟩
theorem Tw.setb (h : Tw W F0 w a b S R l r gv X) (id due : Int) : Calls Try.prog 10 #[.pointer (some ⟨b, 0, none⟩), .int .i64 id, .int .i64 due] w fun e w' => e = .returned (.int .i64 (setE id due)) ∧ Tw W F0 w' a b S (setS id due R) l r gv X := by
  obtain ⟨F, G, h1, h2, h3, h4, h5, h6, h7, h8, h9⟩ := h
  refine (tset h2 id due).mono ?_
  rintro e w' ⟨rfl, G', g1, g2, g3⟩
  exact ⟨rfl, tw_b h1 h2 h3 h4 h5 h6 h7 h8 h9 g1 g2 g3⟩
theorem Tw.duea (h : Tw W F0 w a b S R l r gv X) (now : Int) : Calls Try.prog 13 #[.pointer (some ⟨a, 0, none⟩), .int .i64 now] w fun e w' => ∃ tv, e = .returned (.tuple #[tv, .int .i64 (dueE now l)]) ∧ TwT W F0 w' a b (dS now l S) R (dL now l) r gv X tv (dT now l S) := by
  obtain ⟨F, G, h1, h2, h3, h4, h5, h6, h7, h8, h9⟩ := h
  refine (tdue h1 now).mono ?_
  rintro e w' ⟨tv, T, rfl, q1, F', q2, q3, g2, g3⟩
  have hTS : T = dT now l S ∧ Tb w' a (dS now l S) (dL now l) F' := by
    unfold dT dS dL
    rcases q3 with ⟨e, rfl, hh⟩ | ⟨e, rfl, hh⟩
    · rw [e]; exact ⟨rfl, hh⟩
    · rw [e]; exact ⟨rfl, hh⟩
  obtain ⟨rfl, g1⟩ := hTS
  obtain ⟨F2, G2, k⟩ := tw_a h1 h2 h3 h4 h5 h6 h7 h8 h9 g1 g2 g3
  obtain ⟨k1, k2, k3, k4, k5, k6, k7, k8, k9⟩ := k
  exact ⟨tv, rfl, F2, G2, k1, k2, k3, k4, k5, k6, k7, k8, k9, own_mono q1 (fun k _ => Nat.zero_le _)⟩
theorem Tw.dueb (h : Tw W F0 w a b S R l r gv X) (now : Int) : Calls Try.prog 13 #[.pointer (some ⟨b, 0, none⟩), .int .i64 now] w fun e w' => ∃ tv, e = .returned (.tuple #[tv, .int .i64 (dueE now r)]) ∧ TwT W F0 w' a b S (dS now r R) l (dL now r) gv X tv (dT now r R) := by
  obtain ⟨F, G, h1, h2, h3, h4, h5, h6, h7, h8, h9⟩ := h
  refine (tdue h2 now).mono ?_
  rintro e w' ⟨tv, T, rfl, q1, F', q2, q3, g2, g3⟩
  have hTS : T = dT now r R ∧ Tb w' b (dS now r R) (dL now r) F' := by
    unfold dT dS dL
    rcases q3 with ⟨e, rfl, hh⟩ | ⟨e, rfl, hh⟩
    · rw [e]; exact ⟨rfl, hh⟩
    · rw [e]; exact ⟨rfl, hh⟩
  obtain ⟨rfl, g1⟩ := hTS
  obtain ⟨F2, G2, k⟩ := tw_b h1 h2 h3 h4 h5 h6 h7 h8 h9 g1 g2 g3
  obtain ⟨k1, k2, k3, k4, k5, k6, k7, k8, k9⟩ := k
  exact ⟨tv, rfl, F2, G2, k1, k2, k3, k4, k5, k6, k7, k8, k9, own_mono q1 (fun k _ => Nat.zero_le _)⟩
/-- what was told is laid behind the row -/
theorem TwT.app {tv : Value} {T : List D} (h : TwT W F0 w a b S R l r gv X tv T) (hl : X.length + T.length ≤ 1000000) : ∃ v' w', (Builtin.append_ #[26, 26] 26 #[gv, tv]).run Try.prog w = .ok v' w' ∧ Tw W F0 w' a b S R l r v' (X ++ T) := by
  obtain ⟨F, G, h1, h2, h3, h4, h5, h6, h7, h8, h9, h10⟩ := h
  obtain ⟨v', w', hr, q1, q2, q3⟩ := app_any h4 h10 hl
  refine ⟨v', w', hr, F, G, h1.stay q2 (fun k hk hg => (h5 k (by simpa using hg)).1 hk), h2.stay q2 (fun k hk hg => (h5 k (by simpa using hg)).2 hk), h3, q1, fun k hk => ?_, h6.trans q2 h9, h7, h8, fun k hk => ?_⟩
  · rcases q3 k hk with e | e
    · exact h5 k e
    · exact ⟨fun hf => by have := h1.lt k hf; omega, fun hf => by have := h2.lt k hf; omega⟩
  · rcases q3 k (by simpa using hk) with e | e
    · exact h9 k (by simp [e])
    · exact .inr (Nat.le_trans h6.size e)
theorem TwT.len {tv : Value} {T : List D} (h : TwT W F0 w a b S R l r gv X tv T) : ∃ ta tcap, tv = .slice ta T.length tcap := by
  obtain ⟨F, G, h1, h2, h3, h4, h5, h6, h7, h8, h9, h10⟩ := h
  exact own_len h10
theorem Tw.ok (h : Tw W F0 w a b S R l r gv X) : Sd S ∧ (∀ d ∈ S, Ok d) ∧ (S.map (·.1)).Nodup ∧ S.length ≤ 4096 := by
  obtain ⟨F, G, h1, _⟩ := h
  exact h1.ok
theorem Tw.below {w0 : World} (hF : ∀ k ∈ F0, w0.heap.size ≤ k) (hB : Below w0.heap.size w0 W) (h : Tw W F0 w a b S R l r gv X) : Below w0.heap.size w0 w := by
  obtain ⟨_, _, _, _, _, _, _, ho, _⟩ := h
  exact hB.trans (ho.below hB.size hF)
theorem Tw.alla (h : Tw W F0 w a b S R l r gv X) : Calls Try.prog 17 #[.pointer (some ⟨a, 0, none⟩)] w fun e w' => ∃ v, e = .returned v ∧ Rw w' v S ∧ Below w.heap.size w w' := by
  obtain ⟨F, G, h1, _⟩ := h
  exact tall h1
theorem Tw.allb (h : Tw W F0 w a b S R l r gv X) : Calls Try.prog 17 #[.pointer (some ⟨b, 0, none⟩)] w fun e w' => ∃ v, e = .returned v ∧ Rw w' v R ∧ Below w.heap.size w w' := by
  obtain ⟨F, G, _, h1, _⟩ := h
  exact tall h1
theorem TwT.rows {tv : Value} {T : List D} (h : TwT W F0 w a b S R l r gv X tv T) (h1 : X.length ≤ 1000000) (h2 : T.length ≤ 1000000) : Rw w gv X ∧ Rw w tv T := by
  obtain ⟨F, G, _, _, _, h4, _, _, _, _, _, h10⟩ := h
  exact ⟨Own.rw h4 (by omega), Own.rw h10 (by omega)⟩
end
/-- two new tables and no row -/
theorem two_new_tables {w w1 w2 w3 : World} {a b : Nat} {F G : List Nat} (ha : Tb w1 a [] 0 F) (hF : ∀ k ∈ F, w.heap.size ≤ k) (hB : Below w.heap.size w w1) (hb : Tb w2 b [] 0 G) (hG : ∀ k ∈ G, w1.heap.size ≤ k) (hB2 : Below w1.heap.size w1 w2) (hB3 : Below w2.heap.size w2 w3) :
    Tw w3 (F ++ G) w3 a b [] [] 0 0 (.slice none 0 0) [] ∧ (∀ k ∈ F ++ G, w.heap.size ≤ k) ∧ Below w.heap.size w w3 := by
  refine ⟨⟨F, G, (ha.later hB2).later hB3, hb.later hB3, fun k hk hg => ?_, World.ownsRow_nil _ _ _ _, by simp [Value.ownBlock], Only.refl _ _, fun k hk => .inl (List.mem_append_left _ hk), fun k hk => .inl (List.mem_append_right _ hk), by simp [Value.ownBlock, In]⟩, fun k hk => ?_, (hB.trans (hB2.mono hB.size)).trans (hB3.mono (Nat.le_trans hB.size hB2.size))⟩
  · have h1 := ha.lt k hk
    have h2 := hG k hg
    omega
  · rcases List.mem_append.1 hk with hk | hk
    · exact hF k hk
    · exact Nat.le_trans hB.size (hG k hk)
/-- what was told so far, and what is left -/
def So (last : Int) (A X S : List D) (l : Int) : Prop := X ++ S = A ∧ (∀ d ∈ X, d.2 ≤ last) ∧ (l = 0 ∨ l ≤ last)
theorem So.next {last now l : Int} {A X S : List D} (h : So last A X S l) (hn : now ≤ last) : So last A (X ++ dT now l S) (dS now l S) (dL now l) := by
  obtain ⟨h1, h2, h3⟩ := h
  refine ⟨?_, fun d hd => ?_, ?_⟩
  · have : dT now l S ++ dS now l S = S := by
      unfold dT dS told rest
      split
      · exact List.takeWhile_append_dropWhile
      · rfl
    rw [List.append_assoc, this, h1]
  · rcases List.mem_append.1 hd with hd | hd
    · exact h2 d hd
    · have : d.2 ≤ now := by
        unfold dT told at hd
        split at hd
        · simpa using takeWhile_all _ _ d hd
        · simp at hd
      omega
  · unfold dL
    split
    · exact .inr hn
    · exact h3
theorem So.len {last l : Int} {A X S : List D} (h : So last A X S l) : X.length ≤ A.length ∧ S.length ≤ A.length := by
  rw [← h.1]
  simp
theorem rest_head (now : Int) : ∀ (S : List D) (x : D), (rest now S)[0]? = some x → ¬ x.2 ≤ now
  | [], x, h => by simp [rest] at h
  | d :: S, x, h => by
    unfold rest at h
    by_cases e : d.2 ≤ now
    · rw [List.dropWhile_cons, if_pos (by simpa using e)] at h
      exact rest_head now S x h
    · rw [List.dropWhile_cons, if_neg (by simpa using e)] at h
      simp at h
      rw [← h]
      exact e
/-- the last of them -/
theorem So.last {last l : Int} {A X S : List D} (h : So last A X S l) (ht : okTime last = true) : dueE last l = 0 ∧ dueE last 0 = 0 ∧ X ++ dT last l S = dT last 0 A ∧ dS last l S = dS last 0 A := by
  obtain ⟨h1, h2, h3⟩ := h
  have h0 : 0 ≤ last := by unfold okTime at ht; simp at ht; exact ht.1
  have e1 : dueE last l = 0 := by
    unfold dueE
    rw [if_pos]
    rw [ht]
    simp
    omega
  have e2 : dueE last 0 = 0 := by
    unfold dueE
    rw [if_pos]
    rw [ht]
    simpa using h0
  refine ⟨e1, e2, ?_⟩
  unfold dT dS
  rw [if_pos e1, if_pos e2, if_pos e1, if_pos e2]
  have := split_due (now := last) (T := X ++ told last S) (S := rest last S) (fun x hx => by
    rcases List.mem_append.1 hx with hx | hx
    · exact h2 x hx
    · simpa using takeWhile_all _ _ x hx) (rest_head last S)
  have e : (X ++ told last S) ++ rest last S = A := by
    rw [List.append_assoc, ← h1]
    congr 1
    exact List.takeWhile_append_dropWhile
  rw [e] at this
  exact ⟨this.1.symm, this.2.symm⟩
theorem bad_last {last l : Int} (ht : okTime last = false) : dueE last l = 80 ∧ ∀ S, dT last l S = [] := by
  have e : dueE last l = 80 := by
    unfold dueE
    rw [ht]
    rfl
  refine ⟨e, fun S => ?_⟩
  unfold dT
  rw [e]
  rfl
end Go.Proofs.Ytinhhfnknlmdgaa.Tm
