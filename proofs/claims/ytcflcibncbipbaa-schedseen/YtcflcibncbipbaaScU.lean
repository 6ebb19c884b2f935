/-
  Views of paths that are not fit play no part: a list of views that is changed where a path is not fit.
  Conditions: views that may be.
-/
import Derived.Test.YtcflcibncbipbaaScT
namespace Go.Proofs.Ytcflcibncbipbaa.Sc
open Go.ChangeShapes Go.WideShapes Go.ChangeAt Go.RowKit
open Ba (hidden Has Only)
set_option linter.unusedVariables false

/-- changed below i where a path is not among F -/
def Upd (vs : List Vw) (F : List Int) (p t : Int) (i : Nat) (M : List Vw) : Prop := M.length = vs.length ∧ ∀ k q, vs[k]? = some q → M[k]? = some (if k < i ∧ ¬ ((k : Int) ∈ F) then (q.1, p, t, false) else q)
theorem Upd.first (vs : List Vw) (F : List Int) (p t : Int) : Upd vs F p t 0 vs := ⟨rfl, fun k q h => by rw [if_neg (by omega)]; exact h⟩
theorem Upd.keep {vs : List Vw} {F : List Int} {p t : Int} {i : Nat} {M : List Vw} (h : Upd vs F p t i M) (hi : (i : Int) ∈ F) : Upd vs F p t (i + 1) M := ⟨h.1, fun k q hk => by
  rw [h.2 k q hk]
  by_cases e : k = i
  · subst e
    rw [if_neg (fun h => h.2 hi), if_neg (fun h => h.2 hi)]
  · have : (k < i ∧ ¬ ((k : Int) ∈ F)) ↔ (k < i + 1 ∧ ¬ ((k : Int) ∈ F)) := ⟨fun h => ⟨by omega, h.2⟩, fun h => ⟨by omega, h.2⟩⟩
    by_cases c : k < i ∧ ¬ ((k : Int) ∈ F)
    · rw [if_pos c, if_pos (this.1 c)]
    · rw [if_neg c, if_neg (fun x => c (this.2 x))]⟩
theorem Upd.at {vs : List Vw} {F : List Int} {p t : Int} {i : Nat} {M : List Vw} (h : Upd vs F p t i M) {q : Vw} (hq : vs[i]? = some q) : M[i]? = some q := by
  rw [h.2 i q hq, if_neg (by omega)]
theorem Upd.turn {vs : List Vw} {F : List Int} {p t : Int} {i : Nat} {M : List Vw} (h : Upd vs F p t i M) (hi : ¬ ((i : Int) ∈ F)) {q : Vw} (hq : vs[i]? = some q) : Upd vs F p t (i + 1) (M.set i (q.1, p, t, false)) := ⟨by simpa using h.1, fun k r hk => by
  have hil : i < vs.length := (List.getElem?_eq_some_iff.1 hq).1
  by_cases e : k = i
  · subst e
    rw [hq] at hk
    cases hk
    rw [List.getElem?_set_self (by rw [h.1]; exact hil), if_pos ⟨by omega, hi⟩]
  · rw [List.getElem?_set_ne (by omega), h.2 k r hk]
    have : (k < i ∧ ¬ ((k : Int) ∈ F)) ↔ (k < i + 1 ∧ ¬ ((k : Int) ∈ F)) := ⟨fun h => ⟨by omega, h.2⟩, fun h => ⟨by omega, h.2⟩⟩
    by_cases c : k < i ∧ ¬ ((k : Int) ∈ F)
    · rw [if_pos c, if_pos (this.1 c)]
    · rw [if_neg c, if_neg (fun x => c (this.2 x))]⟩
theorem rb_congr {vs ws : List Vw} : ∀ {k : Nat}, (∀ j, j < k → stt vs j = stt ws j) → rb vs k = rb ws k
  | 0, _ => rfl
  | k + 1, h => by
    unfold rb
    rw [rb_congr fun j hj => h j (by omega), h k (by omega)]
theorem srt_congr {co co' : Nat → Int} {l : List Int} (hl : l.Pairwise (· < ·)) (h : ∀ x ∈ l, co x.toNat = co' x.toNat) : srt (lx co) l = srt (lx co') l := by
  have p1 := srt_perm (lx co) l
  have p2 := srt_perm (lx co') l
  refine List.Perm.eq_of_pairwise (le := fun a b => lx co a b = true) (fun a b _ _ h1 h2 => (lx_asym co h1 h2).elim) (lx_rise co hl) ?_ (p1.trans p2.symm)
  refine List.Pairwise.imp_of_mem ?_ (lx_rise co' hl)
  intro a b ha hb hab
  rw [lx_congr (h a (p2.mem_iff.1 ha)) (h b (p2.mem_iff.1 hb))]
  exact hab
theorem upd_parts {vs : List Vw} {F : List Int} {p t : Int} {M : List Vw} (h : Upd vs F p t vs.length M) {k : Nat} (hk : k < vs.length) : stt M k = stt vs k ∧ ((k : Int) ∈ F → spc M k = spc vs k ∧ trp M k = trp vs k ∧ shr M k = shr vs k) ∧ (¬ ((k : Int) ∈ F) → spc M k = p ∧ trp M k = t ∧ shr M k = false) := by
  have hz : vs[k]? = some vs[k] := List.getElem?_eq_getElem hk
  obtain ⟨a1, a2, a3, a4⟩ := parts hz
  have hM := h.2 k _ hz
  by_cases hm : (k : Int) ∈ F
  · rw [if_neg (fun x => x.2 hm)] at hM
    obtain ⟨b1, b2, b3, b4⟩ := parts hM
    exact ⟨by rw [b1, a1], fun _ => ⟨by rw [b2, a2], by rw [b3, a3], by rw [b4, a4]⟩, fun x => absurd hm x⟩
  · rw [if_pos ⟨hk, hm⟩] at hM
    obtain ⟨b1, b2, b3, b4⟩ := parts hM
    exact ⟨by rw [b1, a1], fun x => absurd x hm, fun _ => ⟨b2, b3, b4⟩⟩
theorem upd_ok {vs : List Vw} {F : List Int} {p t : Int} {M : List Vw} (hv : ∀ v ∈ vs, okv v) (hp : 0 ≤ p ∧ p ≤ 1073741824) (ht : 0 ≤ t ∧ t ≤ 1048576) (h : Upd vs F p t vs.length M) : ∀ v ∈ M, okv v := by
  intro v hm
  have hl := h.1
  obtain ⟨k, hk, rfl⟩ := List.getElem_of_mem hm
  have hz : M[k]? = some M[k] := List.getElem?_eq_getElem hk
  obtain ⟨e1, e2, e3, _⟩ := parts hz
  obtain ⟨s1, s2, s3⟩ := upd_parts h (k := k) (by omega)
  have ok := ok_at hv (k := k) (by omega)
  unfold okv
  rw [← e1, ← e2, ← e3, s1]
  by_cases hm : (k : Int) ∈ F
  · rw [(s2 hm).1, (s2 hm).2.1]
    exact ok
  · rw [(s3 hm).1, (s3 hm).2.1]
    exact ⟨ok.1, hp, ht⟩
/-- the order is the same -/
theorem seen_same {vs : List Vw} {p t : Int} {M : List Vw} (hc : chk vs = 0) (hp : 0 ≤ p ∧ p ≤ 1073741824) (ht : 0 ≤ t ∧ t ≤ 1048576) (h : Upd vs (fit vs) p t vs.length M) (kind last : Int) : oL kind last M = oL kind last vs ∧ oE kind M = oE kind vs := by
  obtain ⟨h8, hv⟩ := chk_0 hc
  have hl := h.1
  have hvM : ∀ v ∈ M, okv v := upd_ok hv hp ht h
  have hcM : chk M = 0 := chk_ok (by rw [hl]; exact h8) (List.all_eq_true.2 fun v hm => (okB_iff v).2 (hvM v hm))
  have hr : rcl M = rcl vs := by
    unfold rcl
    rw [hl, rb_congr fun j hj => (upd_parts h hj).1]
  have hfit : fit M = fit vs := by
    rw [← fit_eq hvM, ← fit_eq hv]
    unfold rfit
    rw [hl, hr]
    refine upto_congr fun k hk => ?_
    obtain ⟨s1, s2, s3⟩ := upd_parts h hk
    by_cases hm : (k : Int) ∈ fit vs
    · unfold fq
      rw [s1, (s2 hm).1, (s2 hm).2.2]
    · have e1 : fq (rcl vs) M k = false := by
        unfold fq
        rw [(s3 hm).2.2, Bool.and_false]
      have e2 : fq (rcl vs) vs k = false := by
        cases e : fq (rcl vs) vs k with
        | false => rfl
        | true =>
          refine absurd ?_ hm
          rw [← fit_eq hv]
          exact mem_upto.2 ⟨k, hk, rfl, e⟩
      rw [e1, e2]
  by_cases hk : 0 ≤ kind ∧ kind ≤ 2
  · refine ⟨?_, by rw [(o_ok hcM hk last).1, (o_ok hc hk last).1]⟩
    rw [(o_ok hcM hk last).2, (o_ok hc hk last).2]
    unfold ord
    rw [hfit]
    refine srt_congr (fit_wf vs).1 fun x hx => ?_
    have hin := (fit_wf vs).2.1 x hx
    obtain ⟨_, s2, _⟩ := upd_parts h (k := x.toNat) (by omega)
    have s2 := s2 (by rw [Int.toNat_of_nonneg hin.1]; exact hx)
    unfold cst
    rw [s2.1, s2.2.1, hl]
  · exact ⟨by rw [(o_out hcM hk last).2, (o_out hc hk last).2], by rw [(o_out hcM hk last).1, (o_out hc hk last).1]⟩
theorem next_same {vs M : List Vw} {kind last : Int} (h : oL kind last M = oL kind last vs) : nV kind last M = nV kind last vs ∧ nB kind last M = nB kind last vs := by
  unfold nV nB
  rw [h]
  exact ⟨rfl, rfl⟩
theorem any_next {F : List Int} {k : Nat} {y : Int} (h : F[k]? = some y) (i : Int) : (F.take (k + 1)).any (fun x => x == i) = ((F.take k).any (fun x => x == i) || (y == i)) := by
  rw [List.take_add_one, h, List.any_append]
  simp only [Option.toList_some, List.any_cons, List.any_nil, Bool.or_false]
theorem any_mem (F : List Int) (i : Int) : F.any (fun x => x == i) = true ↔ i ∈ F := by
  rw [List.any_eq_true]
  exact ⟨fun ⟨x, h1, h2⟩ => by rw [beq_iff_eq] at h2; exact h2 ▸ h1, fun h => ⟨i, h, by simp⟩⟩
/-! views in a block of one's own -/
def vc (vs : List Vw) : List Value := vs.flatMap fun q => [.int .i64 q.1, .int .i64 q.2.1, .int .i64 q.2.2.1, .bool q.2.2.2]
theorem vc_len : ∀ vs : List Vw, (vc vs).length = vs.length * 4
  | [] => rfl
  | q :: vs => by
    have := vc_len vs
    simp only [vc, List.flatMap_cons, List.length_append, List.length_cons, List.length_nil] at *
    omega
theorem vc_one (vs : List Vw) : ∀ u ∈ vc vs, u.oneCell' = true := by
  intro u hu
  obtain ⟨q, _, h⟩ := List.mem_flatMap.1 hu
  simp only [List.mem_cons, List.not_mem_nil, or_false] at h
  rcases h with rfl | rfl | rfl | rfl <;> rfl
theorem vc_get : ∀ {vs : List Vw} {i : Nat} {q : Vw}, vs[i]? = some q → (vc vs)[i * 4]? = some (.int .i64 q.1) ∧ (vc vs)[i * 4 + 1]? = some (.int .i64 q.2.1) ∧ (vc vs)[i * 4 + 2]? = some (.int .i64 q.2.2.1) ∧ (vc vs)[i * 4 + 3]? = some (.bool q.2.2.2)
  | [], i, q, h => by simp at h
  | r :: vs, 0, q, h => by
    cases h
    exact ⟨rfl, rfl, rfl, rfl⟩
  | r :: vs, i + 1, q, h => by
    have ih := vc_get (vs := vs) (i := i) (q := q) (by simpa using h)
    have e : ∀ k, (vc (r :: vs))[(i + 1) * 4 + k]? = (vc vs)[i * 4 + k]? := fun k => by
      rw [show (i + 1) * 4 + k = (i * 4 + k) + 4 by omega]
      rfl
    exact ⟨(e 0).trans ih.1, (e 1).trans ih.2.1, (e 2).trans ih.2.2.1, (e 3).trans ih.2.2.2⟩
theorem vs_news {w : World} {b off n : Nat} {vs : List Vw} (h : Vs w (some ⟨b, off, none⟩) n vs) : ∀ j u, (vc vs)[j]? = some u → w.cell? ((⟨b, off, none⟩ : Addr).add j) = some u := by
  intro j u hj
  have hjl := (List.getElem?_eq_some_iff.1 hj).1
  rw [vc_len, h.len] at hjl
  rw [Go.WideShapes.add_plain]
  obtain ⟨i, c, hc, rfl⟩ : ∃ i c, c < 4 ∧ j = i * 4 + c := ⟨j / 4, j % 4, Nat.mod_lt _ (by decide), by omega⟩
  have hi : i < n := by omega
  have hiv : i < vs.length := by rw [h.len]; exact hi
  have hz : vs[i]? = some vs[i] := List.getElem?_eq_getElem hiv
  obtain ⟨a1, a2, a3, a4⟩ := parts hz
  obtain ⟨g1, g2, g3, g4⟩ := Vs.get h hi
  obtain ⟨v1, v2, v3, v4⟩ := vc_get hz
  rw [← a1] at v1
  rw [← a2] at v2
  rw [← a3] at v3
  rw [← a4] at v4
  rw [← Nat.add_assoc]
  rcases show c = 0 ∨ c = 1 ∨ c = 2 ∨ c = 3 by omega with rfl | rfl | rfl | rfl
  · rw [Nat.add_zero] at hj ⊢
    rw [g1, ← v1, hj]
  · rw [g2, ← v2, hj]
  · rw [g3, ← v3, hj]
  · rw [g4, ← v4, hj]
def Vm (w : World) (b : Nat) (M : List Vw) : Prop := ∃ cs : Array Value, Has w b cs 42 ∧ ∀ i q, M[i]? = some q → cs[i * 4]? = some (.int .i64 q.1) ∧ cs[i * 4 + 1]? = some (.int .i64 q.2.1) ∧ cs[i * 4 + 2]? = some (.int .i64 q.2.2.1) ∧ cs[i * 4 + 3]? = some (.bool q.2.2.2)
theorem Vm.later {w w' : World} {b : Nat} {M : List Vw} (h : Vm w b M) (hB : Below w.heap.size w w') : Vm w' b M := by
  obtain ⟨cs, h1, h2⟩ := h
  exact ⟨cs, h1.later hB, h2⟩
theorem Vm.frozen {w : World} {b : Nat} {M : List Vw} (h : Vm w b M) (k : Nat) : w.frozen? ⟨b, k, none⟩ = false := by
  obtain ⟨cs, h1, _⟩ := h
  exact h1.frozen k
theorem Vm.lt {w : World} {b : Nat} {M : List Vw} (h : Vm w b M) : b < w.heap.size := by
  obtain ⟨cs, h1, _⟩ := h
  exact h1.lt
theorem Vm.cells {w : World} {b : Nat} {M : List Vw} (h : Vm w b M) {i : Nat} {q : Vw} (hq : M[i]? = some q) : w.cell? ⟨b, i * 4, none⟩ = some (.int .i64 q.1) ∧ w.cell? ⟨b, i * 4 + 1, none⟩ = some (.int .i64 q.2.1) ∧ w.cell? ⟨b, i * 4 + 2, none⟩ = some (.int .i64 q.2.2.1) ∧ w.cell? ⟨b, i * 4 + 3, none⟩ = some (.bool q.2.2.2) := by
  obtain ⟨cs, h1, h2⟩ := h
  obtain ⟨c0, c1, c2, c3⟩ := h2 i q hq
  exact ⟨h1.cell _ c0, h1.cell _ c1, h1.cell _ c2, h1.cell _ c3⟩
theorem Vm.vs {w : World} {b n : Nat} {M : List Vw} (h : Vm w b M) (hl : M.length = n) (hn : n ≤ 8) (hw : ∀ v ∈ M, okv v) : Vs w (some ⟨b, 0, none⟩) n M := by
  refine ⟨hl, fun z hz => ?_, by omega, .inr ⟨b, 0, rfl, h.lt, fun j z hz c u hu => ?_⟩⟩
  · obtain ⟨o1, o2, o3⟩ := hw z hz
    exact ⟨wf_in (by omega), wf_in (by omega), wf_in (by omega)⟩
  · obtain ⟨c0, c1, c2, c3⟩ := h.cells hz
    rw [Nat.zero_add]
    match c, hu with
    | 0, hu => simp at hu; subst hu; exact c0
    | 1, hu => simp at hu; subst hu; exact c1
    | 2, hu => simp at hu; subst hu; exact c2
    | 3, hu => simp at hu; subst hu; exact c3
    | c + 4, hu => simp at hu
theorem Vm.set {w : World} {b : Nat} {M : List Vw} (h : Vm w b M) {i : Nat} {q : Vw} (hq : M[i]? = some q) (p t : Int) : Vm (((w.setCell ⟨b, i * 4 + 2, none⟩ (.int .i64 t)).setCell ⟨b, i * 4 + 1, none⟩ (.int .i64 p)).setCell ⟨b, i * 4 + 3, none⟩ (.bool false)) b (M.set i (q.1, p, t, false)) := by
  obtain ⟨cs, h1, h2⟩ := h
  refine ⟨_, ((h1.set _ _).set _ _).set _ _, fun k r hr => ?_⟩
  have hsz : ∀ {j u}, cs[j]? = some u → j < cs.size := fun h => (Array.getElem?_eq_some_iff.1 h).1
  by_cases e : k = i
  · subst e
    rw [List.getElem?_set_self (List.getElem?_eq_some_iff.1 hq).1] at hr
    cases hr
    obtain ⟨c0, c1, c2, c3⟩ := h2 k q hq
    have z1 := hsz c1
    have z2 := hsz c2
    have z3 := hsz c3
    simp only [Array.getElem?_setIfInBounds, Array.size_setIfInBounds]
    refine ⟨?_, ?_, ?_, ?_⟩
    · rw [if_neg (by omega), if_neg (by omega), if_neg (by omega)]; exact c0
    · rw [if_neg (by omega), if_pos trivial, if_pos z1]
    · rw [if_neg (by omega), if_neg (by omega), if_pos trivial, if_pos z2]
    · rw [if_pos trivial, if_pos z3]
  · rw [List.getElem?_set_ne (by omega)] at hr
    obtain ⟨c0, c1, c2, c3⟩ := h2 k r hr
    simp only [Array.getElem?_setIfInBounds, Array.size_setIfInBounds]
    refine ⟨?_, ?_, ?_, ?_⟩
    · rw [if_neg (by omega), if_neg (by omega), if_neg (by omega)]; exact c0
    · rw [if_neg (by omega), if_neg (by omega), if_neg (by omega)]; exact c1
    · rw [if_neg (by omega), if_neg (by omega), if_neg (by omega)]; exact c2
    · rw [if_neg (by omega), if_neg (by omega), if_neg (by omega)]; exact c3
theorem infoV : (Try.prog.info? 42).map (fun i => (i.zero, i.size, i.bytes)) = some (some (.agg #[.int .i64 0, .int .i64 0, .int .i64 0, .bool false]), 4, 32) := by kernel_rfl
/-- a copy -/
theorem copy_views {w : World} {b off n cap : Nat} {vs : List Vw} (h : Vs w (some ⟨b, off, none⟩) n vs) (hn : 0 < n ∧ n ≤ 8) : ∃ g c w', (Builtin.append_ #[22, 22] 22 #[.slice (some ⟨w.heap.size, 0, none⟩) 0 0, .slice (some ⟨b, off, none⟩) n cap]).run Try.prog (w.alloc (.cells #[] 42)) = .ok (.slice (some ⟨g, 0, none⟩) n c) w' ∧ w.heap.size ≤ g ∧ Vm w' g vs ∧ Below w.heap.size w w' := by
  have hb := (Below.refl w.heap.size w).alloc (Nat.le_refl _) (.cells #[] 42)
  have hown : (w.alloc (.cells #[] 42)).ownsRow w.heap.size 42 4 (.slice (some ⟨w.heap.size, 0, none⟩) 0 0) 0 [] := World.ownsRow_lit w #[] 0 (Nat.le_refl _) (Nat.zero_le _) rfl
  obtain ⟨v', w', hr, ho, hg, _⟩ := Ba.append_at (P := Try.prog) (t := 22) (ty := 22) (c := cap) Try.underlying22 infoV rfl (by decide) hown (m := n) (news := vc vs) (by rw [vc_len, h.len]) (vs_news (h.later hb)) (vc_one vs) (.inl hn.1) (by unfold maxLen; omega) (by omega) (by simp)
  rw [Nat.zero_add, List.nil_append] at ho
  rcases ho.2 with ⟨_, h0⟩ | ⟨g, c, cur, rfl, g1, g2, g3, g4, g5, g6⟩
  · omega
  · refine ⟨g, c, w', hr, g1, ⟨cur, g2, fun i q hq => ?_⟩, hb.grown hg (by simp) (fun k hk => by cases hk; exact Nat.le_refl _)⟩
    have hil : i < n := by have := (List.getElem?_eq_some_iff.1 hq).1; rw [h.len] at this; exact this
    obtain ⟨c0, c1, c2, c3⟩ := vc_get hq
    rw [← g6] at c0 c1 c2 c3
    rw [List.getElem?_take_of_lt (by omega), Array.getElem?_toList] at c0 c1 c2 c3
    exact ⟨c0, c1, c2, c3⟩
end Go.Proofs.Ytcflcibncbipbaa.Sc
