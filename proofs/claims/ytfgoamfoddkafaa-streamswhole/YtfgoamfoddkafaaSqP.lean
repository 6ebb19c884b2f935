/-
  What the law of whole messages keeps between two pieces.
  Conditions: as at each lemma.
-/
import Derived.Test.YtfgoamfoddkafaaSqO
namespace Go.Proofs.Ytfgoamfoddkafaa.Sq
open Go.ChangeShapes Go.WideShapes Go.ChangeAt Go.RowKit
open Ba (hidden Has Only cell_lt heap_lt)
set_option linter.unusedVariables false

theorem tak_none {S : St} {n : Int} (hg : Good S) (hn : 1 ≤ n) (h : tak S n = none) : nxt S = none := by
  cases hx : nxt S with
  | none => rfl
  | some i =>
    obtain ⟨h1, h2⟩ := nxt_some hg.n1 hx
    cases hR : S.R i with
    | nil => exact absurd hR h2
    | cons r rs => rw [tak_of hn hx hR] at h; cases h
theorem ms_at {base : Nat} {w : World} {v : Value} {ms : List MA} (h : Ms base w v ms) {j : Nat} {z : MA} (hj : ms[j]? = some z) : ∃ g cap, v = .slice (some ⟨g, 0, none⟩) ms.length cap ∧ ms.length ≤ cap ∧ cap ≤ maxLen ∧ ∀ c u, (mc z)[c]? = some u → w.cell? ⟨g, j * 5 + c, none⟩ = some u := by
  have hjl := (List.getElem?_eq_some_iff.1 hj).1
  obtain ⟨g, cap, rfl, _, _, h1, h2⟩ := Ba.own_some h (by omega)
  refine ⟨g, cap, rfl, h1, h2, fun c u hu => ?_⟩
  have hc := (List.getElem?_eq_some_iff.1 hu).1
  rw [mc_len] at hc
  have := h.cells (g := g) rfl (j * 5 + c) u (by unfold msc; rw [flat_at mc_len ms hj hc]; exact hu)
  rw [add_at, Nat.zero_add] at this
  exact this
/-- what the second loop keeps -/
structure Lp (w0 : World) (B : Nat) (w : World) (t : Nat) (S : St) (F : Nat → Prop) (v : Value) (ms : List MA) (ov : Value) (op : List Int) (k : Nat) : Prop where
  wd : Wd w0 w t S F v ms ov op
  wh : Wh S ms op
  cd : Cd (fun k => k < B) w t S F
  ob : ∀ k, ov.ownBlock = some k → B ≤ k
  bb : w0.heap.size ≤ B ∧ B ≤ w.heap.size
  ml : ms.length ≤ 200
  kw : (k : Int) + S.wt ≤ 1073741824
  ow : (op.length : Int) + S.wt ≤ 1073741824
/-- behind a piece -/
theorem Lp.piece {w0 w w5 w6 : World} {B t k i xl xc : Nat} {S : St} {F F5 : Nat → Prop} {v ov : Value} {ms : List MA} {op : List Int} {r : Rest} {rs : List Rest} {n : Int} {ad : Addr} (h : Lp w0 B w t S F v ms ov op k) (hx : nxt S = some i) (hR : S.R i = r :: rs) (hn : 1 ≤ n)
    (hm5 : Mod F w w5) (hc5 : Cd (fun k => k < B) w5 t (takeS S i r rs n) F5) (hF5 : ∀ k, F5 k → F k) (hB6 : Below w5.heap.size w5 w6) (hxr : Row w6 (some ad) xl (r.d.take n.toNat)) (hxl : 0 < xl) :
    ∃ ov' w7, (Builtin.append_ #[34, 34] 34 #[ov, .slice (some ad) xl xc]).run Try.prog w6 = .ok ov' w7 ∧ Wd w0 w7 t (takeS S i r rs n) F5 v ms ov' (op ++ r.d.take n.toNat) ∧ Cd (fun k => k < B) w7 t (takeS S i r rs n) F5 ∧ (∀ k, ov'.ownBlock = some k → B ≤ k) ∧ (B ≤ w7.heap.size) ∧ ∀ b cs ty, Has w6 b cs ty → ty ≠ 5 → Has w7 b cs ty := by
  have hd5 := h.wd.step hm5 (hc5.named (D' := fun _ => True) (fun _ _ _ _ => trivial)) (fun k hk => .inl (hF5 k hk))
  have hd6 := hd5.later hB6
  have hc6 := hc5.later hB6
  have hg5 := hc5.1
  have hB5 : B ≤ w6.heap.size := Nat.le_trans h.bb.2 (Nat.le_trans hm5.size hB6.size)
  obtain ⟨ov', w7, hr, hm7, hg7, hp7⟩ := app_bytes (c := xc) hd6.mi hxr (.inl hxl) (by
    have h1 := h.ow
    have h2 := hg5.w1
    change 0 ≤ S.wt - (r.d.take n.toNat).length at h2
    omega) hd6.bw.size
  have hmod : Mod (fun k => ov.ownBlock = some k) w6 w7 := Mod.grown hg7 (fun k hk => hk)
  have hty : ∀ b cs ty, Has w6 b cs ty → ty ≠ 5 → ¬ ov.ownBlock = some b := fun b cs ty hh hne e => by
    obtain ⟨cur, hh', _⟩ := hd6.mi.obj e
    exact hne (has_type hh hh')
  refine ⟨ov', w7, hr, hd6.grow hg7 hm7 hp7 (hc6.named (fun k cur hd _ e => by have := h.ob k e; omega)), hc6.stay hmod (fun k hk => ?_) (fun k cur hd _ e => by have := h.ob k e; omega), fun k hk => ?_, Nat.le_trans hB5 hg7.size, fun b cs ty hh hne => hmod.has hh (hty b cs ty hh hne)⟩
  · obtain ⟨cs, ty, hh', ht⟩ := hc6.type hk
    exact hty k cs ty hh' (by rcases ht with e | e | e <;> rw [e] <;> decide)
  · rcases hp7 with e | e
    · exact h.ob k (e ▸ hk)
    · rw [e] at hk; cases hk; exact hB5
theorem at_eq {A B : List MA} {z y : MA} {i j : Nat} (hA : ∀ y ∈ A, isS i y = false) (hy : (A ++ z :: B)[j]? = some y) (hi : y.st = (i : Int)) (hj : j ≤ A.length) : j = A.length := by
  rcases Nat.lt_or_ge j A.length with h | h
  · rw [List.getElem?_append_left h] at hy
    have := hA y (List.mem_of_getElem? hy)
    unfold isS at this
    rw [hi] at this
    simp at this
  · omega
theorem at_ne {A B : List MA} {z y : MA} {i j : Nat} (hz : isS i z = true) (hy : (A ++ z :: B)[j]? = some y) (hi : ¬ y.st = (i : Int)) (hj : j ≤ A.length) : j + 1 ≤ A.length := by
  rcases Nat.lt_or_ge j A.length with h | h
  · omega
  · obtain rfl : j = A.length := by omega
    rw [List.getElem?_append_right (Nat.le_refl _)] at hy
    simp at hy
    subst hy
    unfold isS at hz
    simp at hz
    exact absurd hz hi
/-- a message is left out of a row -/
theorem Wd.out {w0 w9 : World} {t g L vcap : Nat} {S : St} {F : Nat → Prop} {ov : Value} {op : List Int} {A B : List MA} {z : MA} (h : Wd w0 w9 t S F (.slice (some ⟨g, 0, none⟩) L vcap) (A ++ z :: B) ov op) (hl : (A ++ z :: B).length ≤ 200) (c2 : Nat) (ad : Addr) (had : B ≠ [] → ad = ⟨g, (A.length + 1) * 5, none⟩) :
    ∃ v10 w10 v11 w11, (Builtin.append_ #[38, 38] 38 #[.slice (some ⟨w9.heap.size, 0, none⟩) 0 0, .slice (some ⟨g, 0, none⟩) A.length vcap]).run Try.prog (w9.alloc (.cells #[] 42)) = .ok v10 w10 ∧
      (Builtin.append_ #[38, 38] 38 #[v10, .slice (some ad) B.length c2]).run Try.prog w10 = .ok v11 w11 ∧ Ms w9.heap.size w11 v11 (A ++ B) ∧ Below w9.heap.size w9 w11 := by
  rw [List.length_append, List.length_cons] at hl
  have hB : Below w9.heap.size w9 (w9.alloc (.cells #[] 42)) := (Below.refl _ w9).alloc (Nat.le_refl _) _
  have hE : Ms w9.heap.size (w9.alloc (.cells #[] 42)) (.slice (some ⟨w9.heap.size, 0, none⟩) 0 0) [] :=
    ⟨rfl, .inr ⟨w9.heap.size, 0, #[], rfl, Nat.le_refl _, heap_alloc_new w9 _, Nat.le_refl _, by decide, rfl, rfl⟩⟩
  have hcells := h.om.cells (g := g) rfl
  have hsplit : msc (A ++ z :: B) = msc A ++ (mc z ++ msc B) := by unfold msc; rw [List.flatMap_append, List.flatMap_cons]
  rw [hsplit] at hcells
  have hold : ∀ {x : World}, Below w9.heap.size w9 x → ∀ j u, (msc A ++ (mc z ++ msc B))[j]? = some u → x.cell? ⟨g, j, none⟩ = some u := fun hx j u hj => by
    have := hcells j u hj
    rw [add_at, Nat.zero_add] at this
    exact (hx.cell (p := ⟨g, j, none⟩) (cell_lt this)).trans this
  obtain ⟨v10, w10, r1, m1, g1, p1⟩ := app_msgs (ns := A) (ad := ⟨g, 0, none⟩) (c := vcap) hE hB.size (by simp only [List.length_nil]; omega) (.inr (by simp [Value.ownBlock])) (fun j u hj => by
    rw [add_at, Nat.zero_add]
    refine hold hB j u ?_
    rw [List.getElem?_append_left (List.getElem?_eq_some_iff.1 hj).1]
    exact hj) 38
  have hB10 : Below w9.heap.size w9 w10 := hB.grown g1 hB.size (fun j hj => by cases hj; exact Nat.le_refl _)
  obtain ⟨v11, w11, r2, m2, g2, p2⟩ := app_msgs (ns := B) (ad := ad) (c := c2) m1 hB10.size (by simp only [List.nil_append]; omega) (.inr (by rcases p1 with e | e <;> rw [e] <;> simp [Value.ownBlock])) (fun j u hj => by
    rw [had (fun e => by rw [e] at hj; cases hj), add_at]
    refine hold hB10 _ u ?_
    rw [List.getElem?_append_right (by rw [msc_len]; omega), msc_len, List.getElem?_append_right (by rw [mc_len]; omega), mc_len, show (A.length + 1) * 5 + j - A.length * 5 - 5 = j by omega]
    exact hj) 38
  refine ⟨v10, w10, v11, w11, r1, r2, by simpa using m2, hB10.grown g2 hB10.size (fun j hj => ?_)⟩
  obtain ⟨_, _, hb⟩ := own_objM m1 hj
  exact hb
end Go.Proofs.Ytfgoamfoddkafaa.Sq
