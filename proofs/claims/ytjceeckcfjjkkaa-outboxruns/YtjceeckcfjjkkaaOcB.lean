/-
  Bytes that a law copies and changes; a box's bytes, named more narrowly.
  Conditions: as at each lemma.
-/
import Derived.Test.YtjceeckcfjjkkaaOcA
namespace Go.Proofs.Ytjceeckcfjjkkaa.Ob
open Go.ChangeShapes Go.WideShapes Go.ChangeAt Go.RowKit
open Ba (hidden Has cell_lt heap_lt)
set_option linter.unusedVariables false
theorem By.named {D D' : Nat → Prop} {w : World} {v : Value} {zs : List Int} (h : By D w v zs) (hD : ∀ k cur, D k → Has w k cur 5 → D' k) : By D' w v zs := by
  obtain ⟨g, off, cap, cur, e, hd, hh, r⟩ := h
  exact ⟨g, off, cap, cur, e, hD g cur hd hh, hh, r⟩
theorem No.named {D D' : Nat → Prop} {w : World} {t f : Nat} {rv : Value} {P : List CV} {nx : Int} {n : Nat} {L : List Ch} {fs : Nat → Int} {m : Int} (h : No D w t f rv P nx n L fs m) (hD : ∀ k cur, D k → Has w k cur 5 → D' k) : No D' w t f rv P nx n L fs m :=
  ⟨h.q, h.fl, h.rw_, h.pr, fun p hp => (h.by_ p hp).named hD⟩
theorem own_copy {w : World} {a : Option Addr} {len cap : Nat} {zs : List Int} (h : Row w a len zs) (hn : a = none → len = 0 ∧ cap = 0) : ∃ g vc wc, (Builtin.append_ #[38, 38] 38 #[.slice (some ⟨w.heap.size, 0, none⟩) 0 0, .slice a len cap]).run Try.prog (w.alloc (.cells #[] 5)) = .ok (.slice (some ⟨g, 0, none⟩) len vc) wc ∧ Mine w.heap.size wc (.slice (some ⟨g, 0, none⟩) len vc) zs ∧ Below w.heap.size w wc ∧ w.heap.size ≤ g ∧ g < wc.heap.size := by
  have hB : Below w.heap.size w (w.alloc (.cells #[] 5)) := (Below.refl _ w).alloc (Nat.le_refl _) _
  have hM : Mine w.heap.size (w.alloc (.cells #[] 5)) (.slice (some ⟨w.heap.size, 0, none⟩) 0 0) [] :=
    ⟨⟨rfl, .inr ⟨w.heap.size, 0, #[], rfl, Nat.le_refl _, heap_alloc_new w _, Nat.le_refl _, by decide, rfl, rfl⟩⟩, Bytes.nil, by decide⟩
  rcases a with _ | ad
  · obtain ⟨rfl, rfl⟩ := hn rfl
    obtain rfl := List.eq_nil_of_length_eq_zero h.1
    obtain ⟨i, hi, _⟩ := info_parts info5
    exact ⟨_, _, _, run_append_owned_none (P := Try.prog) (w := w.alloc (.cells #[] 5)) w.heap.size 38 38 5 i 1 Try.underlying38 hi _ _ _ hM.1, hM, hB, Nat.le_refl _, by simp⟩
  · obtain ⟨v3, w3, hrun, m3, g3, hw⟩ := app_bytes (c := cap) hM (h.later hB) (.inr (by simp [Value.ownBlock])) (by rw [h.1]; have := h.2.2.1; simpa using this) hB.size
    have hsome : ∃ g, v3.ownBlock = some g := by
      rcases hw with e | e
      · exact ⟨_, e⟩
      · exact ⟨_, e⟩
    obtain ⟨g, hg⟩ := hsome
    have hlt := m3.1.lt g hg
    have hzl : ([] ++ zs).length = len := by simpa using h.1
    rcases m3.1.2 with ⟨rfl, _⟩ | ⟨g', vc, cur, rfl, _⟩
    · cases hg
    · cases hg
      rw [hzl] at hrun m3
      exact ⟨g', vc, w3, hrun, m3, hB.grown g3 hB.size (fun j hj => (hM.1.lt j hj).1), hlt.1, hlt.2⟩
/-- bytes of one's own: their block -/
theorem Mine.block {base : Nat} {w : World} {g len cap : Nat} {zs : List Int} (h : Mine base w (.slice (some ⟨g, 0, none⟩) len cap) zs) (hl : zs.length = len) : ∃ cur, Has w g cur 5 ∧ base ≤ g ∧ len ≤ cur.size ∧ ∀ j, j < len → cur[j]? = some (.int .u8 (zs.getD j 0)) := by
  rcases h.1.2 with ⟨e, _⟩ | ⟨g', cap', cur, e, hb, hg, hcap, hcm, hsz, htake⟩
  · cases e
  · cases e
    refine ⟨cur, hg, hb, by omega, fun j hj => ?_⟩
    rw [Nat.mul_one] at htake
    have e := congrArg (fun t => t[j]?) htake
    simp only [List.getElem?_take, if_pos (show j < zs.length by omega), cs, List.getElem?_map, List.getElem?_eq_getElem (show j < zs.length by omega)] at e
    rw [List.getD_eq_getElem?_getD, List.getElem?_eq_getElem (by omega)]
    simpa using e
end Go.Proofs.Ytjceeckcfjjkkaa.Ob
