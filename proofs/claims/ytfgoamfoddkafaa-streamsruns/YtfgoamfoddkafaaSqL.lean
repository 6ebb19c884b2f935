/-
  A queue's blocks of bytes, named more or less narrowly; bytes that a law copies and changes.
  Conditions: as at each lemma.
-/
import Derived.Test.YtfgoamfoddkafaaSqK
namespace Go.Proofs.Ytfgoamfoddkafaa.Sq
open Go.ChangeShapes Go.WideShapes Go.ChangeAt Go.RowKit
open Ba (hidden Has Only cell_lt heap_lt)
open Ow (Bk)
set_option linter.unusedVariables false

section
variable {D D' F : Nat → Prop} {w w' : World} {t : Nat} {S : St}
theorem Cd.named (h : Cd D w t S F) (hD : ∀ k cur, D k → Has w k cur 5 → D' k) : Cd D' w t S F := by
  obtain ⟨hg, b, vs, P, hN, hF⟩ := h
  refine ⟨hg, b, vs, P, ⟨hN.q, hN.ln, hN.rw_, hN.pr, fun i p hi hp => ?_, hN.ap⟩, hF⟩
  obtain ⟨g, off, cap, cur, e, hd, hh, r⟩ := hN.by_ i p hi hp
  exact ⟨g, off, cap, cur, e, hD g cur hd hh, hh, r⟩
/-- a block of bytes that is none of the queue's turns -/
theorem Cd.bytes {g : Nat} {cur : Array Value} (h : Cd D w t S F) (hg : Has w g cur 5) (hD : ¬ D g) (hm : Mod (fun k => k = g) w w') : Cd D w' t S F :=
  h.stay hm (fun k hk e => by
    subst e
    obtain ⟨cs, ty, hh, ht⟩ := h.type hk
    have := has_type hg hh
    subst this
    rcases ht with h | h | h <;> exact absurd h (by decide)) (fun k cur hd _ e => hD (e ▸ hd))
end
theorem nxt_one {S : St} (hn : S.n = 1) (hR : S.R 0 ≠ []) : nxt S = some 0 := by
  have e : od S 0 = 0 := by unfold od; rw [hn, Nat.mod_one]
  have := nxt_at (S := S) (k := 0) (by omega) (fun j hj => by omega) (by rw [e]; exact hR)
  rwa [e] at this
theorem tak_of {S : St} {i : Nat} {r : Rest} {rs : List Rest} {n : Int} (hn : 1 ≤ n) (hx : nxt S = some i) (hR : S.R i = r :: rs) : tak S n = some (cut r (S.sn i) n, takeS S i r rs n) := by
  unfold tak
  rw [if_neg (by omega), hx]
  simp [hR]
theorem own_copy {w : World} {a : Option Addr} {len cap : Nat} {zs : List Int} (h : Row w a len zs) (hn : a = none → len = 0 ∧ cap = 0) : ∃ g vc wc, (Builtin.append_ #[34, 34] 34 #[.slice (some ⟨w.heap.size, 0, none⟩) 0 0, .slice a len cap]).run Try.prog (w.alloc (.cells #[] 5)) = .ok (.slice (some ⟨g, 0, none⟩) len vc) wc ∧ Mine w.heap.size wc (.slice (some ⟨g, 0, none⟩) len vc) zs ∧ Below w.heap.size w wc ∧ w.heap.size ≤ g ∧ g < wc.heap.size := by
  have hB : Below w.heap.size w (w.alloc (.cells #[] 5)) := (Below.refl _ w).alloc (Nat.le_refl _) _
  have hM : Mine w.heap.size (w.alloc (.cells #[] 5)) (.slice (some ⟨w.heap.size, 0, none⟩) 0 0) [] :=
    ⟨⟨rfl, .inr ⟨w.heap.size, 0, #[], rfl, Nat.le_refl _, heap_alloc_new w _, Nat.le_refl _, by decide, rfl, rfl⟩⟩, Bytes.nil, by decide⟩
  rcases a with _ | ad
  · obtain ⟨rfl, rfl⟩ := hn rfl
    obtain rfl := List.eq_nil_of_length_eq_zero h.1
    obtain ⟨i, hi, _⟩ := info_parts info5
    exact ⟨_, _, _, run_append_owned_none (P := Try.prog) (w := w.alloc (.cells #[] 5)) w.heap.size 34 34 5 i 1 Try.underlying34 hi _ _ _ hM.1, hM, hB, Nat.le_refl _, by simp⟩
  · obtain ⟨v3, w3, hrun, m3, g3, hw⟩ := app_bytes (c := cap) hM (h.later hB) (.inr (by simp [Value.ownBlock])) (by rw [h.1]; have := h.2.2.1; simpa using this) hB.size
    have hsome : ∃ g, v3.ownBlock = some g := by
      rcases hw with e | e
      · exact ⟨_, e⟩
      · exact ⟨_, e⟩
    obtain ⟨g, hg⟩ := hsome
    have hlt := m3.1.lt g hg
    have hzl : ([] ++ zs).length = len := by simpa using h.1
    rcases m3.1.2 with ⟨rfl, _⟩ | ⟨g', vc, cur, rfl, _⟩
    · cases hg
    · cases hg
      rw [hzl] at hrun m3
      exact ⟨g', vc, w3, hrun, m3, hB.grown g3 hB.size (fun j hj => (hM.1.lt j hj).1), hlt.1, hlt.2⟩
/-- bytes of one's own: their block -/
theorem Mine.block {base : Nat} {w : World} {g len cap : Nat} {zs : List Int} (h : Mine base w (.slice (some ⟨g, 0, none⟩) len cap) zs) (hl : zs.length = len) : ∃ cur, Has w g cur 5 ∧ base ≤ g ∧ len ≤ cur.size ∧ ∀ j, j < len → cur[j]? = some (.int .u8 (zs.getD j 0)) := by
  rcases h.1.2 with ⟨e, _⟩ | ⟨g', cap', cur, e, hb, hg, hcap, hcm, hsz, htake⟩
  · cases e
  · cases e
    refine ⟨cur, hg, hb, by omega, fun j hj => ?_⟩
    rw [Nat.mul_one] at htake
    have e := congrArg (fun t => t[j]?) htake
    simp only [List.getElem?_take, if_pos (show j < zs.length by omega), cs, List.getElem?_map, List.getElem?_eq_getElem (show j < zs.length by omega)] at e
    rw [List.getD_eq_getElem?_getD, List.getElem?_eq_getElem (by omega)]
    simpa using e
end Go.Proofs.Ytfgoamfoddkafaa.Sq
