/-
  Bytes copied by the law itself, and changed; pieces apart from them.
  Conditions: as at each lemma.
-/
import Derived.Test.YteomkmbaoaahoaaFrE
import Derived.Test.YteomkmbaoaahoaaFrH
namespace Go.Proofs.Yteomkmbaoaahoaa.Fr
open Go.ChangeShapes Go.WideShapes Go.ChangeAt Go.RowKit
open Ba (hidden Has Only cell_lt heap_lt)
open Ow (Own)
set_option linter.unusedVariables false

theorem LP.stay {base : Nat} {w w' : World} {v : Value} {ps : List P} {F : List Nat} (h : LP base w v ps) (ho : Only F w w') (hF : ∀ k ∈ F, k < base) : LP base w' v ps :=
  ⟨Ba.own_stay h.1 ho (fun k hk hf => by have := (h.1.lt k hk).1; have := hF k hf; omega), fun p hp => (h.2 p hp).stay ho hF⟩
theorem own_copy {w : World} {a : Option Addr} {len cap : Nat} {zs : List Int} (h : Row w a len zs) (hn : a = none → len = 0 ∧ cap = 0) : ∃ g vc wc, (Builtin.append_ #[22, 22] 22 #[.slice (some ⟨w.heap.size, 0, none⟩) 0 0, .slice a len cap]).run Try.prog (w.alloc (.cells #[] 5)) = .ok (.slice (some ⟨g, 0, none⟩) len vc) wc ∧ Mine w.heap.size wc (.slice (some ⟨g, 0, none⟩) len vc) zs ∧ Below w.heap.size w wc ∧ w.heap.size ≤ g ∧ g < wc.heap.size := by
  have hB : Below w.heap.size w (w.alloc (.cells #[] 5)) := (Below.refl _ w).alloc (Nat.le_refl _) _
  have hM : Mine w.heap.size (w.alloc (.cells #[] 5)) (.slice (some ⟨w.heap.size, 0, none⟩) 0 0) [] :=
    ⟨⟨rfl, .inr ⟨w.heap.size, 0, #[], rfl, Nat.le_refl _, heap_alloc_new w _, Nat.le_refl _, by decide, rfl, rfl⟩⟩, Bytes.nil, by decide⟩
  rcases a with _ | ad
  · obtain ⟨rfl, rfl⟩ := hn rfl
    obtain rfl := List.eq_nil_of_length_eq_zero h.1
    obtain ⟨i, hi, _⟩ := info_parts info5
    exact ⟨_, _, _, run_append_owned_none (P := Try.prog) (w := w.alloc (.cells #[] 5)) w.heap.size 22 22 5 i 1 Try.underlying22 hi _ _ _ hM.1, hM, hB, Nat.le_refl _, by simp⟩
  · obtain ⟨v3, w3, hrun, m3, g3⟩ := app_bytes (c := cap) hM (h.later hB) (.inr (by simp [Value.ownBlock])) (by rw [h.1]; have := h.2.2.1; simpa using this) hB.size
    obtain ⟨v3', w3', hrun', _, _, hw⟩ := Ba.append_at (P := Try.prog) (t := 22) (ty := 22) (c := cap) (base := w.heap.size) (ad := ad) (m := len) (news := cs zs) Try.underlying22 info5 rfl (by decide) hM.1 (by rw [cs_len, h.1, Nat.mul_one]) (h.later hB).news (cs_one zs) (.inr (by simp [Value.ownBlock])) (by unfold maxLen; have := h.2.2.1; simp; omega) (by have := h.2.2.1; simp; omega) hB.size
    rw [hrun] at hrun'
    cases hrun'
    have hsome : ∃ g, v3.ownBlock = some g := by
      rcases hw with e | e
      · exact ⟨_, e⟩
      · exact ⟨_, e⟩
    obtain ⟨g, hg⟩ := hsome
    have hlt := m3.1.lt g hg
    have hzl : ([] ++ zs).length = len := by simpa using h.1
    rcases m3.1.2 with ⟨rfl, _⟩ | ⟨g', vc, cur, rfl, _⟩
    · cases hg
    · cases hg
      rw [hzl] at hrun m3
      exact ⟨g', vc, w3, hrun, m3, hB.grown g3 hB.size (fun j hj => (hM.1.lt j hj).1), hlt.1, hlt.2⟩
/-- a row of the law's own, whatever bytes it holds -/
def Any8 (base : Nat) (w : World) (g n vc : Nat) : Prop := ∃ zs : List Int, zs.length = n ∧ w.ownsRow base 5 1 (.slice (some ⟨g, 0, none⟩) n vc) n (cs zs)
theorem Any8.cell {base : Nat} {w : World} {g n vc : Nat} (h : Any8 base w g n vc) {k : Nat} (hk : k < n) : ∃ y : Int, w.cell? ⟨g, k, none⟩ = some (.int .u8 y) ∧ w.frozen? ⟨g, k, none⟩ = false := by
  obtain ⟨zs, hl, h⟩ := h
  refine ⟨zs[k], ?_, h.frozenAt k⟩
  rw [h.cellAt k (by omega), cs, List.getElem?_map, List.getElem?_eq_getElem (by omega)]
  rfl
theorem Any8.set {base : Nat} {w : World} {g n vc : Nat} (h : Any8 base w g n vc) (k : Nat) (y : Int) : Any8 base (w.setCell ⟨g, k, none⟩ (.int .u8 y)) g n vc := by
  obtain ⟨zs, hl, h⟩ := h
  refine ⟨zs.set k y, by rw [List.length_set]; exact hl, ?_⟩
  have := (h.stored k (.int .u8 y)).1
  unfold cs at this ⊢
  rwa [List.map_set]
/-- what both Cuts tell -/
theorem cuts {N : Int} {a : Option Addr} {len cap : Nat} {zs : List Int} (hl : len ≤ 140737488355328) (hzl : zs.length = len) (hc : len ≤ cap) : ∃ (vs : List V) (er : Int), vs.length ≤ 65536 ∧
    (∀ (x : World) (a' : Option Addr) (cap' : Nat), Row x a' len zs → len ≤ cap' → Calls Try.prog 9 #[.slice a' len cap', .int .i64 N] x (fun e w' => ∃ v ps, e = .returned (.tuple #[v, .int .i64 er]) ∧ LP x.heap.size w' v ps ∧ ps.map pval = vs ∧ Below x.heap.size x w')) ∧
    ∀ x, Row x a len zs → Calls Try.prog 10 #[.slice a len cap, .int .i64 N] x (fun e w' => ∃ v ps, e = .returned (.tuple #[v, .int .i64 er]) ∧ LP x.heap.size w' v ps ∧ ps.map pval = vs ∧ Below x.heap.size x w') := by
  have hno : ∀ (y : World) (er : Int) (e : Ending) (w' : World), (e = .returned (.tuple #[.slice none 0 0, .int .i64 er]) ∧ y = w') → ∃ v ps, e = .returned (.tuple #[v, .int .i64 er]) ∧ LP y.heap.size w' v ps ∧ ps.map pval = [] ∧ Below y.heap.size y w' := by
    rintro y er e w' ⟨rfl, rfl⟩
    exact ⟨_, [], rfl, LP.nil _ _, rfl, Below.refl _ _⟩
  by_cases h1 : N < 1 ∨ 65536 < N ∨ (len : Int) < 1
  · exact ⟨[], 1, by decide, fun x a' cap' _ _ => (cut_arg hl h1).mono (hno x 1), fun x _ => (rcut_arg hl h1).mono (hno x 1)⟩
  · by_cases h2 : (65536 : Int) < len
    · exact ⟨[], 2, by decide, fun x a' cap' _ _ => (cut_long hl (by omega) (by omega) h2).mono (hno x 2), fun x _ => (rcut_long hl (by omega) (by omega) h2).mono (hno x 2)⟩
    · obtain ⟨n, rfl⟩ : ∃ n : Nat, N = (n : Int) := ⟨N.toNat, by omega⟩
      have hlen : (cutV zs n).length ≤ 65536 := by
        rw [cutV_len]
        have := cnt_le (len := zs.length) (n := n) (by omega)
        omega
      exact ⟨cutV zs n, 0, hlen, fun x a' cap' hx hc' => cut_ok hx hc' (by omega) (by omega) (by omega) (by omega), fun x hx => rcut_ok hx hc (by omega) (by omega) (by omega) (by omega)⟩
end Go.Proofs.Yteomkmbaoaahoaa.Fr
