/-
  The document's comparison of two rows of chunks that are alike.
  Conditions: both rows can be read.
-/
import Derived.Test.YtjceeckcfjjkkaaOeA
import Derived.Test.YtjceeckcfjjkkaaObY
import Derived.Test.YtjceeckcfjjkkaaObX
import Derived.Test.YtjceeckcfjjkkaaOdB
namespace Go.Proofs.Ytjceeckcfjjkkaa.Ob
open Go.ChangeShapes Go.WideShapes Go.ChangeAt Go.RowKit
open Ba (hidden Has cell_lt heap_lt)
set_option linter.unusedVariables false
/-- a row of chunks that can be read -/
def Ls (w : World) (v : Value) (L : List Ch) : Prop := ∃ a cap, v = .slice a L.length cap ∧ (L = [] ∨ ∃ g o, a = some ⟨g, o, none⟩ ∧ ∀ i x, L[i]? = some x → ∃ a1 c1, Cells w g (o + i * 14) ⟨x, .slice a1 x.p.d.length c1⟩ ∧ Row w a1 x.p.d.length x.p.d)
section
variable {D : Nat → Prop} {w w' : World} {r base : Nat} {v v' : Value} {P : List CV} {n : Nat} {c : Int} {L : List Ch}
theorem Ls.later (h : Ls w v L) (hB : Below w.heap.size w w') : Ls w' v L := by
  obtain ⟨a, cap, rfl, h⟩ := h
  refine ⟨a, cap, rfl, h.imp id ?_⟩
  rintro ⟨g, o, rfl, h2⟩
  refine ⟨g, o, rfl, fun i x hx => ?_⟩
  obtain ⟨a1, c1, hc, hr⟩ := h2 i x hx
  exact ⟨a1, c1, fun j t ht => (hB.cell (cell_lt (hc j t ht))).trans (hc j t ht), hr.later hB⟩
theorem Ro.ls (h : Ro D w r v P n c L) : Ls w v L := by
  obtain ⟨a, cap, hv, _⟩ := h.rw_.slice
  rw [h.len] at hv
  refine ⟨a, cap, hv, ?_⟩
  by_cases h0 : L = []
  · exact .inl h0
  · obtain ⟨x0, hx0⟩ : ∃ x, L[0]? = some x := ⟨_, List.getElem?_eq_getElem (List.length_pos_iff.2 h0)⟩
    obtain ⟨g, oo, cap', a1, c1, e, _⟩ := h.open hx0
    rw [hv] at e
    cases e
    refine .inr ⟨g, oo, rfl, fun i x hx => ?_⟩
    obtain ⟨g', oo', cap'', a1, c1, e, hc, hb, _⟩ := h.open hx
    rw [hv] at e
    cases e
    obtain ⟨g2, o2, c2, e2, _, _, _, _, hr⟩ := hb.row
    cases e2
    exact ⟨_, _, hc, hr⟩
theorem Told.ls (h : Told base w v L) : Ls w v L := by
  obtain ⟨ps, hr, rfl, hm, _⟩ := h
  obtain ⟨a, cap, hv, _⟩ := hr.slice
  refine ⟨a, cap, by rw [List.length_map]; exact hv, ?_⟩
  by_cases h0 : ps = []
  · exact .inl (by rw [h0]; rfl)
  · have hl : 0 < ps.length := List.length_pos_iff.2 h0
    obtain ⟨g, o, hpl0⟩ := hr.place hl
    obtain ⟨oo, l, c2, e, _⟩ := hpl0
    rw [hv] at e
    cases e
    refine .inr ⟨g, oo, rfl, fun i x hx => ?_⟩
    rw [List.getElem?_map] at hx
    cases hp : ps[i]? with
    | none => rw [hp] at hx; cases hx
    | some p =>
      rw [hp] at hx
      cases hx
      obtain ⟨g', o', hpl⟩ := hr.place (List.getElem?_eq_some_iff.1 hp).1
      obtain ⟨k1, _, _⟩ := hr.cell hpl hp
      obtain ⟨oo', l', c3, e, rfl⟩ := hpl
      rw [hv] at e
      cases e
      obtain ⟨a1, c1, e1, hr1, _⟩ := (hm p (List.mem_of_getElem? hp)).row
      exact ⟨a1, c1, by rw [← e1]; exact k1, hr1⟩
theorem Ls.get (h : Ls w v L) {i : Nat} {x : Ch} (hx : L[i]? = some x) : ∃ g o cap a1 c1, v = .slice (some ⟨g, o, none⟩) L.length cap ∧ Cells w g (o + i * 14) ⟨x, .slice a1 x.p.d.length c1⟩ ∧ Row w a1 x.p.d.length x.p.d := by
  obtain ⟨a, cap, rfl, h⟩ := h
  rcases h with h | ⟨g, o, rfl, h⟩
  · rw [h] at hx; cases hx
  · obtain ⟨a1, c1, h1, h2⟩ := h i x hx
    exact ⟨g, o, cap, a1, c1, rfl, h1, h2⟩
theorem load_cells {g o : Nat} {x : Ch} {u : Value} (h : Cells w g o ⟨x, u⟩) : (Instr.loadAt 59 (.pointer (some ⟨g, o, none⟩))).run Try.prog w = .ok (ov x u) w := by
  obtain ⟨e0, e1, e2, e3, e4, e5, e6, e7, e8, e9, e10, e11, e12, e13⟩ := h.all14
  simp [go_sem, e0, e1, e2, e3, e4, e5, e6, e7, e8, e9, e10, e11, e12, e13, ov]
theorem Cells.later {g o : Nat} {p : CV} (h : Cells w g o p) (hB : Below w.heap.size w w') : Cells w' g o p := fun j t ht => (hB.cell (cell_lt (h j t ht))).trans (h j t ht)
set_option maxRecDepth 8000 in
set_option maxHeartbeats 2000000 in
theorem r_all_same (h : Ls w v L) (h' : Ls w v' L) (hl : L.length ≤ 1001) : Calls Try.prog 22 #[v, v'] w fun e w' => e = .returned (.bool true) ∧ Below w.heap.size w w' := by
  have H := hidden (And.intro h h')
  obtain ⟨a, cap, rfl, _⟩ := h
  obtain ⟨a', cap', rfl, _⟩ := h'
  generalize hn : L.length = z at *
  have HN := hidden hn
  clear hn
  go_enter Try.func22, Try.ntmps22
  go_wp2_with fail
  go_loopw [5] (fun i X => ∃ k : Nat, k ≤ z ∧ i = .int .i64 k ∧ Hid (Below w.heap.size w X)) (fun i _ => z - (intOf i).toNat)
  case atStart => exact ⟨0, Nat.zero_le _, rfl, Below.refl _ _⟩
  case round =>
    obtain ⟨k, hk, rfl, HI⟩ := hrel
    have hwk : IntKind.i64.wrap ((k : Int) + 1) = (k : Int) + 1 := by rw [IntKind.wrap_i64]; omega
    rcases Nat.lt_or_ge k z with hlt | hge
    · have hlt' : (k : Int) < (z : Int) := by omega
      obtain ⟨x, hx⟩ : ∃ x, L[k]? = some x := ⟨_, List.getElem?_eq_getElem (by rw [HN.out]; exact hlt)⟩
      obtain ⟨g1, o1, cap1, a1, c1, e1, k1, r1⟩ := H.out.1.get hx
      rw [HN.out] at e1
      cases e1
      obtain ⟨g2, o2, cap2, a2, c2, e2, k2, r2⟩ := H.out.2.get hx
      rw [HN.out] at e2
      cases e2
      have HIX1 : Hid (∀ X, (Instr.indexAt 55 (.slice (some ⟨g1, o1, none⟩) z cap) (.int .i64 (k : Int))).run Try.prog X = .ok (.pointer (some ⟨g1, o1 + k * 14, none⟩)) X) := fun X => by simp [go_sem, hlt']
      have HIX2 : Hid (∀ X, (Instr.indexAt 55 (.slice (some ⟨g2, o2, none⟩) z cap') (.int .i64 (k : Int))).run Try.prog X = .ok (.pointer (some ⟨g2, o2 + k * 14, none⟩)) X) := fun X => by simp [go_sem, hlt']
      go_upto_region 6 with fail
      obtain ⟨W, hW⟩ : ∃ W, W = wr := ⟨_, rfl⟩
      rw [← hW] at HI ⊢
      have HL1 : Hid (∀ X, Below W.heap.size W X → (Instr.loadAt 59 (.pointer (some ⟨g1, o1 + k * 14, none⟩))).run Try.prog X = .ok (ov x (.slice a1 x.p.d.length c1)) X) := fun X hX => load_cells ((k1.later HI.out).later hX)
      have HL2 : Hid (∀ X, Below W.heap.size W X → (Instr.loadAt 59 (.pointer (some ⟨g2, o2 + k * 14, none⟩))).run Try.prog X = .ok (ov x (.slice a2 x.p.d.length c2)) X) := fun X hX => load_cells ((k2.later HI.out).later hX)
      have SM : Hid (∀ X, Below W.heap.size W X → Calls Try.prog 31 #[ov x (.slice a1 x.p.d.length c1), ov x (.slice a2 x.p.d.length c2)] X fun e w' => e = .returned (.bool true) ∧ Below X.heap.size X w') := fun X hX => r_same x ((r1.later HI.out).later hX) ((r2.later HI.out).later hX)
      have ES : Hid (∀ (args : Array Value) (w : World), (callFunc 31 args).run Try.prog w = .ok (.enter 31 args) w) := enters_of Try.func31 (by kernel_rfl) rfl
      clear hx k1 r1 k2 r2 hW
      refine Ord.wp_region_ex0 (X := Unit) (by kernel_rfl) 27 (fun xq => [(some 17, .slice (some ⟨g1, o1, none⟩) z cap), (some 18, .int .i64 (k : Int)), (some 19, .pointer (some ⟨g1, o1 + k * 14, none⟩)), (some 20, ov x (.slice a1 x.p.d.length c1)), (some 21, .slice (some ⟨g2, o2, none⟩) z cap'), (some 22, .int .i64 (k : Int)), (some 23, .pointer (some ⟨g2, o2 + k * 14, none⟩)), (some 24, ov x (.slice a2 x.p.d.length c2)), (some 25, .bool true), (some 26, .bool false)]) [some 17, some 18, some 19, some 20, some 21, some 22, some 23, some 24, some 25, some 26] rfl (fun listed hsz hr => Ord.all_listedC (rank := [0, 1, 2, 3, 4, 5, 6, 7, 8, 9]) (by kernel_rfl) hsz hr) (by rfl) (fun _ => rfl) (by kernel_rfl) (Rg.StM [] (fun sk sx w' => Below W.heap.size W w')) (fun _ _ _ _ hL h => h.ext (n := 10) (by decide) hL) ?_ ?_ () ?_
      case refine_1 =>
        intro xq Lq iq oq ac w' ho hi hcl hdep hF hW
        have f1 : ac.tmps.size = 27 := hF.1
        match iq, ho, hi, hdep with
        | 0, ho, hi, hdep =>
          cases ho
          have da0 : ac.eval (.tmp 0) = .slice (some ⟨g1, o1, none⟩) z cap := hF.old 0 rfl
          exact Ord.ex_value xq rfl rfl (Rg.mv da0 rfl) rfl (hW.keep (by decide))
        | 1, ho, hi, hdep =>
          cases ho
          have da0 : ac.eval (.tmp 5) = .int .i64 (k : Int) := hF.old 5 rfl
          exact Ord.ex_value xq rfl rfl (Rg.mv da0 rfl) rfl (hW.keep (by decide))
        | 2, ho, hi, hdep =>
          cases ho
          have da0 : ac.eval (.tmp 17) = .slice (some ⟨g1, o1, none⟩) z cap := hF.2.2.2 0 17 _ rfl (hdep ⟨0, .data⟩ (by simp) rfl)
          have da1 : ac.eval (.tmp 18) = .int .i64 (k : Int) := hF.2.2.2 1 18 _ rfl (hdep ⟨1, .data⟩ (by simp) rfl)
          exact Ord.ex_value xq rfl rfl (Rg.ix da0 da1 rfl (HIX1.out _)) rfl (hW.keep (by decide))
        | 3, ho, hi, hdep =>
          cases ho
          have da0 : ac.eval (.tmp 19) = .pointer (some ⟨g1, o1 + k * 14, none⟩) := hF.2.2.2 2 19 _ rfl (hdep ⟨2, .data⟩ (by simp) rfl)
          exact Ord.ex_value xq rfl rfl (Rg.load da0 rfl (HL1.out _ hW.only)) rfl (hW.keep (by decide))
        | 4, ho, hi, hdep =>
          cases ho
          have da0 : ac.eval (.tmp 1) = .slice (some ⟨g2, o2, none⟩) z cap' := hF.old 1 rfl
          exact Ord.ex_value xq rfl rfl (Rg.mv da0 rfl) rfl (hW.keep (by decide))
        | 5, ho, hi, hdep =>
          cases ho
          have da0 : ac.eval (.tmp 5) = .int .i64 (k : Int) := hF.old 5 rfl
          exact Ord.ex_value xq rfl rfl (Rg.mv da0 rfl) rfl (hW.keep (by decide))
        | 6, ho, hi, hdep =>
          cases ho
          have da0 : ac.eval (.tmp 21) = .slice (some ⟨g2, o2, none⟩) z cap' := hF.2.2.2 4 21 _ rfl (hdep ⟨4, .data⟩ (by simp) rfl)
          have da1 : ac.eval (.tmp 22) = .int .i64 (k : Int) := hF.2.2.2 5 22 _ rfl (hdep ⟨5, .data⟩ (by simp) rfl)
          exact Ord.ex_value xq rfl rfl (Rg.ix da0 da1 rfl (HIX2.out _)) rfl (hW.keep (by decide))
        | 7, ho, hi, hdep =>
          cases ho
          have da0 : ac.eval (.tmp 23) = .pointer (some ⟨g2, o2 + k * 14, none⟩) := hF.2.2.2 6 23 _ rfl (hdep ⟨6, .data⟩ (by simp) rfl)
          exact Ord.ex_value xq rfl rfl (Rg.load da0 rfl (HL2.out _ hW.only)) rfl (hW.keep (by decide))
        | 8, ho, hi, hdep =>
          cases ho
          have da0 : ac.eval (.tmp 20) = ov x (.slice a1 x.p.d.length c1) := hF.2.2.2 3 20 _ rfl (hdep ⟨3, .data⟩ (by simp) rfl)
          have da1 : ac.eval (.tmp 24) = ov x (.slice a2 x.p.d.length c2) := hF.2.2.2 7 24 _ rfl (hdep ⟨7, .data⟩ (by simp) rfl)
          obtain ⟨kq, hlo, hhi, hA⟩ := hW.range 0 0 (.inl rfl) (.inl rfl)
          have hA := hW.only
          exact Rg.ex_call xq rfl rfl (Rg.enter (args := #[ov x (.slice a1 x.p.d.length c1), ov x (.slice a2 x.p.d.length c2)]) rfl rfl (by simp [da0, da1]) ES.out) (Calls.mono (SM.out _ hA) (by rintro e w2 ⟨rfl, hB⟩; exact ⟨rfl, Rg.StM.nil (hA.trans (hB.mono hA.size))⟩))
        | 9, ho, hi, hdep =>
          cases ho
          have da0 : ac.eval (.tmp 25) = .bool true := hF.2.2.2 8 25 _ rfl (hdep ⟨8, .data⟩ (by simp) rfl)
          exact Ord.ex_value xq rfl rfl (Rg.not_ da0 rfl) rfl (hW.keep (by decide))
      case refine_3 => exact Rg.StM.first (Below.refl _ _).drew
      case refine_2 =>
        intro xu X hW
        have hA := hW.last
        clear hW
        simp only [Ord.puts, Ord.prs]
        go_simp
        go_wp2
        go_roundw
        case rel => exact ⟨k + 1, by omega, by simp, HI.out.trans (hA.mono HI.out.size)⟩
        case measure => simp only [intOf]; omega
    · obtain rfl : z = k := by omega
      have hnl : ¬ ((z : Int) < (z : Int)) := by omega
      go_wp2
      go_ret
      exact ⟨rfl, HI.out⟩
end
end Go.Proofs.Ytjceeckcfjjkkaa.Ob
