/-
  What the law's own functions do: numbers moved, reports compared, both boxes side by side.
  Conditions: as at each lemma.
-/
import Derived.Test.YtdifceikfnnfeaaDoorInN
import Derived.Deep.Cut
namespace Go.Proofs.YtdifceikfnnfeaaDoor.Sp.Inb
open Go.ChangeShapes Go.WideShapes Go.ChangeAt Go.RowKit
open Ba (hidden Has cell_lt heap_lt)
set_option linter.unusedVariables false
set_option maxRecDepth 20000
/-- numbers that came in, as they are read -/
def Row (w : World) (a : Option Addr) (m : Nat) (l : List Nat) : Prop := l.length = m ∧ m ≤ 35184372087808 ∧ (∀ t ∈ l, t < 4294967296) ∧ (m = 0 ∨ ∃ b off, a = some ⟨b, off, none⟩ ∧ b < w.heap.size ∧ ∀ j, j < m → w.cell? ⟨b, off + j, none⟩ = some (.int .u32 (nf l j)))
theorem Row.later {w w' : World} {a : Option Addr} {m : Nat} {l : List Nat} (h : Row w a m l) (hB : Below w.heap.size w w') : Row w' a m l := by
  obtain ⟨h1, h2, h3, h4⟩ := h
  refine ⟨h1, h2, h3, h4.imp id ?_⟩
  rintro ⟨b, off, rfl, hb, hc⟩
  exact ⟨b, off, rfl, Nat.lt_of_lt_of_le hb hB.size, fun j hj => (hB.cell (p := ⟨b, off + j, none⟩) hb).trans (hc j hj)⟩
theorem Row.below {n : Nat} {w0 w w' : World} {a : Option Addr} {m : Nat} {l : List Nat} (h : Row w0 a m l) (hB : Below w0.heap.size w0 w) : Row w a m l := h.later hB
theorem Row.at {w : World} {a : Option Addr} {m k x : Nat} {l : List Nat} (h : Row w a m l) (hk : k < m) (hx : l[k]? = some x) : ∃ b off, a = some ⟨b, off, none⟩ ∧ b < w.heap.size ∧ w.cell? ⟨b, off + k, none⟩ = some (.int .u32 (x : Int)) := by
  obtain ⟨b, off, e, hb, hc⟩ := h.2.2.2.resolve_left (by omega)
  exact ⟨b, off, e, hb, by rw [hc k hk, nf_some hx]⟩
theorem radd_ (c d : Nat) (hc : c < 4294967296) (hd : d < 4294967296) (w : World) : Calls Tryd.prog 22 #[.int .u32 (c : Int), .int .u32 (d : Int)] w fun e w' => e = .returned (.int .u32 (ts c d : Nat)) ∧ w = w' := by
  refine (Ser.radd (c : Int) (d : Int) (by omega) (by omega) w).mono ?_
  rintro e w' ⟨rfl, rfl⟩
  exact ⟨congrArg (fun z => Ending.returned (.int .u32 z)) (by unfold ts; omega), rfl⟩
theorem moved {w : World} {a : Option Addr} {m : Nat} {l : List Nat} (h : Row w a m l) (c cap : Nat) (hc : c < 4294967296) : Calls Tryd.prog 37 #[.int .u32 (c : Int), .slice a m cap] w fun e w' => ∃ la lcap, e = .returned (.slice la m lcap) ∧ w'.ownsRow w.heap.size 22 1 (.slice la m lcap) (l.map (ts c)).length (us (l.map (ts c))) ∧ Below w.heap.size w w' := by
  have H := hidden h
  have hm := h.2.1
  have hl3 := h.2.2.1
  have HL := hidden h.1
  clear h
  go_enter Tryd.func37, Tryd.ntmps37
  go_wp2_with fail
  go_loopw [5, 6] (fun lv i wr => ∃ k : Nat, k ≤ m ∧ i = .int .i64 (k : Int) ∧ wr.ownsRow w.heap.size 22 1 lv ((l.take k).map (ts c)).length (us ((l.take k).map (ts c))) ∧ Below w.heap.size w wr) (fun lv i wr => m - (intOf i).toNat)
  case atStart => exact ⟨0, by omega, rfl, World.ownsRow_nil _ _ _ _, Below.refl _ _⟩
  case round =>
    obtain ⟨k, hk, rfl, ho, hB⟩ := hrel
    by_cases hlt : k < m
    · have hkl : k < l.length := by rw [HL.out]; exact hlt
      obtain ⟨x, hx⟩ : ∃ x, l[k]? = some x := ⟨_, List.getElem?_eq_getElem hkl⟩
      have hx3 := hl3 x (List.mem_of_getElem? hx)
      obtain ⟨b, off, rfl, hb, hcx⟩ := (H.out.later hB).at hlt hx
      have hlt' : (k : Int) < (m : Int) := by omega
      have hlen : ((l.take k).map (ts c)).length = k := by rw [List.length_map, List.length_take]; omega
      obtain ⟨la, lcap, rfl⟩ := Ba.own_len ho
      have AD := hidden (radd_ c x hc hx3 wr)
      obtain ⟨v', w2, hr, o1, o2, o3⟩ := app1 (ts c x) ho (by omega) hB.size
      have hBn := hB.trans ((below_new wr (.cells #[.int .u32 ((ts c x : Nat) : Int)] 22)).mono hB.size)
      have hB3 : Below w.heap.size w w2 := hBn.trans ((Mod.grown (F := fun k => w.heap.size ≤ k) o2 (fun q hq => (own_type ho hq).2)).below hBn.size (fun k h => h))
      have HR := hidden hr
      have E : (l.take (k + 1)).map (ts c) = (l.take k).map (ts c) ++ [ts c x] := by rw [take_some hx, List.map_append]; rfl
      have FN := hidden (⟨by rw [E]; exact o1, hB3⟩ : w2.ownsRow w.heap.size 22 1 v' ((l.take (k + 1)).map (ts c)).length (us ((l.take (k + 1)).map (ts c))) ∧ Below w.heap.size w w2)
      generalize ((ts c x : Nat) : Int) = yI at *
      generalize (x : Int) = xI at *
      generalize (c : Int) = cI at *
      rw [hlen] at HR
      clear ho hB hx hkl o1 o2 o3 hr hBn hB3 E hl3
      rw [hlen]
      clear hlen
      go_wp2_with fail
      refine Calls.mono AD.out ?_
      rintro e w' ⟨rfl, rfl⟩
      go_wp2_with (at_builtin; refine Rg.wpList_app rfl _ _ 33 rfl rfl rfl HR.out ?_)
      go_wp2
      go_roundw
      case rel => exact ⟨k + 1, hlt, rfl, FN.out⟩
      case measure => simp only [intOf]; omega
    · obtain rfl : k = m := by omega
      have e1 : l.take k = l := by rw [← HL.out]; exact List.take_length
      rw [e1] at ho
      obtain ⟨la, lcap, rfl⟩ := Ba.own_len ho
      have e2 : (l.map (ts c)).length = k := by rw [List.length_map]; exact HL.out
      rw [e2] at ho ⊢
      have FN := hidden (⟨ho, hB⟩ : _ ∧ _)
      have HE2 := hidden e2
      clear ho hB e2 e1
      go_wp2
      go_ret
      exact ⟨la, lcap, rfl, by rw [HE2.out]; exact FN.out.1, FN.out.2⟩
/-- a report that can be read -/
def Sr (w : World) (V : Value) (kind c win : Int) (X Y : List (Nat × Nat)) (D : List Nat) : Prop :=
  ∃ a1 n1 k1 a2 n2 k2 a3 n3 k3, V = .agg (chv kind c win (.slice a1 n1 k1) (.slice a2 n2 k2) (.slice a3 n3 k3)) ∧ Gps w (.slice a1 n1 k1) X ∧ Gps w (.slice a2 n2 k2) Y ∧ Nums w (.slice a3 n3 k3) D.length (nf D)
theorem Rep.sr {base : Nat} {w : World} {s : St} {most win : Int} {V : Value} (h : Rep base w s most win V) : Sr w V (if s.nr = true then 16 else 3) s.c win (gapsR s most) (nrR s most) (s.D.take most.toNat) := by
  obtain ⟨a1, n1, k1, a2, n2, k2, a3, n3, k3, e, h1, h2, h3⟩ := h
  obtain ⟨_, _, e1⟩ := Ba.own_len h1
  cases e1
  obtain ⟨_, _, e2⟩ := Ba.own_len h2
  cases e2
  obtain ⟨_, _, e3⟩ := Ba.own_len h3
  cases e3
  exact ⟨_, _, _, _, _, _, _, _, _, e, gps_own h1, gps_own h2, nums_us h3⟩
theorem gps_nil (w : World) : Gps w (.slice none 0 0) [] := ⟨by decide, none, 0, rfl, .inl rfl⟩
theorem zch_sr (w : World) : Sr w (.agg zch) 0 0 0 [] [] [] := ⟨none, 0, 0, none, 0, 0, none, 0, 0, rfl, gps_nil w, gps_nil w, ⟨by decide, none, 0, rfl, .inl rfl⟩⟩
theorem Sr.later {w w' : World} {V : Value} {kind c win : Int} {X Y : List (Nat × Nat)} {D : List Nat} (h : Sr w V kind c win X Y D) (hB : Below w.heap.size w w') : Sr w' V kind c win X Y D := by
  obtain ⟨a1, n1, k1, a2, n2, k2, a3, n3, k3, e, h1, h2, h3⟩ := h
  exact ⟨a1, n1, k1, a2, n2, k2, a3, n3, k3, e, h1.later hB, h2.later hB, h3.later hB⟩
theorem ch_cells {X : World} {c : Nat} {kind cu win : Int} {g nr d : Value} (h : Has X c (chv kind cu win g nr d) 46) : X.cell? ⟨c, 0, none⟩ = some (.int .u8 kind) ∧ X.cell? ⟨c, 1, none⟩ = some (.int .u8 0) ∧ X.cell? ⟨c, 2, none⟩ = some (.int .u32 cu) ∧ X.cell? ⟨c, 7, none⟩ = some (.int .u32 win) ∧ X.cell? ⟨c, 10, none⟩ = some g ∧ X.cell? ⟨c, 11, none⟩ = some nr ∧ X.cell? ⟨c, 12, none⟩ = some d ∧ X.cell? ⟨c, 13, none⟩ = some (.slice none 0 0) ∧ X.cell? ⟨c, 14, none⟩ = some (.slice none 0 0) :=
  ⟨h.cell 0 rfl, h.cell 1 rfl, h.cell 2 rfl, h.cell 7 rfl, h.cell 10 rfl, h.cell 11 rfl, h.cell 12 rfl, h.cell 13 rfl, h.cell 14 rfl⟩
set_option maxHeartbeats 4000000 in
theorem same_rep {w : World} {V1 V2 : Value} {kind c win : Int} {Xs Ys : List (Nat × Nat)} {D : List Nat} (h1 : Sr w V1 kind c win Xs Ys D) (h2 : Sr w V2 kind c win Xs Ys D) : Calls Tryd.prog 41 #[V1, V2] w fun e w' => e = .returned (.bool true) ∧ Below w.heap.size w w' := by
  obtain ⟨a1, n1, k1, a2, n2, k2, a3, n3, k3, rfl, g1, g2, g3⟩ := h1
  obtain ⟨b1, m1, l1, b2, m2, l2, b3, m3, l3, rfl, q1, q2, q3⟩ := h2
  obtain ⟨W, hW⟩ : ∃ W, W = (w.alloc (.cells (chv kind c win (.slice a1 n1 k1) (.slice a2 n2 k2) (.slice a3 n3 k3)) 46)).alloc (.cells (chv kind c win (.slice b1 m1 l1) (.slice b2 m2 l2) (.slice b3 m3 l3)) 46) := ⟨_, rfl⟩
  have hO : Ow.Own w W [(w.heap.size + 1, chv kind c win (.slice b1 m1 l1) (.slice b2 m2 l2) (.slice b3 m3 l3), 46), (w.heap.size, chv kind c win (.slice a1 n1 k1) (.slice a2 n2 k2) (.slice a3 n3 k3), 46)] := by
    have := ((Ow.Own.refl w).alloc (chv kind c win (.slice a1 n1 k1) (.slice a2 n2 k2) (.slice a3 n3 k3)) 46).alloc (chv kind c win (.slice b1 m1 l1) (.slice b2 m2 l2) (.slice b3 m3 l3)) 46
    simp only [World.size_alloc] at this
    rw [hW]
    exact this
  have HO := hidden hO
  have HBW := hidden hO.below
  have HC := hidden (fun (X : World) (hX : Below W.heap.size W X) => (⟨hX, ch_cells ((HO.out.later hX).has (b := w.heap.size) (.tail _ (.head _))), ch_cells ((HO.out.later hX).has (.head _))⟩ : Below W.heap.size W X ∧ _ ∧ _))
  have BG : Hid (∀ X, Below W.heap.size W X → Calls Tryd.prog 61 #[.slice a1 n1 k1, .slice b1 m1 l1] X fun e w' => e = .returned (.bool true) ∧ Below W.heap.size W w') := fun X hX => (blocks_eq X _ _ _ (g1.later (HBW.out.trans (hX.mono HBW.out.size))) (q1.later (HBW.out.trans (hX.mono HBW.out.size)))).mono fun e w' k => ⟨k.1, hX.trans (k.2.mono hX.size)⟩
  have BN : Hid (∀ X, Below W.heap.size W X → Calls Tryd.prog 61 #[.slice a2 n2 k2, .slice b2 m2 l2] X fun e w' => e = .returned (.bool true) ∧ Below W.heap.size W w') := fun X hX => (blocks_eq X _ _ _ (g2.later (HBW.out.trans (hX.mono HBW.out.size))) (q2.later (HBW.out.trans (hX.mono HBW.out.size)))).mono fun e w' k => ⟨k.1, hX.trans (k.2.mono hX.size)⟩
  have BD : Hid (∀ X, Below W.heap.size W X → Calls Tryd.prog 17 #[.slice a3 n3 k3, .slice b3 m3 l3] X fun e w' => e = .returned (.bool true) ∧ Below W.heap.size W w') := fun X hX => (numbers X _ _ _ _ (g3.later (HBW.out.trans (hX.mono HBW.out.size))) (q3.later (HBW.out.trans (hX.mono HBW.out.size)))).mono fun e w' k => ⟨k.1, hX.trans (k.2.mono hX.size)⟩
  unfold chv at hW
  have hWe := hW.symm
  clear g1 g2 g3 q1 q2 q3 hW hO
  unfold chv
  go_enter Tryd.func41, Tryd.ntmps41
  obtain ⟨-, ⟨u0, u1, u2, u7, u10, u11, u12, u13, u14⟩, v0, v1, v2, v7, v10, v11, v12, v13, v14⟩ := HC.out W (Below.refl _ _)
  go_wp2_with fail
  refine Calls.mono (BG.out _ (Below.refl _ _)) ?_
  rintro e X1 ⟨rfl, hX1⟩
  clear u0 u1 u2 u7 u10 u11 u12 u13 u14 v0 v1 v2 v7 v10 v11 v12 v13 v14 hWe
  obtain ⟨-, ⟨u0, u1, u2, u7, u10, u11, u12, u13, u14⟩, v0, v1, v2, v7, v10, v11, v12, v13, v14⟩ := HC.out X1 hX1
  have HX1 := hidden hX1
  clear hX1
  go_wp2_with fail
  refine Calls.mono (BN.out _ HX1.out) ?_
  rintro e X2 ⟨rfl, hX2⟩
  clear u0 u1 u2 u7 u10 u11 u12 u13 u14 v0 v1 v2 v7 v10 v11 v12 v13 v14
  obtain ⟨-, ⟨u0, u1, u2, u7, u10, u11, u12, u13, u14⟩, v0, v1, v2, v7, v10, v11, v12, v13, v14⟩ := HC.out X2 hX2
  have HX2 := hidden hX2
  clear hX2
  go_wp2_with fail
  refine Calls.mono (BD.out _ HX2.out) ?_
  rintro e X3 ⟨rfl, hX3⟩
  clear u0 u1 u2 u7 u10 u11 u12 u13 u14 v0 v1 v2 v7 v10 v11 v12 v13 v14
  obtain ⟨-, ⟨u0, u1, u2, u7, u10, u11, u12, u13, u14⟩, v0, v1, v2, v7, v10, v11, v12, v13, v14⟩ := HC.out X3 hX3
  have FN := hidden (HBW.out.trans (hX3.mono HBW.out.size))
  clear hX3
  go_wp2
  go_ret
  exact ⟨rfl, FN.out⟩
end Go.Proofs.YtdifceikfnnfeaaDoor.Sp.Inb
