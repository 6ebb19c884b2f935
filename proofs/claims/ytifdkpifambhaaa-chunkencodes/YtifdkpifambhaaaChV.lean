/-
  A chunk that may be is read from its bytes, whatever stands behind; a chunk that is read may be.
  Conditions: its numbers lie within their kinds.
-/
import Derived.Test.YtifdkpifambhaaaChU
namespace Go.Proofs.Ytifdkpifambhaaa.Chu
open Go.ChangeShapes Go.WideShapes Go.ChangeAt Go.RowKit
open Par (hidden Bytes Row Prm Prms cell_lt Cap cells_new cutA thrown form_of)
set_option linter.unusedVariables false

/-- the numbers of a chunk lie within their kinds -/
def VOk (v : Ch) : Prop := (0 ≤ v.kind ∧ v.kind < 256) ∧ (0 ≤ v.flags ∧ v.flags < 256) ∧ (0 ≤ v.tsn ∧ v.tsn < 4294967296) ∧ (0 ≤ v.stream ∧ v.stream < 65536) ∧ (0 ≤ v.ssn ∧ v.ssn < 65536) ∧ (0 ≤ v.proto ∧ v.proto < 4294967296) ∧ (0 ≤ v.tag ∧ v.tag < 4294967296) ∧ (0 ≤ v.win ∧ v.win < 4294967296) ∧ (0 ≤ v.out ∧ v.out < 65536) ∧ (0 ≤ v.inn ∧ v.inn < 65536) ∧
  (∀ g ∈ v.gs, (0 ≤ g.1 ∧ g.1 < 65536) ∧ (0 ≤ g.2 ∧ g.2 < 65536)) ∧ (∀ g ∈ v.ns, (0 ≤ g.1 ∧ g.1 < 65536) ∧ (0 ≤ g.2 ∧ g.2 < 65536)) ∧ (∀ d ∈ v.ds, 0 ≤ d ∧ d < 4294967296) ∧ Bytes v.bs ∧ ∀ x ∈ v.ps, (0 ≤ x.1 ∧ x.1 < 65536) ∧ Bytes x.2
theorem Chk.vok {base : Nat} {w : World} {c : Ck} (h : Chk base w c) : VOk (val c) := by
  obtain ⟨⟨n1, n2, n3, n4, n5, n6, n7, n8, n9, n10⟩, ⟨l1, l2, l3, l4, _, l5⟩⟩ := h
  refine ⟨n1, n2, n3, n4, n5, n6, n7, n8, n9, n10, l1.2.2.1, l2.2.2.1, l3.2.2.1, l4.2.1, fun x hx => ?_⟩
  obtain ⟨p, hp, rfl⟩ := List.mem_map.1 hx
  exact ⟨(l5.2.2.1 p hp).1, (l5.2.2.1 p hp).2.1.2.1⟩
theorem two_back (x : Int) (h : 0 ≤ x ∧ x < 65536) : x / 256 * 256 + x % 256 = x := by omega
theorem four_back (x : Int) (h : 0 ≤ x ∧ x < 4294967296) : (x / 16777216 * 256 + x / 65536 % 256) * 65536 + (x / 256 % 256 * 256 + x % 256) = x := by omega
theorem n2_app (pre t : List Int) (i : Nat) : n2 (pre ++ t) (pre.length + i) = n2 t i := by
  unfold n2
  rw [Nat.add_assoc, Par.getD_app, Par.getD_app]
theorem n4_app (pre t : List Int) (i : Nat) : n4 (pre ++ t) (pre.length + i) = n4 t i := by
  unfold n4
  rw [Nat.add_assoc, n2_app, n2_app]
theorem range_cons (n : Nat) : List.range (n + 1) = 0 :: (List.range n).map (· + 1) := List.range_succ_eq_map
theorem gapsAt_cons (v : List Int) (p n : Nat) : gapsAt v p (n + 1) = (n2 v p, n2 v (p + 2)) :: gapsAt v (p + 4) n := by
  unfold gapsAt
  rw [range_cons, List.map_cons, List.map_map]
  refine List.cons_eq_cons.2 ⟨by simp, List.map_congr_left fun i _ => ?_⟩
  simp only [Function.comp]
  rw [show p + 4 * (i + 1) = p + 4 + 4 * i by omega]
theorem foursAt_cons (v : List Int) (p n : Nat) : foursAt v p (n + 1) = n4 v p :: foursAt v (p + 4) n := by
  unfold foursAt
  rw [range_cons, List.map_cons, List.map_map]
  refine List.cons_eq_cons.2 ⟨by simp, List.map_congr_left fun i _ => ?_⟩
  simp only [Function.comp]
  rw [show p + 4 * (i + 1) = p + 4 + 4 * i by omega]
theorem gapsAt_back (gs : List (Int × Int)) (h : ∀ g ∈ gs, (0 ≤ g.1 ∧ g.1 < 65536) ∧ (0 ≤ g.2 ∧ g.2 < 65536)) (pre post : List Int) : gapsAt (pre ++ (gbytes gs ++ post)) pre.length gs.length = gs := by
  induction gs generalizing pre with
  | nil => rfl
  | cons g gs ih =>
    have hg := h g (List.mem_cons_self ..)
    have e : pre ++ (gbytes (g :: gs) ++ post) = (pre ++ [g.1 / 256, g.1 % 256, g.2 / 256, g.2 % 256]) ++ (gbytes gs ++ post) := by simp [gbytes, twos]
    have i2 := ih (fun x hx => h x (List.mem_cons_of_mem _ hx)) (pre ++ [g.1 / 256, g.1 % 256, g.2 / 256, g.2 % 256])
    rw [List.length_cons, gapsAt_cons]
    have a1 := n2_app pre ([g.1 / 256, g.1 % 256, g.2 / 256, g.2 % 256] ++ (gbytes gs ++ post)) 0
    have a2 := n2_app pre ([g.1 / 256, g.1 % 256, g.2 / 256, g.2 % 256] ++ (gbytes gs ++ post)) 2
    have b1 : n2 ([g.1 / 256, g.1 % 256, g.2 / 256, g.2 % 256] ++ (gbytes gs ++ post)) 0 = g.1 := two_back g.1 hg.1
    have b2 : n2 ([g.1 / 256, g.1 % 256, g.2 / 256, g.2 % 256] ++ (gbytes gs ++ post)) 2 = g.2 := two_back g.2 hg.2
    rw [← List.append_assoc, ← e, Nat.add_zero, b1] at a1
    rw [← List.append_assoc, ← e, b2] at a2
    rw [← e, List.length_append] at i2
    rw [a1, a2, show pre.length + 4 = pre.length + [g.1 / 256, g.1 % 256, g.2 / 256, g.2 % 256].length from rfl, i2]
theorem foursAt_back (ds : List Int) (h : ∀ d ∈ ds, 0 ≤ d ∧ d < 4294967296) (pre post : List Int) : foursAt (pre ++ (fours ds ++ post)) pre.length ds.length = ds := by
  induction ds generalizing pre with
  | nil => rfl
  | cons g gs ih =>
    have hg := h g (List.mem_cons_self ..)
    have e : pre ++ (fours (g :: gs) ++ post) = (pre ++ [g / 16777216, g / 65536 % 256, g / 256 % 256, g % 256]) ++ (fours gs ++ post) := by simp [fours]
    have i2 := ih (fun x hx => h x (List.mem_cons_of_mem _ hx)) (pre ++ [g / 16777216, g / 65536 % 256, g / 256 % 256, g % 256])
    rw [List.length_cons, foursAt_cons]
    have a1 := n4_app pre ([g / 16777216, g / 65536 % 256, g / 256 % 256, g % 256] ++ (fours gs ++ post)) 0
    have b1 : n4 ([g / 16777216, g / 65536 % 256, g / 256 % 256, g % 256] ++ (fours gs ++ post)) 0 = g := four_back g hg
    rw [← List.append_assoc, ← e, Nat.add_zero, b1] at a1
    rw [← e, List.length_append] at i2
    rw [a1, show pre.length + 4 = pre.length + [g / 16777216, g / 65536 % 256, g / 256 % 256, g % 256].length from rfl, i2]
theorem enc_nil : Par.enc [] = [] := rfl
theorem gb_nil : gbytes [] = [] := rfl
theorem fo_nil : fours [] = [] := rfl
theorem fours1 (a : Int) : fours [a] = [a / 16777216, a / 65536 % 256, a / 256 % 256, a % 256] := rfl
theorem fours2 (a b : Int) : fours [a, b] = [a / 16777216, a / 65536 % 256, a / 256 % 256, a % 256, b / 16777216, b / 65536 % 256, b / 256 % 256, b % 256] := rfl
theorem twos1 (a : Int) : twos [a] = [a / 256, a % 256] := rfl
theorem twos2 (a b : Int) : twos [a, b] = [a / 256, a % 256, b / 256, b % 256] := rfl
theorem twos4 (a b c d : Int) : twos [a, b, c, d] = [a / 256, a % 256, b / 256, b % 256, c / 256, c % 256, d / 256, d % 256] := rfl
/-- the value of a chunk that may be, read -/
theorem back_fil (v : Ch) (hv : VOk v) (hok : chk v = 0) : Fil v.kind (vby v) (zch v.kind v.flags) 0 v := by
  obtain ⟨⟨⟨hfl, hfo⟩, hnd, hbt⟩, hlen, hpc, hvl⟩ := chk_ok hok
  obtain ⟨v1, v2, v3, v4, v5, v6, v7, v8, v9, v10, v11, v12, v13, v14, v15⟩ := hv
  obtain ⟨hpl, hps⟩ := pcode_le hpc
  have hfit : ∀ x ∈ v.ps, Par.Fit x := fun x hx => ⟨(v15 x hx).1, (v15 x hx).2, hps x hx⟩
  have hout := Par.enc_out v.ps hfit hpl
  have hvby := vby_len v hpc
  obtain ⟨k, f, tsn, st, ssn, pr, tag, win, ou, inn, gs, ns, ds, bs, ps⟩ := v
  simp only at *
  unfold FieldOk at hfo
  simp only at hfo
  obtain ⟨f1, f2, f3, f4, f5, f6, f7, f8, f9, f10, f11, f12, f13⟩ := hfo
  rcases kind_cases k with rfl | rfl | rfl | rfl | rfl | rfl | rfl | rfl | rfl | rfl | rfl | rfl | rfl | rfl | hk
  · -- data
    simp at f5 f6 f7 f8 f9 f10 f11 f13
    subst f5 f6 f7 f8 f9 f10 f11 f13
    have e : vby ⟨0, f, tsn, st, ssn, pr, 0, 0, 0, 0, [], [], [], bs, []⟩ = fours [tsn] ++ twos [st, ssn] ++ fours [pr] ++ bs := by simp [vby, num, lisB, enc_nil, gb_nil, fo_nil]
    rw [e, fours1, fours1, twos2]
    have hb : bs ≠ [] := fun h => hnd ⟨rfl, h⟩
    unfold Fil
    rw [if_neg (by simp [nb]), if_neg (by decide), if_neg (by decide), if_neg (by decide), if_neg (by decide), if_neg (by decide), if_neg (by decide), if_pos rfl]
    refine .inr ⟨by simp; exact hb, rfl, ?_⟩
    simp only [zch, Ch.mk.injEq, true_and, and_true]
    refine ⟨(four_back tsn v3).symm, (two_back st v4).symm, (two_back ssn v5).symm, (four_back pr v6).symm, rfl⟩
  · -- init
    simp at f2 f3 f4 f9 f10 f11 f12
    subst f2 f3 f4 f9 f10 f11 f12
    have e : vby ⟨1, f, tsn, 0, 0, 0, tag, win, ou, inn, [], [], [], [], ps⟩ = fours [tag, win] ++ twos [ou, inn] ++ fours [tsn] ++ Par.enc ps := by simp [vby, num, lisB, gb_nil, fo_nil]
    rw [e, fours1, fours2, twos2]
    unfold Fil
    rw [if_neg (by simp [nb]), if_neg (by decide), if_neg (by decide), if_neg (by decide), if_pos (by decide)]
    refine ⟨ps, 0, 0, hout, .inr ⟨rfl, rfl, ?_⟩⟩
    simp only [zch, Ch.mk.injEq, true_and, and_true]
    refine ⟨(four_back tsn v3).symm, (four_back tag v7).symm, (four_back win v8).symm, (two_back ou v9).symm, (two_back inn v10).symm⟩
  · -- init ack
    simp at f2 f3 f4 f9 f10 f11 f12
    subst f2 f3 f4 f9 f10 f11 f12
    have e : vby ⟨2, f, tsn, 0, 0, 0, tag, win, ou, inn, [], [], [], [], ps⟩ = fours [tag, win] ++ twos [ou, inn] ++ fours [tsn] ++ Par.enc ps := by simp [vby, num, lisB, gb_nil, fo_nil]
    rw [e, fours1, fours2, twos2]
    unfold Fil
    rw [if_neg (by simp [nb]), if_neg (by decide), if_neg (by decide), if_neg (by decide), if_pos (by decide)]
    refine ⟨ps, 0, 0, hout, .inr ⟨rfl, rfl, ?_⟩⟩
    simp only [zch, Ch.mk.injEq, true_and, and_true]
    refine ⟨(four_back tsn v3).symm, (four_back tag v7).symm, (four_back win v8).symm, (two_back ou v9).symm, (two_back inn v10).symm⟩
  · -- sack
    simp at f2 f3 f4 f5 f7 f8 f10 f12 f13
    subst f2 f3 f4 f5 f7 f8 f10 f12 f13
    have e : vby ⟨3, f, tsn, 0, 0, 0, 0, win, 0, 0, gs, [], ds, [], []⟩ = (fours [tsn, win] ++ twos [(gs.length : Int), (ds.length : Int)]) ++ (gbytes gs ++ fours ds) := by simp [vby, num, lisB, enc_nil, gb_nil]
    rw [e, fours2, twos2]
    simp only [List.cons_append, List.nil_append]
    generalize hV : (_ :: _ : List Int) = V
    have g0 : n4 V 0 = tsn := by rw [← hV]; exact four_back tsn v3
    have g4 : n4 V 4 = win := by rw [← hV]; exact four_back win v8
    have g8 : n2 V 8 = gs.length := by rw [← hV]; exact two_back _ (by omega)
    have g10 : n2 V 10 = ds.length := by rw [← hV]; exact two_back _ (by omega)
    have hl : V.length = 12 + 4 * (gs.length + ds.length) := by rw [← hV]; simp [gbytes_len, fours_len]; omega
    have cg : cG V = gs.length := by unfold cG; rw [g8]; omega
    have cn : cN 3 V = 0 := by simp [cN]
    have cd : cD 3 V = ds.length := by unfold cD; rw [if_neg (by decide), g10]; omega
    have t1 : gapsAt V 12 gs.length = gs := by
      rw [← hV]
      exact gapsAt_back gs v11 [_, _, _, _, _, _, _, _, _, _, _, _] (fours ds)
    have t2 : foursAt V (12 + 4 * gs.length) ds.length = ds := by
      have := foursAt_back ds v13 ([tsn / 16777216, tsn / 65536 % 256, tsn / 256 % 256, tsn % 256, win / 16777216, win / 65536 % 256, win / 256 % 256, win % 256, (gs.length : Int) / 256, (gs.length : Int) % 256, (ds.length : Int) / 256, (ds.length : Int) % 256] ++ gbytes gs) []
      rw [List.length_append, gbytes_len, List.append_nil] at this
      rw [← hV]
      simpa [Nat.add_comm, List.append_assoc] using this
    unfold Fil
    rw [if_neg (by simp [nb, hl]), if_pos (by decide)]
    refine .inr (.inr ⟨⟨by omega, by omega, by omega⟩, ?_, rfl, ?_⟩)
    · rw [hl, cg, cn, cd]; simp [nb]
    · unfold repV
      rw [cg, cn, cd, g0, g4]
      simp only [zch, Ch.mk.injEq, true_and, and_true]
      exact ⟨t1.symm, rfl, t2.symm⟩
  · -- beat
    simp at f1 f2 f3 f4 f5 f6 f7 f8 f9 f10 f11 f12
    subst f1 f2 f3 f4 f5 f6 f7 f8 f9 f10 f11 f12
    have e : vby ⟨4, f, 0, 0, 0, 0, 0, 0, 0, 0, [], [], [], [], ps⟩ = Par.enc ps := by simp [vby, num, lisB, gb_nil, fo_nil]
    rw [e]
    have hb1 : OneBeat ps := Classical.byContradiction fun h => hbt ⟨rfl, h⟩
    unfold Fil
    rw [if_neg (by simp [nb]), if_neg (by decide), if_neg (by decide), if_neg (by decide), if_neg (by decide), if_pos (by decide)]
    exact ⟨ps, 0, 0, hout, .inr (.inr ⟨rfl, hb1, rfl, rfl⟩)⟩
  · -- beat's answer
    simp at f1 f2 f3 f4 f5 f6 f7 f8 f9 f10 f11 f12
    subst f1 f2 f3 f4 f5 f6 f7 f8 f9 f10 f11 f12
    have e : vby ⟨5, f, 0, 0, 0, 0, 0, 0, 0, 0, [], [], [], [], ps⟩ = Par.enc ps := by simp [vby, num, lisB, gb_nil, fo_nil]
    rw [e]
    have hb1 : OneBeat ps := Classical.byContradiction fun h => hbt ⟨rfl, h⟩
    unfold Fil
    rw [if_neg (by simp [nb]), if_neg (by decide), if_neg (by decide), if_neg (by decide), if_neg (by decide), if_pos (by decide)]
    exact ⟨ps, 0, 0, hout, .inr (.inr ⟨rfl, hb1, rfl, rfl⟩)⟩
  · -- abort
    simp at f1 f2 f3 f4 f5 f6 f7 f8 f9 f10 f11 f12
    subst f1 f2 f3 f4 f5 f6 f7 f8 f9 f10 f11 f12
    have e : vby ⟨6, f, 0, 0, 0, 0, 0, 0, 0, 0, [], [], [], [], ps⟩ = Par.enc ps := by simp [vby, num, lisB, gb_nil, fo_nil]
    rw [e]
    unfold Fil
    rw [if_neg (by simp [nb]), if_neg (by decide), if_neg (by decide), if_neg (by decide), if_neg (by decide), if_neg (by decide), if_pos (by decide)]
    exact ⟨ps, 0, 0, hout, .inr ⟨rfl, rfl, rfl⟩⟩
  · -- shutdown
    simp at f2 f3 f4 f5 f6 f7 f8 f9 f10 f11 f12 f13
    subst f2 f3 f4 f5 f6 f7 f8 f9 f10 f11 f12 f13
    have e : vby ⟨7, f, tsn, 0, 0, 0, 0, 0, 0, 0, [], [], [], [], []⟩ = fours [tsn] := by simp [vby, num, lisB, gb_nil, fo_nil, enc_nil]
    rw [e, fours1]
    unfold Fil
    rw [if_neg (by simp [nb]), if_neg (by decide), if_pos rfl]
    refine .inr ⟨rfl, rfl, ?_⟩
    simp only [zch, Ch.mk.injEq, true_and, and_true]
    exact (four_back tsn v3).symm
  · simp at f1 f2 f3 f4 f5 f6 f7 f8 f9 f10 f11 f12 f13
    subst f1 f2 f3 f4 f5 f6 f7 f8 f9 f10 f11 f12 f13
    have e : vby ⟨8, f, 0, 0, 0, 0, 0, 0, 0, 0, [], [], [], [], []⟩ = [] := by simp [vby, num, lisB, gb_nil, fo_nil, enc_nil]
    rw [e]
    unfold Fil
    rw [if_neg (by simp [nb]), if_neg (by decide), if_neg (by decide), if_pos (by decide)]
    exact .inr ⟨rfl, rfl, rfl⟩
  · -- error
    simp at f1 f2 f3 f4 f5 f6 f7 f8 f9 f10 f11 f12
    subst f1 f2 f3 f4 f5 f6 f7 f8 f9 f10 f11 f12
    have e : vby ⟨9, f, 0, 0, 0, 0, 0, 0, 0, 0, [], [], [], [], ps⟩ = Par.enc ps := by simp [vby, num, lisB, gb_nil, fo_nil]
    rw [e]
    unfold Fil
    rw [if_neg (by simp [nb]), if_neg (by decide), if_neg (by decide), if_neg (by decide), if_neg (by decide), if_neg (by decide), if_pos (by decide)]
    exact ⟨ps, 0, 0, hout, .inr ⟨rfl, rfl, rfl⟩⟩
  · -- cookie
    simp at f1 f2 f3 f4 f5 f6 f7 f8 f9 f10 f11 f13
    subst f1 f2 f3 f4 f5 f6 f7 f8 f9 f10 f11 f13
    have e : vby ⟨10, f, 0, 0, 0, 0, 0, 0, 0, 0, [], [], [], bs, []⟩ = bs := by simp [vby, num, lisB, gb_nil, fo_nil, enc_nil]
    rw [e]
    unfold Fil
    rw [if_neg (by simp [nb]), if_neg (by decide), if_neg (by decide), if_neg (by decide), if_neg (by decide), if_neg (by decide), if_neg (by decide), if_neg (by decide)]
    exact ⟨rfl, rfl⟩
  · simp at f1 f2 f3 f4 f5 f6 f7 f8 f9 f10 f11 f12 f13
    subst f1 f2 f3 f4 f5 f6 f7 f8 f9 f10 f11 f12 f13
    have e : vby ⟨11, f, 0, 0, 0, 0, 0, 0, 0, 0, [], [], [], [], []⟩ = [] := by simp [vby, num, lisB, gb_nil, fo_nil, enc_nil]
    rw [e]
    unfold Fil
    rw [if_neg (by simp [nb]), if_neg (by decide), if_neg (by decide), if_pos (by decide)]
    exact .inr ⟨rfl, rfl, rfl⟩
  · simp at f1 f2 f3 f4 f5 f6 f7 f8 f9 f10 f11 f12 f13
    subst f1 f2 f3 f4 f5 f6 f7 f8 f9 f10 f11 f12 f13
    have e : vby ⟨14, f, 0, 0, 0, 0, 0, 0, 0, 0, [], [], [], [], []⟩ = [] := by simp [vby, num, lisB, gb_nil, fo_nil, enc_nil]
    rw [e]
    unfold Fil
    rw [if_neg (by simp [nb]), if_neg (by decide), if_neg (by decide), if_pos (by decide)]
    exact .inr ⟨rfl, rfl, rfl⟩
  · -- nr sack
    simp at f2 f3 f4 f5 f7 f8 f12 f13
    subst f2 f3 f4 f5 f7 f8 f12 f13
    have e : vby ⟨16, f, tsn, 0, 0, 0, 0, win, 0, 0, gs, ns, ds, [], []⟩ = (fours [tsn, win] ++ twos [(gs.length : Int), (ns.length : Int), (ds.length : Int), 0]) ++ (gbytes gs ++ (gbytes ns ++ fours ds)) := by simp [vby, num, lisB, enc_nil]
    rw [e, fours2, twos4]
    simp only [List.cons_append, List.nil_append]
    generalize hV : (_ :: _ : List Int) = V
    have g0 : n4 V 0 = tsn := by rw [← hV]; exact four_back tsn v3
    have g4 : n4 V 4 = win := by rw [← hV]; exact four_back win v8
    have g8 : n2 V 8 = gs.length := by rw [← hV]; exact two_back _ (by omega)
    have g10 : n2 V 10 = ns.length := by rw [← hV]; exact two_back _ (by omega)
    have g12 : n2 V 12 = ds.length := by rw [← hV]; exact two_back _ (by omega)
    have hl : V.length = 16 + 4 * (gs.length + ns.length + ds.length) := by rw [← hV]; simp [gbytes_len, fours_len]; omega
    have cg : cG V = gs.length := by unfold cG; rw [g8]; omega
    have cn : cN 16 V = ns.length := by unfold cN; rw [if_pos rfl, g10]; omega
    have cd : cD 16 V = ds.length := by unfold cD; rw [if_pos rfl, g12]; omega
    have t1 : gapsAt V 16 gs.length = gs := by
      rw [← hV]
      exact gapsAt_back gs v11 [_, _, _, _, _, _, _, _, _, _, _, _, _, _, _, _] (gbytes ns ++ fours ds)
    have t2 : gapsAt V (16 + 4 * gs.length) ns.length = ns := by
      have := gapsAt_back ns v12 ([tsn / 16777216, tsn / 65536 % 256, tsn / 256 % 256, tsn % 256, win / 16777216, win / 65536 % 256, win / 256 % 256, win % 256, (gs.length : Int) / 256, (gs.length : Int) % 256, (ns.length : Int) / 256, (ns.length : Int) % 256, (ds.length : Int) / 256, (ds.length : Int) % 256, 0 / 256, 0 % 256] ++ gbytes gs) (fours ds)
      rw [List.length_append, gbytes_len] at this
      rw [← hV]
      simpa [Nat.add_comm, List.append_assoc] using this
    have t3 : foursAt V (16 + 4 * gs.length + 4 * ns.length) ds.length = ds := by
      have := foursAt_back ds v13 ([tsn / 16777216, tsn / 65536 % 256, tsn / 256 % 256, tsn % 256, win / 16777216, win / 65536 % 256, win / 256 % 256, win % 256, (gs.length : Int) / 256, (gs.length : Int) % 256, (ns.length : Int) / 256, (ns.length : Int) % 256, (ds.length : Int) / 256, (ds.length : Int) % 256, 0 / 256, 0 % 256] ++ gbytes gs ++ gbytes ns) []
      rw [List.length_append, List.length_append, gbytes_len, gbytes_len, List.append_nil] at this
      rw [← hV]
      rw [List.append_assoc, List.append_assoc] at this
      exact this
    unfold Fil
    rw [if_neg (by simp [nb, hl]), if_pos (by decide)]
    refine .inr (.inr ⟨⟨by omega, by omega, by omega⟩, ?_, rfl, ?_⟩)
    · rw [hl, cg, cn, cd]; simp [nb]
    · unfold repV
      rw [cg, cn, cd, g0, g4]
      simp only [zch, Ch.mk.injEq, true_and, and_true]
      exact ⟨t1.symm, t2.symm, t3.symm⟩
  · obtain ⟨h0, h1, h2, h3, h4, h5, h6, h7, h8, h9, h10, h11, h14, h16⟩ := hk
    simp [h0, h1, h2, h3, h4, h5, h6, h7, h9, h16] at f1 f2 f3 f4 f5 f6 f7 f8 f9 f10 f11 f13
    subst f1 f2 f3 f4 f5 f6 f7 f8 f9 f10 f11 f13
    have e : vby ⟨k, f, 0, 0, 0, 0, 0, 0, 0, 0, [], [], [], bs, []⟩ = bs := by simp [vby, num, lisB, gb_nil, fo_nil, enc_nil, h0, h1, h2, h3, h7, h16]
    rw [e]
    unfold Fil
    rw [if_neg (by simp [nb, h0, h1, h2, h3, h7, h16]), if_neg (by simp [h3, h16]), if_neg h7, if_neg (by simp [h8, h11, h14]), if_neg (by simp [h1, h2]), if_neg (by simp [h4, h5]), if_neg (by simp [h6, h9]), if_neg h0]
    exact ⟨rfl, rfl⟩
/-- there and back -/
theorem back (v : Ch) (hv : VOk v) (hok : chk v = 0) (t : List Int) : Dec (encC v ++ t) 0 v (clen v) := by
  have hF := back_fil v hv hok
  obtain ⟨⟨⟨hfl, _⟩, _⟩, _, hpc, hvl⟩ := chk_ok hok
  have hL := encC_len v hpc
  have hV := vby_len v hpc
  have hc : clen v = Par.fill4 (4 + vlen v) := rfl
  have hc4 := Par.fill4_le (4 + vlen v)
  have e : encC v ++ t = v.kind :: v.flags :: ((4 + (vlen v : Int)) / 256) :: ((4 + (vlen v : Int)) % 256) :: (vby v ++ (List.replicate (clen v - (4 + vlen v)) 0 ++ t)) := by
    unfold encC
    rw [twos1]
    simp
  have hl : (encC v ++ t).length = clen v + t.length := by rw [List.length_append, hL]
  have h2 : n2 (encC v ++ t) 2 = 4 + (vlen v : Int) := by rw [e]; exact two_back _ (by omega)
  have hbd : body (encC v ++ t) = vby v := by
    unfold body
    rw [h2, show (4 + (vlen v : Int)).toNat = 4 + vlen v by omega, e, show 4 + vlen v = vlen v + 1 + 1 + 1 + 1 by omega, List.take_succ_cons, List.take_succ_cons, List.take_succ_cons, List.take_succ_cons]
    show (List.take (vlen v) (vby v ++ _)) = _
    rw [← hV, List.take_left]
  refine .inr ⟨?_, ?_, fun _ => ?_⟩
  · unfold Cut
    rw [h2, hl]
    omega
  · rw [hbd]
    have e0 : (encC v ++ t).getD 0 0 = v.kind := by rw [e]; rfl
    have e1 : (encC v ++ t).getD 1 0 = v.flags := by rw [e]; rfl
    rw [e0, e1, flg_id _ _ hv.2.1.1 hfl]
    exact hF
  · rw [h2, hl, show (4 + (vlen v : Int)).toNat = 4 + vlen v by omega, ← hc]
    omega
end Go.Proofs.Ytifdkpifambhaaa.Chu
