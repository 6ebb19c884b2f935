/-
  What bytes begin with: a chunk, or an error; there is but one answer. A chunk that may be is read from its bytes, whatever stands behind; a chunk that is read may be. A chunk that is read may be, and its numbers lie within their kinds. The bytes of chunks that may be. The document's reader: numbers at a place, gaps at a place.
  Conditions: as at each lemma.
-/
import Derived.Test.YtmnndkhdekpecaaGreatDoorCc
import Derived.Test.YtmnndkhdekpecaaGreatDoorPb
namespace Go.Proofs.YtmnndkhdekpecaaGreatDoor.Chu
open Go.ChangeShapes Go.WideShapes Go.ChangeAt Go.RowKit
open Par (hidden Bytes Row Prm Prms cell_lt Cap cells_new cutA thrown form_of)
set_option linter.unusedVariables false

/-- the flags that count, cut out -/
def flg (k f : Int) : Int := if k = 0 then f % 8 else if k = 6 ∨ k = 14 then f % 2 else if k = 1 ∨ k = 2 ∨ k = 3 ∨ k = 16 ∨ k = 4 ∨ k = 5 ∨ k = 9 ∨ k = 7 ∨ k = 8 ∨ k = 10 ∨ k = 11 then 0 else f
theorem flg_and (k f : Int) (h0 : 0 ≤ f) (h1 : f < 256) : bits .and .u8 f (cnt k) = flg k f := by
  obtain ⟨n, rfl⟩ : ∃ n : Nat, f = n := ⟨f.toNat, by omega⟩
  have a7 : ∀ n : Fin 256, bits .and .u8 (n.val : Int) 7 = (n.val : Int) % 8 := by decide +kernel
  have a1 : ∀ n : Fin 256, bits .and .u8 (n.val : Int) 1 = (n.val : Int) % 2 := by decide +kernel
  have a0 : ∀ n : Fin 256, bits .and .u8 (n.val : Int) 0 = 0 := by decide +kernel
  have a255 : ∀ n : Fin 256, bits .and .u8 (n.val : Int) 255 = (n.val : Int) := by decide +kernel
  unfold cnt flg
  by_cases a : k = 0
  · rw [if_pos a, if_pos a]; exact a7 ⟨n, by omega⟩
  · rw [if_neg a, if_neg a]
    by_cases b : k = 6 ∨ k = 14
    · rw [if_pos b, if_pos b]; exact a1 ⟨n, by omega⟩
    · rw [if_neg b, if_neg b]
      by_cases c : k = 1 ∨ k = 2 ∨ k = 3 ∨ k = 16 ∨ k = 4 ∨ k = 5 ∨ k = 9 ∨ k = 7 ∨ k = 8 ∨ k = 10 ∨ k = 11
      · rw [if_pos c, if_pos c]; exact a0 ⟨n, by omega⟩
      · rw [if_neg c, if_neg c]; exact a255 ⟨n, by omega⟩
theorem flg_ok (k f : Int) (h0 : 0 ≤ f) (h1 : f < 256) : FlagOk k (flg k f) ∧ 0 ≤ flg k f ∧ flg k f < 256 := by
  unfold FlagOk flg
  by_cases a : k = 0
  · simp only [if_pos a]; omega
  · simp only [if_neg a]
    by_cases b : k = 6 ∨ k = 14
    · simp only [if_pos b]; omega
    · simp only [if_neg b]
      by_cases c : k = 1 ∨ k = 2 ∨ k = 3 ∨ k = 16 ∨ k = 4 ∨ k = 5 ∨ k = 9 ∨ k = 7 ∨ k = 8 ∨ k = 10 ∨ k = 11
      · rw [if_pos c, if_pos c]; exact ⟨rfl, by decide, by decide⟩
      · rw [if_neg c, if_neg c]; exact ⟨trivial, h0, h1⟩
theorem flg_id (k f : Int) (h0 : 0 ≤ f) (h : FlagOk k f) : flg k f = f := by
  unfold FlagOk at h
  unfold flg
  by_cases a : k = 0
  · simp only [if_pos a] at h ⊢; omega
  · simp only [if_neg a] at h ⊢
    by_cases b : k = 6 ∨ k = 14
    · simp only [if_pos b] at h ⊢; omega
    · simp only [if_neg b] at h ⊢
      by_cases c : k = 1 ∨ k = 2 ∨ k = 3 ∨ k = 16 ∨ k = 4 ∨ k = 5 ∨ k = 9 ∨ k = 7 ∨ k = 8 ∨ k = 10 ∨ k = 11
      · simp only [if_pos c] at h ⊢; omega
      · simp only [if_neg c]
/-- the zero chunk, what it says; with its kind and flags -/
def zch (k f : Int) : Ch := ⟨k, f, 0, 0, 0, 0, 0, 0, 0, 0, [], [], [], [], []⟩
/-- the value that a head tells -/
def body (zs : List Int) : List Int := (zs.take (n2 zs 2).toNat).drop 4
/-- the head is there, and what it tells -/
def Cut (zs : List Int) : Prop := zs.length < 4 ∨ n2 zs 2 < 4 ∨ (zs.length : Int) < n2 zs 2
/-- what bytes begin with: the error, or (error 0) the chunk and how many bytes are its own -/
def Dec (zs : List Int) (e : Int) (y : Ch) (m : Nat) : Prop :=
  (Cut zs ∧ e = 60) ∨ (¬ Cut zs ∧ Fil (zs.getD 0 0) (body zs) (zch (zs.getD 0 0) (flg (zs.getD 0 0) (zs.getD 1 0))) e y ∧ (e = 0 → m = min (Par.fill4 (n2 zs 2).toNat) zs.length))
set_option maxHeartbeats 2000000 in
theorem Fil.one {k : Int} {v : List Int} {x y y' : Ch} {e e' : Int} (h : Fil k v x e y) (h' : Fil k v x e' y') : e = e' ∧ (e = 0 → y = y') := by
  unfold Fil at h h'
  by_cases a : v.length < nb k
  · rw [if_pos a] at h h'; exact ⟨by omega, fun h => by omega⟩
  rw [if_neg a] at h h'
  clear a
  by_cases a : k = 3 ∨ k = 16
  · rw [if_pos a] at h h'
    rcases h with ⟨h1, h2⟩ | ⟨h1, h2, h3⟩ | ⟨h1, h2, h3, h4⟩ <;> rcases h' with ⟨g1, g2⟩ | ⟨g1, g2, g3⟩ | ⟨g1, g2, g3, g4⟩ <;> first | exact absurd g1 h1 | exact absurd h1 g1 | exact absurd g2 h2 | exact absurd h2 g2 | exact ⟨by omega, fun h => by omega⟩ | exact ⟨by omega, fun _ => by rw [h4, g4]⟩
  rw [if_neg a] at h h'
  clear a
  by_cases a : k = 7
  · rw [if_pos a] at h h'
    rcases h with ⟨h1, h2⟩ | ⟨h1, h2, h3⟩ <;> rcases h' with ⟨g1, g2⟩ | ⟨g1, g2, g3⟩ <;> first | exact absurd g1 h1 | exact absurd h1 g1 | exact ⟨by omega, fun h => by omega⟩ | exact ⟨by omega, fun _ => by rw [h3, g3]⟩
  rw [if_neg a] at h h'
  clear a
  by_cases a : k = 8 ∨ k = 11 ∨ k = 14
  · rw [if_pos a] at h h'
    rcases h with ⟨h1, h2⟩ | ⟨h1, h2, h3⟩ <;> rcases h' with ⟨g1, g2⟩ | ⟨g1, g2, g3⟩ <;> first | exact absurd g1 h1 | exact absurd h1 g1 | exact ⟨by omega, fun h => by omega⟩ | exact ⟨by omega, fun _ => by rw [h3, g3]⟩
  rw [if_neg a] at h h'
  clear a
  by_cases a : k = 1 ∨ k = 2
  · rw [if_pos a] at h h'
    obtain ⟨l, q, c, o, h⟩ := h
    obtain ⟨l', q', c', o', h'⟩ := h'
    obtain ⟨rfl, rfl, rfl⟩ := o.one o'
    rcases h with ⟨h1, h2⟩ | ⟨h1, h2, h3⟩ <;> rcases h' with ⟨g1, g2⟩ | ⟨g1, g2, g3⟩ <;> first | exact absurd g1 h1 | exact absurd h1 g1 | exact ⟨by omega, fun h => by omega⟩ | exact ⟨by omega, fun _ => by rw [h3, g3]⟩
  rw [if_neg a] at h h'
  clear a
  by_cases a : k = 4 ∨ k = 5
  · rw [if_pos a] at h h'
    obtain ⟨l, q, c, o, h⟩ := h
    obtain ⟨l', q', c', o', h'⟩ := h'
    obtain ⟨rfl, rfl, rfl⟩ := o.one o'
    rcases h with ⟨h1, h2⟩ | ⟨h1, h2, h3⟩ | ⟨h1, h2, h3, h4⟩ <;> rcases h' with ⟨g1, g2⟩ | ⟨g1, g2, g3⟩ | ⟨g1, g2, g3, g4⟩ <;> first | exact absurd g1 h1 | exact absurd h1 g1 | exact absurd g2 h2 | exact absurd h2 g2 | exact ⟨by omega, fun h => by omega⟩ | exact ⟨by omega, fun _ => by rw [h4, g4]⟩
  rw [if_neg a] at h h'
  clear a
  by_cases a : k = 6 ∨ k = 9
  · rw [if_pos a] at h h'
    obtain ⟨l, q, c, o, h⟩ := h
    obtain ⟨l', q', c', o', h'⟩ := h'
    obtain ⟨rfl, rfl, rfl⟩ := o.one o'
    rcases h with ⟨h1, h2⟩ | ⟨h1, h2, h3⟩ <;> rcases h' with ⟨g1, g2⟩ | ⟨g1, g2, g3⟩ <;> first | exact absurd g1 h1 | exact absurd h1 g1 | exact ⟨by omega, fun h => by omega⟩ | exact ⟨by omega, fun _ => by rw [h3, g3]⟩
  rw [if_neg a] at h h'
  clear a
  by_cases a : k = 0
  · rw [if_pos a] at h h'
    rcases h with ⟨h1, h2⟩ | ⟨h1, h2, h3⟩ <;> rcases h' with ⟨g1, g2⟩ | ⟨g1, g2, g3⟩ <;> first | exact absurd g1 h1 | exact absurd h1 g1 | exact ⟨by omega, fun h => by omega⟩ | exact ⟨by omega, fun _ => by rw [h3, g3]⟩
  rw [if_neg a] at h h'
  exact ⟨by omega, fun _ => by rw [h.2, h'.2]⟩
theorem Dec.one {zs : List Int} {e e' : Int} {y y' : Ch} {m m' : Nat} (h : Dec zs e y m) (h' : Dec zs e' y' m') : e = e' ∧ (e = 0 → y = y' ∧ m = m') := by
  rcases h with ⟨h1, h2⟩ | ⟨h1, h2, h3⟩ <;> rcases h' with ⟨g1, g2⟩ | ⟨g1, g2, g3⟩
  · exact ⟨by omega, fun h => by omega⟩
  · exact absurd h1 g1
  · exact absurd g1 h1
  · obtain ⟨a, b⟩ := h2.one g2
    exact ⟨a, fun he => ⟨b he, by rw [h3 he, g3 (by omega)]⟩⟩
end Go.Proofs.YtmnndkhdekpecaaGreatDoor.Chu
namespace Go.Proofs.YtmnndkhdekpecaaGreatDoor.Chu
open Go.ChangeShapes Go.WideShapes Go.ChangeAt Go.RowKit
open Par (hidden Bytes Row Prm Prms cell_lt Cap cells_new cutA thrown form_of)
set_option linter.unusedVariables false

/-- the numbers of a chunk lie within their kinds -/
def VOk (v : Ch) : Prop := (0 ≤ v.kind ∧ v.kind < 256) ∧ (0 ≤ v.flags ∧ v.flags < 256) ∧ (0 ≤ v.tsn ∧ v.tsn < 4294967296) ∧ (0 ≤ v.stream ∧ v.stream < 65536) ∧ (0 ≤ v.ssn ∧ v.ssn < 65536) ∧ (0 ≤ v.proto ∧ v.proto < 4294967296) ∧ (0 ≤ v.tag ∧ v.tag < 4294967296) ∧ (0 ≤ v.win ∧ v.win < 4294967296) ∧ (0 ≤ v.out ∧ v.out < 65536) ∧ (0 ≤ v.inn ∧ v.inn < 65536) ∧
  (∀ g ∈ v.gs, (0 ≤ g.1 ∧ g.1 < 65536) ∧ (0 ≤ g.2 ∧ g.2 < 65536)) ∧ (∀ g ∈ v.ns, (0 ≤ g.1 ∧ g.1 < 65536) ∧ (0 ≤ g.2 ∧ g.2 < 65536)) ∧ (∀ d ∈ v.ds, 0 ≤ d ∧ d < 4294967296) ∧ Bytes v.bs ∧ ∀ x ∈ v.ps, (0 ≤ x.1 ∧ x.1 < 65536) ∧ Bytes x.2
theorem Chk.vok {base : Nat} {w : World} {c : Ck} (h : Chk base w c) : VOk (val c) := by
  obtain ⟨⟨n1, n2, n3, n4, n5, n6, n7, n8, n9, n10⟩, ⟨l1, l2, l3, l4, _, l5⟩⟩ := h
  refine ⟨n1, n2, n3, n4, n5, n6, n7, n8, n9, n10, l1.2.2.1, l2.2.2.1, l3.2.2.1, l4.2.1, fun x hx => ?_⟩
  obtain ⟨p, hp, rfl⟩ := List.mem_map.1 hx
  exact ⟨(l5.2.2.1 p hp).1, (l5.2.2.1 p hp).2.1.2.1⟩
theorem two_back (x : Int) (h : 0 ≤ x ∧ x < 65536) : x / 256 * 256 + x % 256 = x := by omega
theorem four_back (x : Int) (h : 0 ≤ x ∧ x < 4294967296) : (x / 16777216 * 256 + x / 65536 % 256) * 65536 + (x / 256 % 256 * 256 + x % 256) = x := by omega
theorem n2_app (pre t : List Int) (i : Nat) : n2 (pre ++ t) (pre.length + i) = n2 t i := by
  unfold n2
  rw [Nat.add_assoc, Par.getD_app, Par.getD_app]
theorem n4_app (pre t : List Int) (i : Nat) : n4 (pre ++ t) (pre.length + i) = n4 t i := by
  unfold n4
  rw [Nat.add_assoc, n2_app, n2_app]
theorem range_cons (n : Nat) : List.range (n + 1) = 0 :: (List.range n).map (· + 1) := List.range_succ_eq_map
theorem gapsAt_cons (v : List Int) (p n : Nat) : gapsAt v p (n + 1) = (n2 v p, n2 v (p + 2)) :: gapsAt v (p + 4) n := by
  unfold gapsAt
  rw [range_cons, List.map_cons, List.map_map]
  refine List.cons_eq_cons.2 ⟨by simp, List.map_congr_left fun i _ => ?_⟩
  simp only [Function.comp]
  rw [show p + 4 * (i + 1) = p + 4 + 4 * i by omega]
theorem foursAt_cons (v : List Int) (p n : Nat) : foursAt v p (n + 1) = n4 v p :: foursAt v (p + 4) n := by
  unfold foursAt
  rw [range_cons, List.map_cons, List.map_map]
  refine List.cons_eq_cons.2 ⟨by simp, List.map_congr_left fun i _ => ?_⟩
  simp only [Function.comp]
  rw [show p + 4 * (i + 1) = p + 4 + 4 * i by omega]
theorem gapsAt_back (gs : List (Int × Int)) (h : ∀ g ∈ gs, (0 ≤ g.1 ∧ g.1 < 65536) ∧ (0 ≤ g.2 ∧ g.2 < 65536)) (pre post : List Int) : gapsAt (pre ++ (gbytes gs ++ post)) pre.length gs.length = gs := by
  induction gs generalizing pre with
  | nil => rfl
  | cons g gs ih =>
    have hg := h g (List.mem_cons_self ..)
    have e : pre ++ (gbytes (g :: gs) ++ post) = (pre ++ [g.1 / 256, g.1 % 256, g.2 / 256, g.2 % 256]) ++ (gbytes gs ++ post) := by simp [gbytes, twos]
    have i2 := ih (fun x hx => h x (List.mem_cons_of_mem _ hx)) (pre ++ [g.1 / 256, g.1 % 256, g.2 / 256, g.2 % 256])
    rw [List.length_cons, gapsAt_cons]
    have a1 := n2_app pre ([g.1 / 256, g.1 % 256, g.2 / 256, g.2 % 256] ++ (gbytes gs ++ post)) 0
    have a2 := n2_app pre ([g.1 / 256, g.1 % 256, g.2 / 256, g.2 % 256] ++ (gbytes gs ++ post)) 2
    have b1 : n2 ([g.1 / 256, g.1 % 256, g.2 / 256, g.2 % 256] ++ (gbytes gs ++ post)) 0 = g.1 := two_back g.1 hg.1
    have b2 : n2 ([g.1 / 256, g.1 % 256, g.2 / 256, g.2 % 256] ++ (gbytes gs ++ post)) 2 = g.2 := two_back g.2 hg.2
    rw [← List.append_assoc, ← e, Nat.add_zero, b1] at a1
    rw [← List.append_assoc, ← e, b2] at a2
    rw [← e, List.length_append] at i2
    rw [a1, a2, show pre.length + 4 = pre.length + [g.1 / 256, g.1 % 256, g.2 / 256, g.2 % 256].length from rfl, i2]
theorem foursAt_back (ds : List Int) (h : ∀ d ∈ ds, 0 ≤ d ∧ d < 4294967296) (pre post : List Int) : foursAt (pre ++ (fours ds ++ post)) pre.length ds.length = ds := by
  induction ds generalizing pre with
  | nil => rfl
  | cons g gs ih =>
    have hg := h g (List.mem_cons_self ..)
    have e : pre ++ (fours (g :: gs) ++ post) = (pre ++ [g / 16777216, g / 65536 % 256, g / 256 % 256, g % 256]) ++ (fours gs ++ post) := by simp [fours]
    have i2 := ih (fun x hx => h x (List.mem_cons_of_mem _ hx)) (pre ++ [g / 16777216, g / 65536 % 256, g / 256 % 256, g % 256])
    rw [List.length_cons, foursAt_cons]
    have a1 := n4_app pre ([g / 16777216, g / 65536 % 256, g / 256 % 256, g % 256] ++ (fours gs ++ post)) 0
    have b1 : n4 ([g / 16777216, g / 65536 % 256, g / 256 % 256, g % 256] ++ (fours gs ++ post)) 0 = g := four_back g hg
    rw [← List.append_assoc, ← e, Nat.add_zero, b1] at a1
    rw [← e, List.length_append] at i2
    rw [a1, show pre.length + 4 = pre.length + [g / 16777216, g / 65536 % 256, g / 256 % 256, g % 256].length from rfl, i2]
theorem enc_nil : Par.enc [] = [] := rfl
theorem gb_nil : gbytes [] = [] := rfl
theorem fo_nil : fours [] = [] := rfl
theorem fours1 (a : Int) : fours [a] = [a / 16777216, a / 65536 % 256, a / 256 % 256, a % 256] := rfl
theorem fours2 (a b : Int) : fours [a, b] = [a / 16777216, a / 65536 % 256, a / 256 % 256, a % 256, b / 16777216, b / 65536 % 256, b / 256 % 256, b % 256] := rfl
theorem twos1 (a : Int) : twos [a] = [a / 256, a % 256] := rfl
theorem twos2 (a b : Int) : twos [a, b] = [a / 256, a % 256, b / 256, b % 256] := rfl
theorem twos4 (a b c d : Int) : twos [a, b, c, d] = [a / 256, a % 256, b / 256, b % 256, c / 256, c % 256, d / 256, d % 256] := rfl
/-- the value of a chunk that may be, read -/
theorem back_fil (v : Ch) (hv : VOk v) (hok : chk v = 0) : Fil v.kind (vby v) (zch v.kind v.flags) 0 v := by
  obtain ⟨⟨⟨hfl, hfo⟩, hnd, hbt⟩, hlen, hpc, hvl⟩ := chk_ok hok
  obtain ⟨v1, v2, v3, v4, v5, v6, v7, v8, v9, v10, v11, v12, v13, v14, v15⟩ := hv
  obtain ⟨hpl, hps⟩ := pcode_le hpc
  have hfit : ∀ x ∈ v.ps, Par.Fit x := fun x hx => ⟨(v15 x hx).1, (v15 x hx).2, hps x hx⟩
  have hout := Par.enc_out v.ps hfit hpl
  have hvby := vby_len v hpc
  obtain ⟨k, f, tsn, st, ssn, pr, tag, win, ou, inn, gs, ns, ds, bs, ps⟩ := v
  simp only at *
  unfold FieldOk at hfo
  simp only at hfo
  obtain ⟨f1, f2, f3, f4, f5, f6, f7, f8, f9, f10, f11, f12, f13⟩ := hfo
  rcases kind_cases k with rfl | rfl | rfl | rfl | rfl | rfl | rfl | rfl | rfl | rfl | rfl | rfl | rfl | rfl | hk
  · -- data
    simp at f5 f6 f7 f8 f9 f10 f11 f13
    subst f5 f6 f7 f8 f9 f10 f11 f13
    have e : vby ⟨0, f, tsn, st, ssn, pr, 0, 0, 0, 0, [], [], [], bs, []⟩ = fours [tsn] ++ twos [st, ssn] ++ fours [pr] ++ bs := by simp [vby, num, lisB, enc_nil, gb_nil, fo_nil]
    rw [e, fours1, fours1, twos2]
    have hb : bs ≠ [] := fun h => hnd ⟨rfl, h⟩
    unfold Fil
    rw [if_neg (by simp [nb]), if_neg (by decide), if_neg (by decide), if_neg (by decide), if_neg (by decide), if_neg (by decide), if_neg (by decide), if_pos rfl]
    refine .inr ⟨by simp; exact hb, rfl, ?_⟩
    simp only [zch, Ch.mk.injEq, true_and, and_true]
    refine ⟨(four_back tsn v3).symm, (two_back st v4).symm, (two_back ssn v5).symm, (four_back pr v6).symm, rfl⟩
  · -- init
    simp at f2 f3 f4 f9 f10 f11 f12
    subst f2 f3 f4 f9 f10 f11 f12
    have e : vby ⟨1, f, tsn, 0, 0, 0, tag, win, ou, inn, [], [], [], [], ps⟩ = fours [tag, win] ++ twos [ou, inn] ++ fours [tsn] ++ Par.enc ps := by simp [vby, num, lisB, gb_nil, fo_nil]
    rw [e, fours1, fours2, twos2]
    unfold Fil
    rw [if_neg (by simp [nb]), if_neg (by decide), if_neg (by decide), if_neg (by decide), if_pos (by decide)]
    refine ⟨ps, 0, 0, hout, .inr ⟨rfl, rfl, ?_⟩⟩
    simp only [zch, Ch.mk.injEq, true_and, and_true]
    refine ⟨(four_back tsn v3).symm, (four_back tag v7).symm, (four_back win v8).symm, (two_back ou v9).symm, (two_back inn v10).symm⟩
  · -- init ack
    simp at f2 f3 f4 f9 f10 f11 f12
    subst f2 f3 f4 f9 f10 f11 f12
    have e : vby ⟨2, f, tsn, 0, 0, 0, tag, win, ou, inn, [], [], [], [], ps⟩ = fours [tag, win] ++ twos [ou, inn] ++ fours [tsn] ++ Par.enc ps := by simp [vby, num, lisB, gb_nil, fo_nil]
    rw [e, fours1, fours2, twos2]
    unfold Fil
    rw [if_neg (by simp [nb]), if_neg (by decide), if_neg (by decide), if_neg (by decide), if_pos (by decide)]
    refine ⟨ps, 0, 0, hout, .inr ⟨rfl, rfl, ?_⟩⟩
    simp only [zch, Ch.mk.injEq, true_and, and_true]
    refine ⟨(four_back tsn v3).symm, (four_back tag v7).symm, (four_back win v8).symm, (two_back ou v9).symm, (two_back inn v10).symm⟩
  · -- sack
    simp at f2 f3 f4 f5 f7 f8 f10 f12 f13
    subst f2 f3 f4 f5 f7 f8 f10 f12 f13
    have e : vby ⟨3, f, tsn, 0, 0, 0, 0, win, 0, 0, gs, [], ds, [], []⟩ = (fours [tsn, win] ++ twos [(gs.length : Int), (ds.length : Int)]) ++ (gbytes gs ++ fours ds) := by simp [vby, num, lisB, enc_nil, gb_nil]
    rw [e, fours2, twos2]
    simp only [List.cons_append, List.nil_append]
    generalize hV : (_ :: _ : List Int) = V
    have g0 : n4 V 0 = tsn := by rw [← hV]; exact four_back tsn v3
    have g4 : n4 V 4 = win := by rw [← hV]; exact four_back win v8
    have g8 : n2 V 8 = gs.length := by rw [← hV]; exact two_back _ (by omega)
    have g10 : n2 V 10 = ds.length := by rw [← hV]; exact two_back _ (by omega)
    have hl : V.length = 12 + 4 * (gs.length + ds.length) := by rw [← hV]; simp [gbytes_len, fours_len]; omega
    have cg : cG V = gs.length := by unfold cG; rw [g8]; omega
    have cn : cN 3 V = 0 := by simp [cN]
    have cd : cD 3 V = ds.length := by unfold cD; rw [if_neg (by decide), g10]; omega
    have t1 : gapsAt V 12 gs.length = gs := by
      rw [← hV]
      exact gapsAt_back gs v11 [_, _, _, _, _, _, _, _, _, _, _, _] (fours ds)
    have t2 : foursAt V (12 + 4 * gs.length) ds.length = ds := by
      have := foursAt_back ds v13 ([tsn / 16777216, tsn / 65536 % 256, tsn / 256 % 256, tsn % 256, win / 16777216, win / 65536 % 256, win / 256 % 256, win % 256, (gs.length : Int) / 256, (gs.length : Int) % 256, (ds.length : Int) / 256, (ds.length : Int) % 256] ++ gbytes gs) []
      rw [List.length_append, gbytes_len, List.append_nil] at this
      rw [← hV]
      simpa [Nat.add_comm, List.append_assoc] using this
    unfold Fil
    rw [if_neg (by simp [nb, hl]), if_pos (by decide)]
    refine .inr (.inr ⟨⟨by omega, by omega, by omega⟩, ?_, rfl, ?_⟩)
    · rw [hl, cg, cn, cd]; simp [nb]
    · unfold repV
      rw [cg, cn, cd, g0, g4]
      simp only [zch, Ch.mk.injEq, true_and, and_true]
      exact ⟨t1.symm, rfl, t2.symm⟩
  · -- beat
    simp at f1 f2 f3 f4 f5 f6 f7 f8 f9 f10 f11 f12
    subst f1 f2 f3 f4 f5 f6 f7 f8 f9 f10 f11 f12
    have e : vby ⟨4, f, 0, 0, 0, 0, 0, 0, 0, 0, [], [], [], [], ps⟩ = Par.enc ps := by simp [vby, num, lisB, gb_nil, fo_nil]
    rw [e]
    have hb1 : OneBeat ps := Classical.byContradiction fun h => hbt ⟨rfl, h⟩
    unfold Fil
    rw [if_neg (by simp [nb]), if_neg (by decide), if_neg (by decide), if_neg (by decide), if_neg (by decide), if_pos (by decide)]
    exact ⟨ps, 0, 0, hout, .inr (.inr ⟨rfl, hb1, rfl, rfl⟩)⟩
  · -- beat's answer
    simp at f1 f2 f3 f4 f5 f6 f7 f8 f9 f10 f11 f12
    subst f1 f2 f3 f4 f5 f6 f7 f8 f9 f10 f11 f12
    have e : vby ⟨5, f, 0, 0, 0, 0, 0, 0, 0, 0, [], [], [], [], ps⟩ = Par.enc ps := by simp [vby, num, lisB, gb_nil, fo_nil]
    rw [e]
    have hb1 : OneBeat ps := Classical.byContradiction fun h => hbt ⟨rfl, h⟩
    unfold Fil
    rw [if_neg (by simp [nb]), if_neg (by decide), if_neg (by decide), if_neg (by decide), if_neg (by decide), if_pos (by decide)]
    exact ⟨ps, 0, 0, hout, .inr (.inr ⟨rfl, hb1, rfl, rfl⟩)⟩
  · -- abort
    simp at f1 f2 f3 f4 f5 f6 f7 f8 f9 f10 f11 f12
    subst f1 f2 f3 f4 f5 f6 f7 f8 f9 f10 f11 f12
    have e : vby ⟨6, f, 0, 0, 0, 0, 0, 0, 0, 0, [], [], [], [], ps⟩ = Par.enc ps := by simp [vby, num, lisB, gb_nil, fo_nil]
    rw [e]
    unfold Fil
    rw [if_neg (by simp [nb]), if_neg (by decide), if_neg (by decide), if_neg (by decide), if_neg (by decide), if_neg (by decide), if_pos (by decide)]
    exact ⟨ps, 0, 0, hout, .inr ⟨rfl, rfl, rfl⟩⟩
  · -- shutdown
    simp at f2 f3 f4 f5 f6 f7 f8 f9 f10 f11 f12 f13
    subst f2 f3 f4 f5 f6 f7 f8 f9 f10 f11 f12 f13
    have e : vby ⟨7, f, tsn, 0, 0, 0, 0, 0, 0, 0, [], [], [], [], []⟩ = fours [tsn] := by simp [vby, num, lisB, gb_nil, fo_nil, enc_nil]
    rw [e, fours1]
    unfold Fil
    rw [if_neg (by simp [nb]), if_neg (by decide), if_pos rfl]
    refine .inr ⟨rfl, rfl, ?_⟩
    simp only [zch, Ch.mk.injEq, true_and, and_true]
    exact (four_back tsn v3).symm
  · simp at f1 f2 f3 f4 f5 f6 f7 f8 f9 f10 f11 f12 f13
    subst f1 f2 f3 f4 f5 f6 f7 f8 f9 f10 f11 f12 f13
    have e : vby ⟨8, f, 0, 0, 0, 0, 0, 0, 0, 0, [], [], [], [], []⟩ = [] := by simp [vby, num, lisB, gb_nil, fo_nil, enc_nil]
    rw [e]
    unfold Fil
    rw [if_neg (by simp [nb]), if_neg (by decide), if_neg (by decide), if_pos (by decide)]
    exact .inr ⟨rfl, rfl, rfl⟩
  · -- error
    simp at f1 f2 f3 f4 f5 f6 f7 f8 f9 f10 f11 f12
    subst f1 f2 f3 f4 f5 f6 f7 f8 f9 f10 f11 f12
    have e : vby ⟨9, f, 0, 0, 0, 0, 0, 0, 0, 0, [], [], [], [], ps⟩ = Par.enc ps := by simp [vby, num, lisB, gb_nil, fo_nil]
    rw [e]
    unfold Fil
    rw [if_neg (by simp [nb]), if_neg (by decide), if_neg (by decide), if_neg (by decide), if_neg (by decide), if_neg (by decide), if_pos (by decide)]
    exact ⟨ps, 0, 0, hout, .inr ⟨rfl, rfl, rfl⟩⟩
  · -- cookie
    simp at f1 f2 f3 f4 f5 f6 f7 f8 f9 f10 f11 f13
    subst f1 f2 f3 f4 f5 f6 f7 f8 f9 f10 f11 f13
    have e : vby ⟨10, f, 0, 0, 0, 0, 0, 0, 0, 0, [], [], [], bs, []⟩ = bs := by simp [vby, num, lisB, gb_nil, fo_nil, enc_nil]
    rw [e]
    unfold Fil
    rw [if_neg (by simp [nb]), if_neg (by decide), if_neg (by decide), if_neg (by decide), if_neg (by decide), if_neg (by decide), if_neg (by decide), if_neg (by decide)]
    exact ⟨rfl, rfl⟩
  · simp at f1 f2 f3 f4 f5 f6 f7 f8 f9 f10 f11 f12 f13
    subst f1 f2 f3 f4 f5 f6 f7 f8 f9 f10 f11 f12 f13
    have e : vby ⟨11, f, 0, 0, 0, 0, 0, 0, 0, 0, [], [], [], [], []⟩ = [] := by simp [vby, num, lisB, gb_nil, fo_nil, enc_nil]
    rw [e]
    unfold Fil
    rw [if_neg (by simp [nb]), if_neg (by decide), if_neg (by decide), if_pos (by decide)]
    exact .inr ⟨rfl, rfl, rfl⟩
  · simp at f1 f2 f3 f4 f5 f6 f7 f8 f9 f10 f11 f12 f13
    subst f1 f2 f3 f4 f5 f6 f7 f8 f9 f10 f11 f12 f13
    have e : vby ⟨14, f, 0, 0, 0, 0, 0, 0, 0, 0, [], [], [], [], []⟩ = [] := by simp [vby, num, lisB, gb_nil, fo_nil, enc_nil]
    rw [e]
    unfold Fil
    rw [if_neg (by simp [nb]), if_neg (by decide), if_neg (by decide), if_pos (by decide)]
    exact .inr ⟨rfl, rfl, rfl⟩
  · -- nr sack
    simp at f2 f3 f4 f5 f7 f8 f12 f13
    subst f2 f3 f4 f5 f7 f8 f12 f13
    have e : vby ⟨16, f, tsn, 0, 0, 0, 0, win, 0, 0, gs, ns, ds, [], []⟩ = (fours [tsn, win] ++ twos [(gs.length : Int), (ns.length : Int), (ds.length : Int), 0]) ++ (gbytes gs ++ (gbytes ns ++ fours ds)) := by simp [vby, num, lisB, enc_nil]
    rw [e, fours2, twos4]
    simp only [List.cons_append, List.nil_append]
    generalize hV : (_ :: _ : List Int) = V
    have g0 : n4 V 0 = tsn := by rw [← hV]; exact four_back tsn v3
    have g4 : n4 V 4 = win := by rw [← hV]; exact four_back win v8
    have g8 : n2 V 8 = gs.length := by rw [← hV]; exact two_back _ (by omega)
    have g10 : n2 V 10 = ns.length := by rw [← hV]; exact two_back _ (by omega)
    have g12 : n2 V 12 = ds.length := by rw [← hV]; exact two_back _ (by omega)
    have hl : V.length = 16 + 4 * (gs.length + ns.length + ds.length) := by rw [← hV]; simp [gbytes_len, fours_len]; omega
    have cg : cG V = gs.length := by unfold cG; rw [g8]; omega
    have cn : cN 16 V = ns.length := by unfold cN; rw [if_pos rfl, g10]; omega
    have cd : cD 16 V = ds.length := by unfold cD; rw [if_pos rfl, g12]; omega
    have t1 : gapsAt V 16 gs.length = gs := by
      rw [← hV]
      exact gapsAt_back gs v11 [_, _, _, _, _, _, _, _, _, _, _, _, _, _, _, _] (gbytes ns ++ fours ds)
    have t2 : gapsAt V (16 + 4 * gs.length) ns.length = ns := by
      have := gapsAt_back ns v12 ([tsn / 16777216, tsn / 65536 % 256, tsn / 256 % 256, tsn % 256, win / 16777216, win / 65536 % 256, win / 256 % 256, win % 256, (gs.length : Int) / 256, (gs.length : Int) % 256, (ns.length : Int) / 256, (ns.length : Int) % 256, (ds.length : Int) / 256, (ds.length : Int) % 256, 0 / 256, 0 % 256] ++ gbytes gs) (fours ds)
      rw [List.length_append, gbytes_len] at this
      rw [← hV]
      simpa [Nat.add_comm, List.append_assoc] using this
    have t3 : foursAt V (16 + 4 * gs.length + 4 * ns.length) ds.length = ds := by
      have := foursAt_back ds v13 ([tsn / 16777216, tsn / 65536 % 256, tsn / 256 % 256, tsn % 256, win / 16777216, win / 65536 % 256, win / 256 % 256, win % 256, (gs.length : Int) / 256, (gs.length : Int) % 256, (ns.length : Int) / 256, (ns.length : Int) % 256, (ds.length : Int) / 256, (ds.length : Int) % 256, 0 / 256, 0 % 256] ++ gbytes gs ++ gbytes ns) []
      rw [List.length_append, List.length_append, gbytes_len, gbytes_len, List.append_nil] at this
      rw [← hV]
      rw [List.append_assoc, List.append_assoc] at this
      exact this
    unfold Fil
    rw [if_neg (by simp [nb, hl]), if_pos (by decide)]
    refine .inr (.inr ⟨⟨by omega, by omega, by omega⟩, ?_, rfl, ?_⟩)
    · rw [hl, cg, cn, cd]; simp [nb]
    · unfold repV
      rw [cg, cn, cd, g0, g4]
      simp only [zch, Ch.mk.injEq, true_and, and_true]
      exact ⟨t1.symm, t2.symm, t3.symm⟩
  · obtain ⟨h0, h1, h2, h3, h4, h5, h6, h7, h8, h9, h10, h11, h14, h16⟩ := hk
    simp [h0, h1, h2, h3, h4, h5, h6, h7, h9, h16] at f1 f2 f3 f4 f5 f6 f7 f8 f9 f10 f11 f13
    subst f1 f2 f3 f4 f5 f6 f7 f8 f9 f10 f11 f13
    have e : vby ⟨k, f, 0, 0, 0, 0, 0, 0, 0, 0, [], [], [], bs, []⟩ = bs := by simp [vby, num, lisB, gb_nil, fo_nil, enc_nil, h0, h1, h2, h3, h7, h16]
    rw [e]
    unfold Fil
    rw [if_neg (by simp [nb, h0, h1, h2, h3, h7, h16]), if_neg (by simp [h3, h16]), if_neg h7, if_neg (by simp [h8, h11, h14]), if_neg (by simp [h1, h2]), if_neg (by simp [h4, h5]), if_neg (by simp [h6, h9]), if_neg h0]
    exact ⟨rfl, rfl⟩
/-- there and back -/
theorem back (v : Ch) (hv : VOk v) (hok : chk v = 0) (t : List Int) : Dec (encC v ++ t) 0 v (clen v) := by
  have hF := back_fil v hv hok
  obtain ⟨⟨⟨hfl, _⟩, _⟩, _, hpc, hvl⟩ := chk_ok hok
  have hL := encC_len v hpc
  have hV := vby_len v hpc
  have hc : clen v = Par.fill4 (4 + vlen v) := rfl
  have hc4 := Par.fill4_le (4 + vlen v)
  have e : encC v ++ t = v.kind :: v.flags :: ((4 + (vlen v : Int)) / 256) :: ((4 + (vlen v : Int)) % 256) :: (vby v ++ (List.replicate (clen v - (4 + vlen v)) 0 ++ t)) := by
    unfold encC
    rw [twos1]
    simp
  have hl : (encC v ++ t).length = clen v + t.length := by rw [List.length_append, hL]
  have h2 : n2 (encC v ++ t) 2 = 4 + (vlen v : Int) := by rw [e]; exact two_back _ (by omega)
  have hbd : body (encC v ++ t) = vby v := by
    unfold body
    rw [h2, show (4 + (vlen v : Int)).toNat = 4 + vlen v by omega, e, show 4 + vlen v = vlen v + 1 + 1 + 1 + 1 by omega, List.take_succ_cons, List.take_succ_cons, List.take_succ_cons, List.take_succ_cons]
    show (List.take (vlen v) (vby v ++ _)) = _
    rw [← hV, List.take_left]
  refine .inr ⟨?_, ?_, fun _ => ?_⟩
  · unfold Cut
    rw [h2, hl]
    omega
  · rw [hbd]
    have e0 : (encC v ++ t).getD 0 0 = v.kind := by rw [e]; rfl
    have e1 : (encC v ++ t).getD 1 0 = v.flags := by rw [e]; rfl
    rw [e0, e1, flg_id _ _ hv.2.1.1 hfl]
    exact hF
  · rw [h2, hl, show (4 + (vlen v : Int)).toNat = 4 + vlen v by omega, ← hc]
    omega
end Go.Proofs.YtmnndkhdekpecaaGreatDoor.Chu
namespace Go.Proofs.YtmnndkhdekpecaaGreatDoor.Chu
open Go.ChangeShapes Go.WideShapes Go.ChangeAt Go.RowKit
open Par (hidden Bytes Row Prm Prms cell_lt Cap cells_new cutA thrown form_of)
set_option linter.unusedVariables false

theorem pcode_ok {l : List (Int × List Int)} (h1 : l.length ≤ 256) (h2 : ∀ x ∈ l, Par.Fit x) : pcode l = 0 := by
  unfold pcode
  rw [if_neg (by omega), if_neg]
  intro h
  obtain ⟨x, hx, hl⟩ := List.any_eq_true.1 h
  have h3 := (h2 x hx).2.2
  have h4 := of_decide_eq_true hl
  omega
theorem pcode_nil : pcode [] = 0 := rfl
theorem psz_nil : psz [] = 0 := rfl
theorem psz_le_of {l : List (Int × List Int)} (h : pcode l = 0) {n : Nat} (hn : (Par.enc l).length ≤ n) : psz l ≤ n := by
  unfold psz
  rw [if_pos h]
  exact hn
theorem chk_of (y : Ch) (h1 : FlagOk y.kind y.flags) (h2 : FieldOk y) (h3 : ¬ (y.kind = 0 ∧ y.bs = [])) (h4 : y.kind = 4 ∨ y.kind = 5 → OneBeat y.ps) (h5 : y.gs.length ≤ 4096 ∧ y.ns.length ≤ 4096 ∧ y.ds.length ≤ 4096) (h6 : pcode y.ps = 0) (h7 : vlen y ≤ 65531) : chk y = 0 := by
  refine chk_0 ⟨⟨h1, h2⟩, h3, fun ⟨hb, hn⟩ => hn (h4 ?_)⟩ (by omega) h6 (by omega)
  unfold beat at hb
  simpa using hb
theorem nums_nil : (∀ g ∈ ([] : List (Int × Int)), (0 ≤ g.1 ∧ g.1 < 65536) ∧ (0 ≤ g.2 ∧ g.2 < 65536)) := fun g hg => by cases hg
theorem ds_nil : (∀ d ∈ ([] : List Int), 0 ≤ d ∧ d < 4294967296) := fun g hg => by cases hg
theorem bs_nil : Bytes [] := fun g hg => by cases hg
theorem ps_nil : ∀ x ∈ ([] : List (Int × List Int)), (0 ≤ x.1 ∧ x.1 < 65536) ∧ Bytes x.2 := fun g hg => by cases hg
theorem z32 : (0 : Int) ≤ 0 ∧ (0 : Int) < 4294967296 := by decide
theorem z16 : (0 : Int) ≤ 0 ∧ (0 : Int) < 65536 := by decide
theorem ps_fit {l : List (Int × List Int)} (h : ∀ x ∈ l, Par.Fit x) : ∀ x ∈ l, (0 ≤ x.1 ∧ x.1 < 65536) ∧ Bytes x.2 := fun x hx => ⟨(h x hx).1, (h x hx).2.1⟩
set_option maxHeartbeats 2000000 in
theorem read_fil (k f : Int) (v : List Int) (y : Ch) (hk : 0 ≤ k ∧ k < 256) (hf : 0 ≤ f ∧ f < 256) (hfl : FlagOk k f) (hv : Bytes v) (hl : v.length ≤ 65531) (h : Fil k v (zch k f) 0 y) : chk y = 0 ∧ VOk y := by
  unfold Fil at h
  by_cases hn : v.length < nb k
  · rw [if_pos hn] at h; cases h
  rw [if_neg hn] at h
  by_cases a : k = 3 ∨ k = 16
  · rw [if_pos a] at h
    rcases h with ⟨_, h⟩ | ⟨_, _, h⟩ | ⟨⟨c1, c2, c3⟩, h2, _, rfl⟩
    · cases h
    · cases h
    · have hcn : k = 3 → cN k v = 0 := fun e => by subst e; simp [cN]
      refine ⟨chk_of _ hfl ?_ ?_ ?_ ⟨?_, ?_, ?_⟩ rfl ?_, hk, hf, n4_bound hv _, z16, z16, z32, z32, n4_bound hv _, z16, z16, gapsAt_in hv _ _, gapsAt_in hv _ _, foursAt_in hv _ _, bs_nil, ps_nil⟩
      · rcases a with rfl | rfl
        · simp [FieldOk, repV, zch, hcn, gapsAt]
        · simp [FieldOk, repV, zch]
      · rintro ⟨h, _⟩; have : k = 0 := h; omega
      · intro h; have : k = 4 ∨ k = 5 := h; omega
      · show (gapsAt v _ _).length ≤ _; rw [gapsAt_len]; exact c1
      · show (gapsAt v _ _).length ≤ _; rw [gapsAt_len]; exact c2
      · show (foursAt v _ _).length ≤ _; rw [foursAt_len]; exact c3
      · show nb k + 4 * ((gapsAt v _ _).length + (gapsAt v _ _).length + (foursAt v _ _).length) + psz [] + 0 ≤ _
        rw [gapsAt_len, gapsAt_len, foursAt_len, psz_nil]
        omega
  rw [if_neg a] at h
  by_cases b : k = 7
  · rw [if_pos b] at h
    subst b
    rcases h with ⟨_, h⟩ | ⟨h1, _, rfl⟩
    · cases h
    · refine ⟨chk_of _ hfl (by simp [FieldOk, zch]) (by simp [zch]) (by simp [zch]) (by simp [zch]) rfl ?_, hk, hf, n4_bound hv _, z16, z16, z32, z32, z32, z16, z16, nums_nil, nums_nil, ds_nil, bs_nil, ps_nil⟩
      simp [vlen, zch, psz_nil, nb]
  rw [if_neg b] at h
  by_cases c : k = 8 ∨ k = 11 ∨ k = 14
  · rw [if_pos c] at h
    rcases h with ⟨_, h⟩ | ⟨h1, _, rfl⟩
    · cases h
    · refine ⟨chk_of _ hfl (by simp [FieldOk, zch]) (by rintro ⟨h, _⟩; have : k = 0 := h; omega) (by intro h; have : k = 4 ∨ k = 5 := h; omega) (by simp [zch]) rfl ?_, hk, hf, z32, z16, z16, z32, z32, z32, z16, z16, nums_nil, nums_nil, ds_nil, bs_nil, ps_nil⟩
      show nb k + 4 * (0 + 0 + 0) + psz [] + 0 ≤ _
      rw [psz_nil]
      omega
  rw [if_neg c] at h
  by_cases d : k = 1 ∨ k = 2
  · rw [if_pos d] at h
    obtain ⟨l, q, cc, o, h⟩ := h
    rcases h with ⟨h1, h2⟩ | ⟨rfl, _, rfl⟩
    · exact absurd h2.symm h1
    · obtain ⟨o1, o2, o3, o4⟩ := Par.Out.list (fun x hx => hv x (List.mem_of_mem_drop hx)) o
      have hpc := pcode_ok o2 o1
      have hz := psz_le_of hpc o3
      rw [List.length_drop] at hz
      have hnb : nb k = 16 := by rcases d with rfl | rfl <;> rfl
      refine ⟨chk_of _ hfl ?_ ?_ ?_ (by simp [zch]) hpc ?_, hk, hf, n4_bound hv _, z16, z16, z32, n4_bound hv _, n4_bound hv _, n2_bound hv _, n2_bound hv _, nums_nil, nums_nil, ds_nil, bs_nil, ps_fit o1⟩
      · rcases d with rfl | rfl <;> simp [FieldOk, zch]
      · rintro ⟨h, _⟩; have : k = 0 := h; omega
      · intro h; have : k = 4 ∨ k = 5 := h; omega
      · show nb k + 4 * (0 + 0 + 0) + psz l + 0 ≤ _
        omega
  rw [if_neg d] at h
  by_cases g : k = 4 ∨ k = 5
  · rw [if_pos g] at h
    obtain ⟨l, q, cc, o, h⟩ := h
    rcases h with ⟨h1, h2⟩ | ⟨_, _, h2⟩ | ⟨rfl, ho, _, rfl⟩
    · exact absurd h2.symm h1
    · cases h2
    · obtain ⟨o1, o2, o3, o4⟩ := Par.Out.list hv o
      have hpc := pcode_ok o2 o1
      have hz := psz_le_of hpc o3
      have hnb : nb k = 0 := by rcases g with rfl | rfl <;> rfl
      refine ⟨chk_of _ hfl ?_ ?_ (fun _ => ho) (by simp [zch]) hpc ?_, hk, hf, z32, z16, z16, z32, z32, z32, z16, z16, nums_nil, nums_nil, ds_nil, bs_nil, ps_fit o1⟩
      · rcases g with rfl | rfl <;> simp [FieldOk, zch]
      · rintro ⟨h, _⟩; have : k = 0 := h; omega
      · show nb k + 4 * (0 + 0 + 0) + psz l + 0 ≤ _
        omega
  rw [if_neg g] at h
  by_cases i : k = 6 ∨ k = 9
  · rw [if_pos i] at h
    obtain ⟨l, q, cc, o, h⟩ := h
    rcases h with ⟨h1, h2⟩ | ⟨rfl, _, rfl⟩
    · exact absurd h2.symm h1
    · obtain ⟨o1, o2, o3, o4⟩ := Par.Out.list hv o
      have hpc := pcode_ok o2 o1
      have hz := psz_le_of hpc o3
      have hnb : nb k = 0 := by rcases i with rfl | rfl <;> rfl
      refine ⟨chk_of _ hfl ?_ ?_ ?_ (by simp [zch]) hpc ?_, hk, hf, z32, z16, z16, z32, z32, z32, z16, z16, nums_nil, nums_nil, ds_nil, bs_nil, ps_fit o1⟩
      · rcases i with rfl | rfl <;> simp [FieldOk, zch]
      · rintro ⟨h, _⟩; have : k = 0 := h; omega
      · intro h; have : k = 4 ∨ k = 5 := h; omega
      · show nb k + 4 * (0 + 0 + 0) + psz l + 0 ≤ _
        omega
  rw [if_neg i] at h
  by_cases j : k = 0
  · rw [if_pos j] at h
    subst j
    have hnb : nb 0 = 12 := rfl
    rcases h with ⟨_, h⟩ | ⟨h1, _, rfl⟩
    · cases h
    · refine ⟨chk_of _ hfl (by simp [FieldOk, zch]) ?_ (by simp [zch]) (by simp [zch]) rfl ?_, hk, hf, n4_bound hv _, n2_bound hv _, n2_bound hv _, n4_bound hv _, z32, z32, z16, z16, nums_nil, nums_nil, ds_nil, (fun x hx => hv x (List.mem_of_mem_drop hx)), ps_nil⟩
      · rintro ⟨_, h⟩
        have h' : v.drop 12 = [] := h
        have := congrArg List.length h'
        rw [List.length_drop] at this
        simp at this
        omega
      · show nb 0 + 4 * (0 + 0 + 0) + psz [] + (v.drop 12).length ≤ _
        rw [psz_nil, List.length_drop]
        omega
  rw [if_neg j] at h
  obtain ⟨_, rfl⟩ := h
  refine ⟨chk_of _ hfl ?_ ?_ ?_ (by simp [zch]) rfl ?_, hk, hf, z32, z16, z16, z32, z32, z32, z16, z16, nums_nil, nums_nil, ds_nil, hv, ps_nil⟩
  · simp only [not_or] at a b c d g i j
    simp [FieldOk, zch, a, b, c, d, g, i, j]
  · rintro ⟨h, _⟩; exact j h
  · intro h; exact absurd h g
  · have hnb : nb k = 0 := by
      simp only [not_or] at a d
      simp [nb, a, b, d, j]
    show nb k + 4 * (0 + 0 + 0) + psz [] + v.length ≤ _
    rw [psz_nil]
    omega
theorem body_len (zs : List Int) (hz : Bytes zs) : (body zs).length ≤ 65531 := by
  have := n2_bound hz 2
  unfold body
  rw [List.length_drop, List.length_take]
  omega
theorem body_bytes {zs : List Int} (hz : Bytes zs) : Bytes (body zs) := fun x hx => hz x (List.mem_of_mem_take (List.mem_of_mem_drop hx))
/-- what is read may be -/
theorem read_ok (zs : List Int) (hz : Bytes zs) (y : Ch) (m : Nat) (h : Dec zs 0 y m) : chk y = 0 ∧ VOk y ∧ 4 ≤ m ∧ m ≤ zs.length := by
  rcases h with ⟨_, h⟩ | ⟨h1, h2, h3⟩
  · cases h
  · have b0 := Par.at_bound zs hz 0
    have b1 := Par.at_bound zs hz 1
    obtain ⟨f1, f2⟩ := flg_ok (zs.getD 0 0) (zs.getD 1 0) b1.1 b1.2
    obtain ⟨r1, r2⟩ := read_fil _ _ _ y b0 f2 f1 (body_bytes hz) (body_len zs hz) h2
    have hm := h3 rfl
    unfold Cut at h1
    have := Par.fill4_le (n2 zs 2).toNat
    exact ⟨r1, r2, by omega, by omega⟩
end Go.Proofs.YtmnndkhdekpecaaGreatDoor.Chu
namespace Go.Proofs.YtmnndkhdekpecaaGreatDoor.Chu
open Go.ChangeShapes Go.WideShapes Go.ChangeAt Go.RowKit
open Par (hidden Bytes Row Prm Prms cell_lt)
set_option linter.unusedVariables false

theorem bytes_append {xs ys : List Int} (h1 : Bytes xs) (h2 : Bytes ys) : Bytes (xs ++ ys) := fun x hx => by
  rcases List.mem_append.1 hx with h | h
  · exact h1 x h
  · exact h2 x h
theorem twos_bytes {xs : List Int} (h : ∀ x ∈ xs, 0 ≤ x ∧ x < 65536) : Bytes (twos xs) := by
  intro y hy
  obtain ⟨x, hx, hm⟩ := List.mem_flatMap.1 hy
  have := h x hx
  simp only [List.mem_cons, List.not_mem_nil, or_false] at hm
  rcases hm with rfl | rfl <;> omega
theorem fours_bytes {xs : List Int} (h : ∀ x ∈ xs, 0 ≤ x ∧ x < 4294967296) : Bytes (fours xs) := by
  intro y hy
  obtain ⟨x, hx, hm⟩ := List.mem_flatMap.1 hy
  have := h x hx
  simp only [List.mem_cons, List.not_mem_nil, or_false] at hm
  rcases hm with rfl | rfl | rfl | rfl <;> omega
theorem gbytes_bytes {gs : List (Int × Int)} (h : ∀ g ∈ gs, (0 ≤ g.1 ∧ g.1 < 65536) ∧ (0 ≤ g.2 ∧ g.2 < 65536)) : Bytes (gbytes gs) := by
  intro y hy
  obtain ⟨g, hg, hm⟩ := List.mem_flatMap.1 hy
  exact twos_bytes (two_in (h g hg).1 (h g hg).2) y hm
theorem num_bytes {v : Ch} (h : VOk v) (hg : v.gs.length ≤ 4096) (hn : v.ns.length ≤ 4096) (hd : v.ds.length ≤ 4096) : Bytes (num v) := by
  obtain ⟨v1, v2, v3, v4, v5, v6, v7, v8, v9, v10, _⟩ := h
  unfold num
  split
  · exact bytes_append (bytes_append (fours_bytes (one32 v3)) (twos_bytes (two_in v4 v5))) (fours_bytes (one32 v6))
  split
  · exact bytes_append (bytes_append (fours_bytes (two32 v7 v8)) (twos_bytes (two_in v9 v10))) (fours_bytes (one32 v3))
  split
  · exact bytes_append (fours_bytes (two32 v3 v8)) (twos_bytes (two_in (by omega) (by omega)))
  split
  · exact bytes_append (fours_bytes (two32 v3 v8)) (twos_bytes (four_in (by omega) (by omega) (by omega) (by omega)))
  split
  · exact fours_bytes (one32 v3)
  · exact bs_nil
theorem vby_bytes {v : Ch} (h : VOk v) (hok : chk v = 0) : Bytes (vby v) := by
  obtain ⟨_, hl, _, _⟩ := chk_ok hok
  have hn := num_bytes h (by omega) (by omega) (by omega)
  obtain ⟨v1, v2, v3, v4, v5, v6, v7, v8, v9, v10, v11, v12, v13, v14, v15⟩ := h
  exact bytes_append hn (bytes_append (bytes_append (bytes_append (bytes_append (gbytes_bytes v11) (gbytes_bytes v12)) (fours_bytes v13)) (Par.enc_bytes v.ps v15)) v14)
theorem encC_bytes {v : Ch} (h : VOk v) (hok : chk v = 0) : Bytes (encC v) := by
  have hb := vby_bytes h hok
  obtain ⟨_, _, _, hvl⟩ := chk_ok hok
  refine bytes_append (bytes_append (bytes_append ?_ (twos_bytes ?_)) hb) ?_
  · intro x hx
    simp only [List.mem_cons, List.not_mem_nil, or_false] at hx
    rcases hx with rfl | rfl
    · exact h.1
    · exact h.2.1
  · intro x hx
    obtain rfl : x = 4 + (vlen v : Int) := by simpa using hx
    omega
  · intro x hx
    obtain ⟨_, rfl⟩ := List.mem_replicate.1 hx
    decide
theorem encA_bytes {vs : List Ch} (h : ∀ v ∈ vs, VOk v) (hok : ∀ v ∈ vs, chk v = 0) : Bytes (encA vs) := by
  intro y hy
  obtain ⟨v, hv, hm⟩ := List.mem_flatMap.1 hy
  exact encC_bytes (h v hv) (hok v hv) y hm
theorem all_one {α : Type} {p : α → Prop} {v : α} (h : p v) : ∀ u ∈ [v], p u := by
  intro u hu
  obtain rfl : u = v := by simpa using hu
  exact h
theorem tot_one (v : Ch) : tot [v] = clen v := by simp [tot]
theorem encA_one (v : Ch) : encA [v] = encC v ++ [] := by simp [encA]
/-- one chunk that may be has bytes -/
theorem encR_one {v : Ch} {e : Int} (h : EncR [v] e) (hv : chk v = 0) : e = 0 := by
  rcases h with ⟨k, u, hk, _, hne, _⟩ | ⟨_, ht, _⟩ | ⟨_, _, h⟩
  · have : u ∈ [v] := List.mem_of_getElem? hk
    obtain rfl : u = v := by simpa using this
    exact absurd hv hne
  · rw [tot_one] at ht
    have := clen_le hv
    omega
  · exact h
/-- .. and is read from them -/
theorem read_one {v y : Ch} {e : Int} {m : Nat} (hv : VOk v) (hok : chk v = 0) (h : Dec (encA [v]) e y m) : e = 0 ∧ y = v ∧ m = clen v := by
  rw [encA_one] at h
  obtain ⟨a, b⟩ := (back v hv hok []).one h
  obtain ⟨c, d⟩ := b rfl
  exact ⟨a.symm, c.symm, d.symm⟩
end Go.Proofs.YtmnndkhdekpecaaGreatDoor.Chu
namespace Go.Proofs.YtmnndkhdekpecaaGreatDoor.Chu
open Go.ChangeShapes Go.WideShapes Go.ChangeAt Go.RowKit
open Par (hidden Bytes Row Prm Prms cell_lt Cap cells_new cutA thrown form_of)
set_option linter.unusedVariables false
attribute [local go_sem ↓] execOp_ld execOp_bx execOp_st

/-- so many bytes at a place as a number -/
def gx (v : List Int) (p : Nat) : Nat → Int
  | 0 => 0
  | i + 1 => gx v p i * 256 + v.getD (p + i) 0
theorem gx2 (v : List Int) (p : Nat) : gx v p 2 = n2 v p := by simp [gx, n2]
theorem gx4 (v : List Int) (p : Nat) : gx v p 4 = n4 v p := by
  simp only [gx, n4, n2, Nat.add_zero, Nat.add_assoc, Nat.reduceAdd]
  omega
theorem gx_bound {v : List Int} (h : Bytes v) (p i : Nat) : 0 ≤ gx v p i ∧ gx v p i < (256 : Int) ^ i := by
  induction i with
  | zero => simp [gx]
  | succ i ih =>
    have hb := Par.at_bound v h (p + i)
    simp only [gx, Int.pow_succ]
    omega
theorem or_low (x y : Int) (hx : 0 ≤ x ∧ x < 16777216) (hy : 0 ≤ y ∧ y < 256) : bits .or .u32 (x * 256) y = x * 256 + y := by
  obtain ⟨X, rfl⟩ : ∃ X : Nat, x = (X : Int) := ⟨x.toNat, by omega⟩
  obtain ⟨Y, rfl⟩ : ∃ Y : Nat, y = (Y : Int) := ⟨y.toNat, by omega⟩
  rw [show (X : Int) * 256 = ((X * 256 : Nat) : Int) by omega, u32_or_nat (X * 256) Y (by omega) (by omega)]
  have := Nat.two_pow_add_eq_or_of_lt (i := 8) (b := Y) (by omega) X
  rw [Nat.mul_comm X, ← this]
  omega
theorem pow_le (i : Nat) (h : i < 4) : (256 : Int) ^ i ≤ 16777216 := by
  match i, h with
  | 0, _ => decide
  | 1, _ => decide
  | 2, _ => decide
  | 3, _ => decide
theorem rGet (base : Nat) (w : World) (a : Option Addr) (len cap p n : Nat) (v : List Int) (h : Row base w a len v) (hn : n ≤ 4) (hp : p + n ≤ len) :
    Calls Tryz.prog 89 #[.slice a len cap, .int .i64 (p : Int), .int .i64 (n : Int)] w fun e w' => e = .returned (.int .u32 (gx v p n)) ∧ w = w' := by
  have hl := h.1
  have hlim := h.2.2.1
  have HR := hidden h
  clear h
  go_enter Tryz.func89, Tryz.ntmps89
  go_wp2_with fail
  go_loopw [7, 8] (fun x i wr => ∃ k : Nat, k ≤ n ∧ i = .int .i64 k ∧ x = .int .u32 (gx v p k) ∧ w = wr) (fun _ i _ => n - (intOf i).toNat)
  case atStart => exact ⟨0, Nat.zero_le _, rfl, rfl, rfl⟩
  case round =>
    obtain ⟨k, hk, rfl, rfl, rfl⟩ := hrel
    rcases Nat.lt_or_ge k n with hlt | hge
    · obtain ⟨b, off, rfl, hc⟩ := row_cell HR.out (Below.refl _ _) (j := p + k) (by omega)
      have xb := gx_bound HR.out.2.1 p k
      have xp := pow_le k (by omega)
      have yb := Par.at_bound v HR.out.2.1 (p + k)
      have ho := or_low (gx v p k) (v.getD (p + k) 0) ⟨xb.1, by omega⟩ yb
      have HS := hidden (show gx v p (k + 1) = gx v p k * 256 + v.getD (p + k) 0 from rfl)
      have xb2 : 0 ≤ gx v p k ∧ gx v p k < 16777216 := ⟨xb.1, by omega⟩
      clear xb xp
      generalize gx v p k = x at *
      generalize v.getD (p + k) 0 = y at *
      have hw : ∀ z : Int, IntKind.u32.wrap z = z % 4294967296 := fun _ => rfl
      have hm : x * 256 % 4294967296 = x * 256 := by omega
      have hy : y % 4294967296 = y := by omega
      have hi : ((p : Int) + (k : Int)).toNat = p + k := by omega
      have hi2 : (p : Int) + (k : Int) < (len : Int) := by omega
      have hi3 : 0 ≤ (p : Int) + (k : Int) := by omega
      go_wp2
      go_roundw
      case rel => exact ⟨k + 1, by omega, by go_num, by rw [HS.out], by first | trivial | rfl⟩
      case measure => simp [intOf]; omega
    · obtain rfl : n = k := by omega
      go_wp2
      go_ret
      exact ⟨rfl, rfl⟩
theorem rGet2 (base : Nat) (w : World) (a : Option Addr) (len cap p : Nat) (v : List Int) (h : Row base w a len v) (hp : p + 2 ≤ len) :
    Calls Tryz.prog 89 #[.slice a len cap, .int .i64 (p : Int), .int .i64 2] w fun e w' => e = .returned (.int .u32 (n2 v p)) ∧ w = w' := by
  have := rGet base w a len cap p 2 v h (by omega) hp
  rw [gx2] at this
  exact this
theorem rGet4 (base : Nat) (w : World) (a : Option Addr) (len cap p : Nat) (v : List Int) (h : Row base w a len v) (hp : p + 4 ≤ len) :
    Calls Tryz.prog 89 #[.slice a len cap, .int .i64 (p : Int), .int .i64 4] w fun e w' => e = .returned (.int .u32 (n4 v p)) ∧ w = w' := by
  have := rGet base w a len cap p 4 v h (by omega) hp
  rw [gx4] at this
  exact this
theorem i2 (n k p : Nat) (hn : n ≤ 4096) (hk : k < n) (hp : p ≤ 140737488355328) : (p : Int) + 4 * (k : Int) = ((p + 4 * k : Nat) : Int) ∧ ((p + 4 * k : Nat) : Int) + 2 = ((p + 4 * k + 2 : Nat) : Int) := by omega
set_option maxRecDepth 20000 in
theorem rBlocks (base : Nat) (w : World) (a : Option Addr) (len cap p n : Nat) (v : List Int) (h : Row base w a len v) (hn : n ≤ 4096) (hp : p + 4 * n ≤ len) :
    Calls Tryz.prog 115 #[.slice a len cap, .int .i64 (p : Int), .int .i64 (n : Int)] w fun e w' => ∃ u, e = .returned u ∧ w'.ownsRow w.heap.size 106 2 u n (gcs (gapsAt v p n)) ∧ Below w.heap.size w w' := by
  obtain ⟨i0, hi, hz0, hz1, hz2⟩ := info_parts infoG
  have hl := h.1
  have hlim := h.2.2.1
  have HR := hidden h
  clear h
  go_enter Tryz.func115, Tryz.ntmps115
  go_wp2_with fail
  go_loopw [7, 8] (fun u i wr => ∃ k : Nat, k ≤ n ∧ i = .int .i64 k ∧ wr.ownsRow w.heap.size 106 2 u k (gcs (gapsAt v p k)) ∧ Below w.heap.size w wr) (fun _ i _ => n - (intOf i).toNat)
  case atStart => exact ⟨0, Nat.zero_le _, rfl, World.ownsRow_nil _ _ _ _, Below.refl _ _⟩
  case round =>
    obtain ⟨k, hk, rfl, ho, hb⟩ := hrel
    rcases Nat.lt_or_ge k n with hlt | hge
    · obtain ⟨va, vc, rfl⟩ := form_of ho
      have T1 := hidden (rGet2 base wr a len cap (p + 4 * k) v (HR.out.later hb) (by omega))
      have T2 := hidden (rGet2 base wr a len cap (p + 4 * k + 2) v (HR.out.later hb) (by omega))
      have xb := n2_bound HR.out.2.1 (p + 4 * k)
      have yb := n2_bound HR.out.2.1 (p + 4 * k + 2)
      have HO2 := hidden ho
      have HB := hidden hb
      have hs2 := hb.size
      clear ho hb
      have HS := hidden (gapsAt_succ v p k)
      have hw : ∀ z : Int, IntKind.u16.wrap z = z % 65536 := fun _ => rfl
      go_wp2_with fail
      refine Calls.mono T1.out ?_
      rintro e w1 ⟨rfl, rfl⟩
      clear T1
      generalize n2 v (p + 4 * k) = x at *
      generalize n2 v (p + 4 * k + 2) = y at *
      have hx : x % 65536 = x := by omega
      have hy : y % 65536 = y := by omega
      go_wp2_with fail
      refine Calls.mono T2.out ?_
      rintro e w1 ⟨rfl, rfl⟩
      clear T2
      go_wp2_with (at_builtin; refine wpList_append_own _ rfl _ _ 55 rfl w.heap.size 106 i0 (.agg #[.int .u16 0, .int .u16 0]) 2 4 Tryz.underlying55 hi hz0 hz1 hz2 rfl (by decide) _ _ _ rfl (HO2.out.alloc _) ⟨wr.heap.size, 0, none⟩ 1 1 [.int .u16 x, .int .u16 y] rfl rfl (cells_new wr _ 106) ?c2 ?c3 ?c4 ?c5 ?_)
      case c2 =>
        intro u hu
        simp only [List.mem_cons, List.not_mem_nil, or_false] at hu
        rcases hu with rfl | rfl <;> rfl
      case c3 => unfold maxLen; omega
      case c4 => omega
      case c5 => simp; omega
      intro v' w3 ho3 hg3 _
      have hrw := fun k hk => (HO2.out.lt k hk).1
      have HO3 := hidden ho3
      have HB3 := hidden (((HB.out.alloc hs2 (.cells #[.int .u16 x, .int .u16 y] 106))).grown hg3 (by simp; omega) hrw)
      clear ho3 hg3 hrw
      go_wp2
      go_roundw
      case rel => exact ⟨k + 1, by omega, by go_num, by rw [HS.out, gcs_append]; exact HO3.out, HB3.out⟩
      case measure => simp [intOf]; omega
    · obtain rfl : n = k := by omega
      have HO := hidden ho
      have HB := hidden hb
      clear ho hb
      go_wp2
      go_ret
      exact ⟨_, rfl, HO.out, HB.out⟩
end Go.Proofs.YtmnndkhdekpecaaGreatDoor.Chu
