/-
  Windows of several paths: all of them behind a report, as package couple tells them.
  Conditions: as at each lemma.
-/
import Derived.Test.YtbcdoilfmfckiaaCoE
namespace Go.Proofs.Ytbcdoilfmfckiaa.Co
open Go.ChangeShapes Go.WideShapes Go.ChangeAt Go.RowKit
open Ba (hidden Has Only)
open Ow (Own)
set_option linter.unusedVariables false

/-- the first ones have grown -/
def gw (zs : List Fw) (ys : List Int) (m k : Int) (q : Nat) : List Fw := (List.range zs.length).map fun j => if j < q then (wn zs j (ys.getD j 0) m k, (zs.getD j (0, 0)).2) else zs.getD j (0, 0)
theorem gw_len (zs : List Fw) (ys : List Int) (m k : Int) (q : Nat) : (gw zs ys m k q).length = zs.length := by simp [gw]
theorem gw_get {zs : List Fw} {j : Nat} (hj : j < zs.length) (ys : List Int) (m k : Int) (q : Nat) : (gw zs ys m k q)[j]? = some (if j < q then (wn zs j (ys.getD j 0) m k, (zs.getD j (0, 0)).2) else zs.getD j (0, 0)) := by
  unfold gw
  rw [List.getElem?_map, List.getElem?_range hj]
  rfl
theorem gw_0 (zs : List Fw) (ys : List Int) (m k : Int) : gw zs ys m k 0 = zs := by
  refine List.ext_getElem? fun j => ?_
  by_cases hj : j < zs.length
  · rw [gw_get hj, if_neg (Nat.not_lt_zero _), List.getD_eq_getElem?_getD, List.getElem?_eq_getElem hj]
    rfl
  · rw [List.getElem?_eq_none (by rw [gw_len]; omega), List.getElem?_eq_none (by omega)]
theorem gw_next {zs : List Fw} {q : Nat} (hq : q < zs.length) (ys : List Int) (m k : Int) {t : Int} (ht : (zs.getD q (0, 0)).2 = t) : (gw zs ys m k q).set q (wn zs q (ys.getD q 0) m k, t) = gw zs ys m k (q + 1) := by
  subst ht
  refine List.ext_getElem? fun j => ?_
  by_cases hj : j < zs.length
  · rw [List.getElem?_set, gw_get hj, gw_get hj]
    by_cases e : q = j
    · subst e
      rw [if_pos rfl, if_pos (by rw [gw_len]; exact hj), if_pos (by omega)]
    · rw [if_neg e]
      by_cases h : j < q
      · rw [if_pos h, if_pos (by omega)]
      · rw [if_neg h, if_neg (by omega)]
  · rw [List.getElem?_eq_none (by rw [List.length_set, gw_len]; omega), List.getElem?_eq_none (by rw [gw_len]; omega)]
def ge (zs : List Fw) (ys : List Int) (m k : Int) : Int := bif okB zs m then (bif whB zs ys k then 0 else 1) else 130
def gl (zs : List Fw) (ys : List Int) (m k : Int) : List Fw := bif okB zs m && whB zs ys k then gw zs ys m k zs.length else []
theorem setOther {w w1 : World} {L : List Ow.Bk} (h : Own w w1 L) {p : Addr} (hp : w.heap.size ≤ p.block) (hn : ∀ x ∈ L, x.1 ≠ p.block) (u : Value) : Own w (w1.setCell p u) L := by
  obtain ⟨h1, h2⟩ := h
  refine ⟨h1.setCell hp u, fun x hx => ⟨(h2 x hx).1, (h2 x hx).2.set_other (hn x hx) u⟩⟩
theorem row_below {B : Nat} {e : TypeId} {k : Nat} {v : Value} {n : Nat} {xs : List Value} {w w' : World} (h : w.ownsRow B e k v n xs) (hb : Below w.heap.size w w') : w'.ownsRow B e k v n xs := Ba.own_stay h (Only.of_below (F := []) hb) (fun _ _ => by simp)
section
variable {w : World} {a a2 : Option Addr} {n cap n2 cap2 : Nat} {zs : List Fw} {ys : List Int}
theorem grown_no (h : Fl w a n zs) (h2 : Nu w a2 n2 ys) {m : Int} (hk : ¬ okF zs m) (k : Int) : Calls Try.prog 20 #[.slice a n cap, .slice a2 n2 cap2, .int .i64 m, .int .i64 k] w fun e w' => e = .returned (.tuple #[.slice none 0 0, .int .i64 130]) ∧ Below w.heap.size w w' := by
  have hn : n ≤ 140737488355328 := h.2.2.1
  have O := hidden ((Own.refl w).alloc (rep a n cap m a2 n2 cap2 k) 57)
  have CK := hidden (check (cap := cap) (h.later O.out.below) m)
  rw [chk_no hk] at CK
  clear h h2 hk
  go_enter Try.func20, Try.ntmps20
  go_wp2_with fail
  refine Calls.mono CK.out ?_
  rintro e w1 ⟨rfl, hB⟩
  have O1 := hidden (O.out.later hB)
  clear hB CK O
  go_wp2
  go_ret2
  exact ⟨rfl, O1.out.below⟩
theorem grown_arg (h : Fl w a n zs) (h2 : Nu w a2 n2 ys) {m : Int} (hk : okF zs m) {k : Int} (hw : ¬ whF zs ys k) : Calls Try.prog 20 #[.slice a n cap, .slice a2 n2 cap2, .int .i64 m, .int .i64 k] w fun e w' => e = .returned (.tuple #[.slice none 0 0, .int .i64 1]) ∧ Below w.heap.size w w' := by
  have hn : n ≤ 140737488355328 := h.2.2.1
  have O := hidden ((Own.refl w).alloc (rep a n cap m a2 n2 cap2 k) 57)
  have CK := hidden (check (cap := cap) (h.later O.out.below) m)
  rw [chk_ok hk] at CK
  have WH : Hid (∀ X, Below w.heap.size w X → Calls Try.prog 32 #[.agg #[.slice a n cap, .int .i64 m, .slice a2 n2 cap2, .int .i64 k]] X fun e w' => e = .returned (.bool false) ∧ Below X.heap.size X w') := fun X hX => by
    have := whole (cap := cap) (cap2 := cap2) (h.later hX) (h2.later hX) m k
    rw [whB_f hw] at this
    exact this
  clear h h2 hk hw
  go_enter Try.func20, Try.ntmps20
  go_wp2_with fail
  refine Calls.mono CK.out ?_
  rintro e w1 ⟨rfl, hB⟩
  have O1 := hidden (O.out.later hB)
  clear hB CK O
  obtain ⟨c0, c1, c2, c3⟩ := cells4 O1.out (.head _)
  go_wp2_with fail
  refine Calls.mono (WH.out _ O1.out.below) ?_
  rintro e w2 ⟨rfl, hB⟩
  have O2 := hidden (O1.out.later hB)
  clear hB O1 c0 c1 c2 c3
  go_wp2
  go_ret2
  exact ⟨rfl, O2.out.below⟩
set_option maxHeartbeats 2000000 in
theorem grown_ok (h : Fl w a n zs) (h2 : Nu w a2 n2 ys) {m : Int} (hk : okF zs m) {k : Int} (hw : whF zs ys k) : Calls Try.prog 20 #[.slice a n cap, .slice a2 n2 cap2, .int .i64 m, .int .i64 k] w fun e w' => ∃ v, e = .returned (.tuple #[v, .int .i64 0]) ∧ w'.ownsRow w.heap.size 43 2 v n (fc (gw zs ys m k n)) ∧ Below w.heap.size w w' := by
  have hl := h.len
  have h8 : n ≤ 8 := by rw [← hl]; exact hk.1.2
  have h1 : 1 ≤ n := by rw [← hl]; exact hk.1.1
  obtain rfl : n2 = n := by have := hw.1; have := h2.1; omega
  obtain ⟨b, off, rfl, hb⟩ := Fl.open h (by omega)
  have O := hidden ((Own.refl w).alloc (rep (some ⟨b, off, none⟩) n2 cap m a2 n2 cap2 k) 57)
  have CK := hidden (check (cap := cap) (h.later O.out.below) m)
  rw [chk_ok hk] at CK
  have WH : Hid (∀ X, Below w.heap.size w X → Calls Try.prog 32 #[.agg #[.slice (some ⟨b, off, none⟩) n2 cap, .int .i64 m, .slice a2 n2 cap2, .int .i64 k]] X fun e w' => e = .returned (.bool true) ∧ Below X.heap.size X w') := fun X hX => by
    have := whole (cap := cap) (cap2 := cap2) (h.later hX) (h2.later hX) m k
    rw [whB_t hw] at this
    exact this
  have WI : Hid (∀ X, Below w.heap.size w X → ∀ i : Int, 0 ≤ i ∧ i < n2 → Calls Try.prog 34 #[.agg #[.slice (some ⟨b, off, none⟩) n2 cap, .int .i64 m, .slice a2 n2 cap2, .int .i64 k], .int .i64 i] X fun e w' => e = .returned (.int .i64 (wn zs i.toNat (ys.getD i.toNat 0) m k)) ∧ Below X.heap.size X w') := fun X hX i hi => window (h.later hX) hk.2.2 h8 hk.2.1 (h2.later hX) hw.2.2 k hi hi.2
  have CL : Hid (∀ X, Below w.heap.size w X → Calls Try.prog 33 #[.slice (some ⟨b, off, none⟩) n2 cap] X fun e w' => ∃ v, e = .returned v ∧ w'.ownsRow X.heap.size 43 2 v n2 (fc zs) ∧ Below X.heap.size X w') := fun X hX => clone (h.later hX) h8
  have HL := hidden hl
  clear h h2 hk hw hl
  go_enter Try.func20, Try.ntmps20
  go_wp2_with fail
  refine Calls.mono CK.out ?_
  rintro e w1 ⟨rfl, hB⟩
  have O1 := hidden (O.out.later hB)
  clear hB CK O
  obtain ⟨c0, c1, c2, c3⟩ := cells4 O1.out (.head _)
  go_wp2_with fail
  refine Calls.mono (WH.out _ O1.out.below) ?_
  rintro e w2 ⟨rfl, hB⟩
  have O2 := hidden (O1.out.later hB)
  clear hB O1 c0 c1 c2 c3 WH
  go_wp2_with fail
  refine Calls.mono (CL.out _ O2.out.below) ?_
  rintro e w3 ⟨v, rfl, hown, hB⟩
  obtain ⟨g, cg, rfl, hg1, hg2, hg3, hg4⟩ := Ba.own_some hown (by omega)
  have hgs : w.heap.size < g := by have := O2.out.lt (.head _); omega
  have hbs : w.heap.size ≤ w2.heap.size := O2.out.below.size
  have O3 := hidden (O2.out.later hB)
  have OW : Hid (w3.ownsRow w.heap.size 43 2 (.slice (some ⟨g, 0, none⟩) n2 cg) n2 (fc (gw zs ys m k 0))) := by
    show w3.ownsRow w.heap.size 43 2 (.slice (some ⟨g, 0, none⟩) n2 cg) n2 (fc (gw zs ys m k 0))
    rw [gw_0]
    exact Ba.own_mono hown (fun k hk => by cases hk; show w.heap.size ≤ g; omega)
  clear hown hB O2 CL hg1 hg2 hbs hg4
  go_wp2_with fail
  go_loopw [35] (fun i wr => ∃ q : Int, 0 ≤ q ∧ q ≤ (n2 : Int) ∧ i = .int .i64 q ∧ Hid (wr.ownsRow w.heap.size 43 2 (.slice (some ⟨g, 0, none⟩) n2 cg) n2 (fc (gw zs ys m k q.toNat))) ∧ Hid (Own w wr [(w.heap.size, rep (some ⟨b, off, none⟩) n2 cap m a2 n2 cap2 k, 57)])) (fun i _ => n2 - (intOf i).toNat)
  case atStart => exact ⟨0, by omega, by omega, rfl, OW.out, O3.out⟩
  case round =>
    clear OW O3
    obtain ⟨q, j1, j2, rfl, OW, HO⟩ := hrel
    by_cases hq : q < (n2 : Int)
    · obtain ⟨c0, c1, c2, c3⟩ := cells4 HO.out (.head _)
      have WQ := hidden (WI.out wr HO.out.below q ⟨j1, hq⟩)
      obtain ⟨c, t, hz⟩ := get_ (zs := zs) (q := q.toNat) (by have := HL.out; omega)
      have HT : Hid ((zs.getD q.toNat (0, 0)).2 = t) := by
        show (zs.getD q.toNat (0, 0)).2 = t
        rw [getD_at hz]
      have hzg : (gw zs ys m k q.toNat)[q.toNat]? = some (c, t) := by
        rw [gw_get (by have := HL.out; omega), if_neg (Nat.lt_irrefl _), getD_at hz]
      have HZG := hidden hzg
      have HN : Hid ((gw zs ys m k q.toNat).set q.toNat (wn zs q.toNat (ys.getD q.toNat 0) m k, t) = gw zs ys m k (q + 1).toNat) := by
        show (gw zs ys m k q.toNat).set q.toNat (wn zs q.toNat (ys.getD q.toNat 0) m k, t) = gw zs ys m k (q + 1).toNat
        rw [show (q + 1).toNat = q.toNat + 1 by omega]
        exact gw_next (by have := HL.out; omega) ys m k HT.out
      generalize wn zs q.toNat (ys.getD q.toNat 0) m k = V at *
      clear hz hzg
      go_wp2_with fail
      refine Calls.mono WQ.out ?_
      rintro e w4 ⟨rfl, hB⟩
      have O4 := hidden (HO.out.later hB)
      have OW4 := hidden (row_below OW.out hB)
      have d0 := OW4.out.cellAt (q.toNat * 2) (by omega)
      rw [(fc_c _ _ HZG.out).1] at d0
      have f0 := OW4.out.frozenAt (q.toNat * 2)
      clear hB WQ c0 c1 c2 c3
      go_wp2
      go_roundw
      case rel =>
        refine ⟨q + 1, by omega, by omega, rfl, ?_, setOther O4.out (Nat.le_of_lt hgs) (by simp; omega) _⟩
        have := OW4.out.stored (q.toNat * 2) (.int .i64 V)
        rw [fc_set _ _ V HZG.out, HN.out] at this
        exact this.1
      case measure => simp [intOf]; omega
    · obtain rfl : q = (n2 : Int) := by omega
      go_wp2
      go_ret2
      exact ⟨_, rfl, OW.out, HO.out.below⟩
theorem grownX (h : Fl w a n zs) (h2 : Nu w a2 n2 ys) (m k : Int) : Calls Try.prog 20 #[.slice a n cap, .slice a2 n2 cap2, .int .i64 m, .int .i64 k] w fun e w' => ∃ v, e = .returned (.tuple #[v, .int .i64 (ge zs ys m k)]) ∧ w'.ownsRow w.heap.size 43 2 v (gl zs ys m k).length (fc (gl zs ys m k)) ∧ Below w.heap.size w w' := by
  have hl := h.len
  unfold ge gl
  by_cases hk : okF zs m
  · rw [okB_t hk]
    by_cases hw : whF zs ys k
    · rw [whB_t hw]
      have := grown_ok (cap := cap) (cap2 := cap2) h h2 hk hw
      simp only [Bool.and_self, cond_true]
      rw [gw_len, hl]
      exact this
    · rw [whB_f hw]
      exact (grown_arg h h2 hk hw).mono (by rintro e w' ⟨rfl, hB⟩; exact ⟨_, rfl, World.ownsRow_nil _ _ _ _, hB⟩)
  · rw [okB_f hk]
    exact (grown_no h h2 hk k).mono (by rintro e w' ⟨rfl, hB⟩; exact ⟨_, rfl, World.ownsRow_nil _ _ _ _, hB⟩)
end
end Go.Proofs.Ytbcdoilfmfckiaa.Co
