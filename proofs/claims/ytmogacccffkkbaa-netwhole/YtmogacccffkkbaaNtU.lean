/-
  The document's Flying.
  Conditions: the network lies in memory.
-/
import Derived.Test.YtmogacccffkkbaaNtS
namespace Go.Proofs.Ytmogacccffkkbaa.Nt
open Go.ChangeShapes Go.WideShapes Go.ChangeAt Go.RowKit
open Ba (hidden Only In Has own_ne own_stay own_len own_some own_mono cell_lt heap_lt)
set_option linter.unusedVariables false
theorem cell_atq {L : List Pq} {j : Nat} (h : j < L.length) : L[j]? = some (L.getD j zpq) := by
  rw [List.getD_eq_getElem?_getD, List.getElem?_eq_getElem h]; rfl
theorem fc_len (q : Pk) : (fc q).length = 4 := rfl
def fcs (L : List Pk) : List Value := L.flatMap fc
def fa (q : Pk) : Array Value := #[.int .i64 q.id, .int .i64 q.sent, .int .i64 q.len, .bool q.forged]
theorem push_fl {w : World} {base : Nat} {v : Value} {L : List Pk} (q : Pk) (h : w.ownsRow base 51 4 v L.length (fcs L)) (hb : base ≤ w.heap.size) (hn : L.length ≤ 100000) (ty : TypeId) :
    ∃ v' w3, (Builtin.append_ #[41, 41] ty #[v, .slice (some ⟨w.heap.size, 0, none⟩) 1 1]).run Try.prog (w.alloc (.cells #[.int .i64 q.id, .int .i64 q.sent, .int .i64 q.len, .bool q.forged] 51)) = .ok v' w3 ∧ w3.ownsRow base 51 4 v' (L ++ [q]).length (fcs (L ++ [q])) ∧ Below base w w3 := by
  have hB : Below w.heap.size w (w.alloc (.cells #[.int .i64 q.id, .int .i64 q.sent, .int .i64 q.len, .bool q.forged] 51)) := (Below.refl _ w).alloc (Nat.le_refl _) _
  have hN := Has.new w #[.int .i64 q.id, .int .i64 q.sent, .int .i64 q.len, .bool q.forged] 51
  obtain ⟨v', w3, hr, g1, g2, g3⟩ := Ba.append_at (P := Try.prog) (ty := ty) (m := 1) (c := 1) (ad := ⟨w.heap.size, 0, none⟩) (news := fc q) Try.underlying41 info_fl rfl (by decide) (h.alloc _) rfl
    (fun j u hj => by rw [addr_add]; exact hN.cell j (by rw [← hj]; exact (List.getElem?_toArray (xs := fc q) (i := j))))
    (by intro u hu; simp only [fc, List.mem_cons, List.not_mem_nil, or_false] at hu; rcases hu with rfl | rfl | rfl | rfl <;> rfl) (.inl (by decide)) (by unfold maxLen; omega) (by omega) (Nat.le_trans hb hB.size)
  refine ⟨v', w3, hr, ?_, ?_⟩
  · rw [List.length_append, show fcs (L ++ [q]) = fcs L ++ fc q by unfold fcs; rw [List.flatMap_append]; simp]
    exact g1
  · have hO : Only v.ownBlock.toList (w.alloc (.cells #[.int .i64 q.id, .int .i64 q.sent, .int .i64 q.len, .bool q.forged] 51)) w3 := Only.grown g2 (by intro k hk; simp [hk])
    exact (hB.mono hb).trans (hO.below (Nat.le_trans hb hB.size) (fun k hk => (h.lt k (by simpa using hk)).1))
theorem FlR.of_own {w : World} {base : Nat} {v : Value} {L : List Pk} (h : w.ownsRow base 51 4 v L.length (fcs L)) : FlR w v L := by
  rcases Nat.eq_zero_or_pos L.length with h0 | h0
  · obtain ⟨a, cap, hv⟩ := own_len h
    exact ⟨a, cap, hv, .inl (List.eq_nil_of_length_eq_zero h0)⟩
  · obtain ⟨g, cap, hv, _, hg, _⟩ := own_some h h0
    rw [hv] at h
    refine ⟨_, cap, hv, .inr ⟨g, rfl, hg, fun j q hq c u hu => ?_⟩⟩
    have hc : c < 4 := (List.getElem?_eq_some_iff.1 hu).1
    have hj := (List.getElem?_eq_some_iff.1 hq).1
    exact (h.cellAt _ (by omega)).trans ((flat_at fc_len L hq hc).trans hu)
section
variable {base : Nat} {w w' w1 : World} {r : Nat} {rv ov : Value} {rb : Nat → Nat} {vs : Nat → Nat → Value} {X : Nat → Nat → List Pq} {S : St} {i e : Nat}
/-- the j-th packet's cells -/
theorem q_cells {v : Value} {X : List Pq} {L : List Pk} (he : X.map (·.1) = L) (h : w.ownsRow base 109 5 v X.length (qcs X)) {j : Nat} (hj : j < L.length) {x : Pq} (hx : x = X.getD j zpq) : x.1 = L.getD j zpk ∧ x ∈ X ∧ X[j]? = some x ∧ ∃ g cap, v = .slice (some ⟨g, 0, none⟩) L.length cap ∧ g < w.heap.size ∧ L.length ≤ cap ∧ cap ≤ maxLen ∧ w.cell? ⟨g, j * 5, none⟩ = some (.int .i64 x.1.id) ∧ w.cell? ⟨g, j * 5 + 1, none⟩ = some (.int .i64 x.1.sent) ∧ w.cell? ⟨g, j * 5 + 2, none⟩ = some (.int .i64 x.1.len) ∧ w.cell? ⟨g, j * 5 + 3, none⟩ = some (.bool x.1.forged) ∧ w.cell? ⟨g, j * 5 + 4, none⟩ = some (.slice (some ⟨x.2.1, 0, none⟩) x.1.bs.length x.2.2) := by
  have hl : X.length = L.length := by rw [← he, List.length_map]
  obtain ⟨g, cap, rfl, _, h1, h2, h3⟩ := own_some h (by omega)
  have hx' := cell_atq (L := X) (j := j) (by omega)
  rw [← hx] at hx'
  refine ⟨?_, List.mem_of_getElem? hx', hx', g, cap, by rw [hl], h1, by omega, h3, ?_, ?_, ?_, ?_, ?_⟩
  · rw [← he, List.getD_eq_getElem?_getD, List.getElem?_map, hx']; rfl
  · exact (h.cellAt _ (by omega)).trans (flat_at qc_len X hx' (c := 0) (by decide))
  · exact (h.cellAt _ (by omega)).trans (flat_at qc_len X hx' (c := 1) (by decide))
  · exact (h.cellAt _ (by omega)).trans (flat_at qc_len X hx' (c := 2) (by decide))
  · exact (h.cellAt _ (by omega)).trans (flat_at qc_len X hx' (c := 3) (by decide))
  · exact (h.cellAt _ (by omega)).trans (flat_at qc_len X hx' (c := 4) (by decide))
theorem rFlying_no (h : Ro base w r rv ov rb vs X S) {en path : Int} (hp : ok S en path = false) (hS : S.p ≤ 8) : Calls Try.prog 33 #[.pointer (some ⟨r, 0, none⟩), .int .i64 en, .int .i64 path] w fun e w' => e = .returned (.tuple #[.slice none 0 0, .int .i64 90]) ∧ w = w' := by
  have HS := hidden (rHas h hS en path)
  rw [hp] at HS
  clear h hp
  go_enter Try.func33, Try.ntmps33
  go_wp2_with fail
  refine Calls.mono HS.out ?_
  rintro e w' ⟨rfl, rfl⟩
  go_wp2
  go_ret2
  exact ⟨rfl, rfl⟩
theorem take_next {L : List Pk} {n : Nat} (h : n < L.length) : L.take (n + 1) = L.take n ++ [L.getD n zpk] := by
  rw [List.take_add_one, cell_at h]; rfl
set_option maxHeartbeats 2000000 in
theorem rFlying_ok (h : Ro base w r rv ov rb vs X S) {en path : Int} (hp : ok S en path = true) (hI : Inv S) (hn : S.next ≤ 1000) : Calls Try.prog 33 #[.pointer (some ⟨r, 0, none⟩), .int .i64 en, .int .i64 path] w fun e w' => ∃ v, e = .returned (.tuple #[v, .int .i64 0]) ∧ FlR w' v (S.R path.toNat en.toNat).L ∧ Below w.heap.size w w' := by
  have HS := hidden (rHas h hI.p en path)
  rw [hp] at HS
  obtain ⟨g, cap, gr, n, a, c, c0, c1, -, l1, l2, l3, hvs, hnn, d0, d1, d2, d3, d4, -⟩ := h.at hp
  obtain ⟨⟨h1, h2⟩, h3, h4⟩ := ok_iff.1 hp
  have HO := hidden (h.own path.toNat en.toNat)
  have HE := hidden (h.eq path.toNat en.toNat)
  have hl := (hI.rows path.toNat en.toNat).len
  rw [← hnn] at hl
  generalize (S.R path.toNat en.toNat).T = T at d1 d2 d3 d4
  generalize (S.R path.toNat en.toNat).L = L at HE hnn ⊢
  have HN := hidden hnn
  have HV := hidden hvs
  obtain ⟨W1, hW1⟩ : ∃ W1, W1 = w.alloc (.cells #[.slice a n c, .int .i64 T.s, .int .i64 T.d, .int .i64 T.l, .int .i64 T.f] 105) := ⟨_, rfl⟩
  have hB1 : Below w.heap.size w W1 := by rw [hW1]; exact (Below.refl _ w).alloc (Nat.le_refl _) _
  have hx := (show Has W1 w.heap.size #[.slice a n c, .int .i64 T.s, .int .i64 T.d, .int .i64 T.l, .int .i64 T.f] 105 by rw [hW1]; exact Has.new w _ _)
  have HX := hidden (hx.cell 0 rfl)
  have hxl := hx.lt
  have HB1 := hidden hB1
  have HW1 := hidden hW1
  have hp8 := hI.p
  clear h hp hvs hnn hB1 hx hW1 hI
  go_enter Try.func33, Try.ntmps33
  go_wp2_with fail
  refine Calls.mono HS.out ?_
  rintro e w' ⟨rfl, rfl⟩
  go_wp2_with fail
  rw [← HW1.out]
  go_loopw [8, 10] (fun tv iv wr => ∃ (q : Int) (qn : Nat), iv = .int .i64 q ∧ Hid (q = qn ∧ qn ≤ L.length ∧ wr.ownsRow W1.heap.size 51 4 tv (L.take qn).length (fcs (L.take qn)) ∧ Below W1.heap.size W1 wr) ∧ 0 ≤ q ∧ q ≤ (n : Int)) (fun _ iv _ => n - (intOf iv).toNat)
  case atStart => exact ⟨0, 0, rfl, ⟨rfl, by omega, World.ownsRow_nil _ _ _ _, Below.refl _ _⟩, by omega, by omega⟩
  case round =>
    obtain ⟨q, qn, rfl, HR, j1, j2⟩ := hrel
    obtain ⟨r1, r1', r2, r3⟩ := HR.out
    have cx := (r3.cell (p := ⟨w.heap.size, 0, none⟩) hxl).trans HX.out
    obtain ⟨ta, tc, htv⟩ := own_len r2
    by_cases hlt : q < (n : Int)
    · have hqn : qn < L.length := by have := HN.out; omega
      obtain ⟨x, hx⟩ : ∃ x : Pq, x = (X path.toNat en.toNat).getD qn zpq := ⟨_, rfl⟩
      obtain ⟨y1, _, _, g', cap', ev, hg', _, _, k0, k1, k2, k3, _⟩ := q_cells HE.out HO.out hqn hx
      rw [HV.out, ← HN.out] at ev
      cases ev
      have eq : qn = q.toNat := by omega
      have hg1 : g' < W1.heap.size := by have := HB1.out.size; omega
      replace k0 := (r3.cell (p := ⟨g', qn * 5, none⟩) hg1).trans ((HB1.out.cell (p := ⟨g', qn * 5, none⟩) hg').trans k0)
      replace k1 := (r3.cell (p := ⟨g', qn * 5 + 1, none⟩) hg1).trans ((HB1.out.cell (p := ⟨g', qn * 5 + 1, none⟩) hg').trans k1)
      replace k2 := (r3.cell (p := ⟨g', qn * 5 + 2, none⟩) hg1).trans ((HB1.out.cell (p := ⟨g', qn * 5 + 2, none⟩) hg').trans k2)
      replace k3 := (r3.cell (p := ⟨g', qn * 5 + 3, none⟩) hg1).trans ((HB1.out.cell (p := ⟨g', qn * 5 + 3, none⟩) hg').trans k3)
      have hlt4 : (L.take qn).length ≤ 100000 := by rw [List.length_take]; have := HN.out; omega
      obtain ⟨v', w3, hrn, p1, p2⟩ := push_fl x.1 r2 r3.size hlt4 41
      have HN3 : Hid ((q + 1 : Int) = (qn + 1 : Nat) ∧ qn + 1 ≤ L.length ∧ w3.ownsRow W1.heap.size 51 4 v' (L.take (qn + 1)).length (fcs (L.take (qn + 1))) ∧ Below W1.heap.size W1 w3) := by
        refine ⟨by omega, by omega, ?_, r3.trans p2⟩
        rw [take_next hqn, ← y1]
        exact p1
      rw [htv] at hrn
      have HR3 := hidden hrn
      subst htv
      rw [eq] at k0 k1 k2 k3
      have hgw : g' < wr.heap.size := by have := r3.size; omega
      have hww : w.heap.size < wr.heap.size := by have := r3.size; omega
      clear r1 r1' r2 r3 hqn eq HR y1 p1 p2 hrn hx hlt4
      generalize hgl : (L.take qn).length = ln at HR3
      clear hgl
      generalize x.1 = xq at *
      go_wp2_with (at_builtin; refine Rg.wpList_app rfl _ _ 41 rfl rfl rfl HR3.out ?_)
      go_roundw
      case rel => exact ⟨_, qn + 1, rfl, HN3.out, by omega, by omega⟩
      case measure => simp [intOf]; omega
    · have hq : L.take qn = L := List.take_of_length_le (by have := HN.out; omega)
      rw [hq] at r2
      have HF := hidden (FlR.of_own r2)
      have HB : Hid (Below w.heap.size w wr) := HB1.out.trans (r3.mono HB1.out.size)
      subst htv
      clear r1 r1' r2 r3 HR
      generalize hgl : (L.take qn).length = ln at *
      clear hgl hq
      go_wp2
      go_ret2
      exact ⟨_, rfl, HF.out, HB.out⟩
end
end Go.Proofs.Ytmogacccffkkbaa.Nt
