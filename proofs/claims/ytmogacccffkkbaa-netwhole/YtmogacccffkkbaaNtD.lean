/-
  Which packets are on their way: what Flying tells.
  Conditions: the network lies in memory.
-/
import Derived.Test.YtmogacccffkkbaaNtC
namespace Go.Proofs.Ytmogacccffkkbaa.Nt
open Go.ChangeShapes Go.WideShapes Go.ChangeAt Go.RowKit
open Ba (hidden Only In Has own_ne own_stay own_len own_some own_mono cell_lt heap_lt)
set_option linter.unusedVariables false
/-- a Flight's cells -/
def fc (q : Pk) : List Value := [.int .i64 q.id, .int .i64 q.sent, .int .i64 q.len, .bool q.forged]
/-- a row of Flights that is read -/
def FlR (w : World) (v : Value) (L : List Pk) : Prop := ∃ a cap, v = .slice a L.length cap ∧ (L = [] ∨ ∃ g, a = some ⟨g, 0, none⟩ ∧ g < w.heap.size ∧ ∀ j q, L[j]? = some q → ∀ c u, (fc q)[c]? = some u → w.cell? ⟨g, j * 4 + c, none⟩ = some u)
theorem FlR.later {w w' : World} {v : Value} {L : List Pk} (h : FlR w v L) (hB : Below w.heap.size w w') : FlR w' v L := by
  obtain ⟨a, cap, rfl, h⟩ := h
  refine ⟨a, cap, rfl, h.imp id ?_⟩
  rintro ⟨g, rfl, hg, hc⟩
  exact ⟨g, rfl, Nat.lt_of_lt_of_le hg hB.size, fun j q hq c u hu => (hB.cell (p := ⟨g, j * 4 + c, none⟩) hg).trans (hc j q hq c u hu)⟩
theorem cell_at {L : List Pk} {j : Nat} (h : j < L.length) : L[j]? = some (L.getD j zpk) := by
  rw [List.getD_eq_getElem?_getD, List.getElem?_eq_getElem h]; rfl
/-- told so far -/
def Fd (w wr : World) (m n : Nat) (L : List Pk) (q : Nat) : Prop := ∃ cs, Has wr m cs 51 ∧ cs.size = n * 4 ∧ (∀ j, j < q → ∀ c u, (fc (L.getD j zpk))[c]? = some u → cs[j * 4 + c]? = some u) ∧ Below w.heap.size w wr
theorem Fd.four {w wr : World} {m n q : Nat} {L : List Pk} (h : Fd w wr m n L q) (hq : q < n) : ∃ x0 x1 x2 x3, wr.cell? ⟨m, q * 4, none⟩ = some x0 ∧ wr.cell? ⟨m, q * 4 + 1, none⟩ = some x1 ∧ wr.cell? ⟨m, q * 4 + 2, none⟩ = some x2 ∧ wr.cell? ⟨m, q * 4 + 3, none⟩ = some x3 ∧ (∀ k, wr.frozen? ⟨m, k, none⟩ = false) ∧ m < wr.heap.size := by
  obtain ⟨cs, h1, h2, _⟩ := h
  have ex : ∀ k, k < n * 4 → ∃ x, wr.cell? ⟨m, k, none⟩ = some x := fun k hk => ⟨_, h1.cell k (Array.getElem?_eq_getElem (by omega))⟩
  obtain ⟨x0, e0⟩ := ex (q * 4) (by omega)
  obtain ⟨x1, e1⟩ := ex (q * 4 + 1) (by omega)
  obtain ⟨x2, e2⟩ := ex (q * 4 + 2) (by omega)
  obtain ⟨x3, e3⟩ := ex (q * 4 + 3) (by omega)
  exact ⟨x0, x1, x2, x3, e0, e1, e2, e3, h1.frozen, h1.lt⟩
theorem Fd.next {w wr : World} {m n q : Nat} {L : List Pk} (h : Fd w wr m n L q) (hm : w.heap.size ≤ m) (hq : q < n) (o : Obj) {p : Pk} (hp : p = L.getD q zpk) : Fd w (((((wr.setCell ⟨m, q * 4, none⟩ (.int .i64 p.id)).setCell ⟨m, q * 4 + 1, none⟩ (.int .i64 p.sent)).setCell ⟨m, q * 4 + 2, none⟩ (.int .i64 p.len)).setCell ⟨m, q * 4 + 3, none⟩ (.bool p.forged)).alloc o) m n L (q + 1) := by
  obtain ⟨cs, h1, h2, h3, h4⟩ := h
  subst hp
  refine ⟨_, ((((h1.set _ _).set _ _).set _ _).set _ _).later ((Below.refl _ _).alloc (Nat.le_refl _) o), by simp [h2], fun j hj c u hu => ?_, ?_⟩
  · have hc : c < 4 := (List.getElem?_eq_some_iff.1 hu).1
    simp only [Array.getElem?_setIfInBounds, Array.size_setIfInBounds]
    by_cases e : j = q
    · subst e
      rcases (show c = 0 ∨ c = 1 ∨ c = 2 ∨ c = 3 by omega) with rfl | rfl | rfl | rfl <;> obtain rfl := Option.some.inj hu
      · rw [if_neg (by omega), if_neg (by omega), if_neg (by omega), if_pos (by omega), if_pos (by omega)]
      · rw [if_neg (by omega), if_neg (by omega), if_pos (by omega), if_pos (by omega)]
      · rw [if_neg (by omega), if_pos (by omega), if_pos (by omega)]
      · rw [if_pos (by omega), if_pos (by omega)]
    · rw [if_neg (by omega), if_neg (by omega), if_neg (by omega), if_neg (by omega)]
      exact h3 j (by omega) c u hu
  · have hb := (((h4.setCell (p := ⟨m, q * 4, none⟩) hm (.int .i64 (L.getD q zpk).id)).setCell (p := ⟨m, q * 4 + 1, none⟩) hm (.int .i64 (L.getD q zpk).sent)).setCell (p := ⟨m, q * 4 + 2, none⟩) hm (.int .i64 (L.getD q zpk).len)).setCell (p := ⟨m, q * 4 + 3, none⟩) hm (.bool (L.getD q zpk).forged)
    exact hb.alloc hb.size o
theorem Fd.done {w wr : World} {m n q : Nat} {L : List Pk} (h : Fd w wr m n L q) (hq : q = n) (hn : n = L.length) : FlR wr (.slice (some ⟨m, 0, none⟩) n n) L ∧ Below w.heap.size w wr := by
  obtain ⟨cs, h1, h2, h3, h4⟩ := h
  subst hq hn
  refine ⟨⟨_, _, rfl, .inr ⟨m, rfl, h1.lt, fun j p hp c u hu => h1.cell _ ?_⟩⟩, h4⟩
  have hj := (List.getElem?_eq_some_iff.1 hp).1
  rw [cell_at hj] at hp
  cases hp
  exact h3 j hj c u hu
section
variable {base : Nat} {w w' w1 : World} {t b : Nat} {vs : Nat → Nat → Value} {S : St} {i e : Nat}
/-- the j-th packet's cells -/
theorem pk_cells {v : Value} {L : List Pk} (h : w.ownsRow base 88 5 v L.length (pcs L)) {j : Nat} (hj : j < L.length) {q : Pk} (hq : q = L.getD j zpk) : ∃ g cap, v = .slice (some ⟨g, 0, none⟩) L.length cap ∧ g < w.heap.size ∧ L.length ≤ cap ∧ cap ≤ maxLen ∧ w.cell? ⟨g, j * 5, none⟩ = some (.int .i64 q.id) ∧ w.cell? ⟨g, j * 5 + 1, none⟩ = some (.int .i64 q.sent) ∧ w.cell? ⟨g, j * 5 + 2, none⟩ = some (.int .i64 q.len) ∧ w.cell? ⟨g, j * 5 + 3, none⟩ = some (.bool q.forged) ∧ w.cell? ⟨g, j * 5 + 4, none⟩ = some (.string (strOfNums q.bs)) := by
  obtain ⟨g, cap, rfl, _, h1, h2, h3⟩ := own_some h (by omega)
  have hx := cell_at hj
  rw [← hq] at hx
  refine ⟨g, cap, rfl, h1, h2, h3, ?_, ?_, ?_, ?_, ?_⟩
  · exact (h.cellAt _ (by omega)).trans (flat_at pc_len L hx (c := 0) (by decide))
  · exact (h.cellAt _ (by omega)).trans (flat_at pc_len L hx (c := 1) (by decide))
  · exact (h.cellAt _ (by omega)).trans (flat_at pc_len L hx (c := 2) (by decide))
  · exact (h.cellAt _ (by omega)).trans (flat_at pc_len L hx (c := 3) (by decide))
  · exact (h.cellAt _ (by omega)).trans (flat_at pc_len L hx (c := 4) (by decide))
set_option maxHeartbeats 1000000 in
theorem flights (h : No base w t b vs S) {o : Nat} (ha : At S i e o) (hl : (S.R i e).L.length ≤ 1000) : Calls Try.prog 36 #[.pointer (some ⟨b, o, none⟩)] w fun e' w' => ∃ v, e' = .returned v ∧ FlR w' v (S.R i e).L ∧ Below w.heap.size w w' := by
  have c4 := h.ln.cell ha.li ha.le 4 rfl
  have hb : b < w.heap.size := by obtain ⟨cs, hc⟩ := h.ln.has; exact hc.lt
  obtain ⟨va, vcap, hv⟩ := own_len (h.own i e)
  have HO := hidden (h.own i e)
  rw [hv, ← ha.lo] at c4
  generalize hL : (S.R i e).L = L at c4 hl hv HO ⊢
  have HV := hidden hv
  obtain ⟨n, hn⟩ : ∃ n, n = L.length := ⟨_, rfl⟩
  rw [← hn] at c4 hl
  obtain ⟨mk, h1, h2, h3, h4⟩ := make_wide (P := Try.prog) Try.underlying41 info_fl n (by omega) (by omega)
  have HN := hidden hn
  have H2 := hidden h2
  have H3 := hidden h3
  have cM := ((h3 w).cell (p := ⟨b, o + 4, none⟩) hb).trans c4
  clear h ha hv hL h2 h3 h4 hn
  go_enter Try.func36, Try.ntmps36
  go_wp2_with fail
  go_loopw [17] (fun iv wr => ∃ (q : Int) (qn : Nat), iv = .int .i64 q ∧ Hid (q = qn ∧ Fd w wr w.heap.size n L qn) ∧ 0 ≤ q ∧ q ≤ (n : Int)) (fun iv _ => n - (intOf iv).toNat)
  case atStart => exact ⟨0, 0, rfl, ⟨rfl, _, H2.out w, size_madeCells _ _, fun j hj => by omega, H3.out w⟩, by omega, by omega⟩
  case round =>
    obtain ⟨q, qn, rfl, HR, j1, j2⟩ := hrel
    by_cases hq : q < (n : Int)
    · have hnL := HN.out
      have hqn := HR.out.1
      obtain ⟨p, hp⟩ : ∃ p, p = L.getD q.toNat zpk := ⟨_, rfl⟩
      obtain ⟨g, cap, ev, hg, hcap, hmax, k0, k1, k2, k3, k4⟩ := pk_cells HO.out (j := q.toNat) (by omega) hp
      have hBr := HR.out.2
      obtain ⟨cs, d1, d2, d3, d4⟩ := hBr
      have hB := d4
      replace k0 := (hB.cell (p := ⟨g, _, none⟩) hg).trans k0
      replace k1 := (hB.cell (p := ⟨g, _, none⟩) hg).trans k1
      replace k2 := (hB.cell (p := ⟨g, _, none⟩) hg).trans k2
      replace k3 := (hB.cell (p := ⟨g, _, none⟩) hg).trans k3
      replace k4 := (hB.cell (p := ⟨g, _, none⟩) hg).trans k4
      rw [HV.out, ← hnL] at ev
      cases ev
      have hgr : g < wr.heap.size := by have := hB.size; omega
      obtain ⟨x0, x1, x2, x3, e0, e1, e2, e3, ef, hm⟩ := HR.out.2.four (by omega)
      rw [show qn = q.toNat by omega] at e0 e1 e2 e3
      have NX : Hid (∀ o, Fd w (((((wr.setCell ⟨w.heap.size, q.toNat * 4, none⟩ (.int .i64 p.id)).setCell ⟨w.heap.size, q.toNat * 4 + 1, none⟩ (.int .i64 p.sent)).setCell ⟨w.heap.size, q.toNat * 4 + 2, none⟩ (.int .i64 p.len)).setCell ⟨w.heap.size, q.toNat * 4 + 3, none⟩ (.bool p.forged)).alloc o) w.heap.size n L (qn + 1)) := fun o => by
        have := HR.out.2.next (Nat.le_refl _) (by omega) o (p := p) (by rw [hp]; congr 1; omega)
        rw [show qn = q.toNat by omega] at this ⊢
        exact this
      have HQ := hidden hqn
      have HP := hidden hp
      have ef0 := ef (q.toNat * 4)
      have ef1 := ef (q.toNat * 4 + 1)
      have ef2 := ef (q.toNat * 4 + 2)
      have ef3 := ef (q.toNat * 4 + 3)
      clear hnL hqn hp d1 d2 d3 d4 hB HR ef
      go_wp2
      go_roundw
      case rel => exact ⟨_, qn + 1, rfl, ⟨by have := HQ.out; omega, NX.out _⟩, by omega, by omega⟩
      case measure => simp [intOf]; omega
    · have HD := hidden (HR.out.2.done (by have := HR.out.1; omega) HN.out)
      clear HR
      go_wp2
      go_ret
      exact ⟨_, rfl, HD.out⟩
theorem flying_no (h : No base w t b vs S) {en path : Int} (hp : ok S en path = false) (hS : S.p ≤ 8) : Calls Try.prog 12 #[.pointer (some ⟨t, 0, none⟩), .int .i64 en, .int .i64 path] w fun e w' => e = .returned (.tuple #[.slice none 0 0, .int .i64 90]) ∧ w = w' := by
  have LA := hidden (row_no h hp hS)
  clear h hp
  go_enter Try.func12, Try.ntmps12
  go_wp2_with fail
  refine Calls.mono LA.out ?_
  rintro e w' ⟨rfl, rfl⟩
  go_wp2
  go_ret2
  exact ⟨rfl, rfl⟩
theorem flying_ok (h : No base w t b vs S) {en path : Int} (hp : ok S en path = true) (hS : S.p ≤ 8) (hl : (S.R path.toNat en.toNat).L.length ≤ 1000) : Calls Try.prog 12 #[.pointer (some ⟨t, 0, none⟩), .int .i64 en, .int .i64 path] w fun e w' => ∃ v, e = .returned (.tuple #[v, .int .i64 0]) ∧ FlR w' v (S.R path.toNat en.toNat).L ∧ Below w.heap.size w w' := by
  have LA := hidden (row_ok h hp hS)
  have FL := hidden (flights h (At.of hp) hl)
  generalize (S.R path.toNat en.toNat).L = L at FL ⊢
  generalize path.toNat * 11 + en.toNat * 5 = o at LA FL
  clear h hp hl
  go_enter Try.func12, Try.ntmps12
  go_wp2_with fail
  refine Calls.mono LA.out ?_
  rintro e w' ⟨rfl, rfl⟩
  go_wp2_with fail
  refine Calls.mono FL.out ?_
  rintro e w' ⟨v, rfl, hF, hB⟩
  have HF := hidden hF
  have HB := hidden hB
  clear hF hB
  go_wp2
  go_ret2
  exact ⟨v, rfl, HF.out, HB.out⟩
end
end Go.Proofs.Ytmogacccffkkbaa.Nt
