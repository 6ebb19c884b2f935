/-
  The seal of parts, as package mac makes it, and the row that the document makes of them.
  Conditions: the numbers lie within their kinds, the cells hold them, the parts' bytes are not too many.
-/
import Derived.Test.YtalfhcaggjgibaaMacJ
namespace Go.Proofs.Ytalfhcaggjgibaa.Mac
open Go.ChangeShapes Go.WideShapes Go.ChangeAt Go.RowKit
set_option linter.unusedVariables false

/-- the row that parts make -/
def rowOf : List (List Int) → List Int
  | [] => []
  | p :: ps => digs (p.length : Int) ++ (p ++ rowOf ps)
theorem rowOf_append (xs ys : List (List Int)) : rowOf (xs ++ ys) = rowOf xs ++ rowOf ys := by
  induction xs with
  | nil => rfl
  | cons p xs ih => simp only [List.cons_append, rowOf, ih, List.append_assoc]
/-- the parts' bytes -/
def bytesOf (ps : List (Option Addr × Nat × Nat × List Int)) : List (List Int) := ps.map fun p => p.2.2.2

theorem rowOf_snoc (ps : List (Option Addr × Nat × Nat × List Int)) (k : Nat) (p : Option Addr × Nat × Nat × List Int) (h : ps[k]? = some p) :
    rowOf (bytesOf (ps.take (k + 1))) = rowOf (bytesOf (ps.take k)) ++ (digs (p.2.2.2.length : Int) ++ p.2.2.2) := by
  unfold bytesOf
  rw [List.take_add_one, h, List.map_append, rowOf_append]
  simp [rowOf]
theorem rowOf_le (ps : List (Option Addr × Nat × Nat × List Int)) (k : Nat) : (rowOf (bytesOf (ps.take k))).length ≤ (rowOf (bytesOf ps)).length := by
  have e : rowOf (bytesOf (ps.take k ++ ps.drop k)) = rowOf (bytesOf (ps.take k)) ++ rowOf (bytesOf (ps.drop k)) := by unfold bytesOf; rw [List.map_append, rowOf_append]
  rw [List.take_append_drop] at e
  rw [e, List.length_append]
  omega

theorem sums (w : World) (kz : List Int) (h : Key kz) (pa : Option Addr) (n pcap : Nat) (ps : List (Option Addr × Nat × Nat × List Int)) (hp : Parts w pa n ps) (hn : (rowOf (bytesOf ps)).length < 4611686018427387904) :
    Calls Try.prog 10 #[keyv kz, .slice pa n pcap] w fun e w' => e = .returned (.int .u64 (sip kz (rowOf (bytesOf ps)))) ∧ Below w.heap.size w w' := by
  have H := fun w => begins w kz h
  have HS := hidden (show sip kz (rowOf (bytesOf ps)) = sealq (come (initq kz, 0, 0) (rowOf (bytesOf ps))).1 (come (initq kz, 0, 0) (rowOf (bytesOf ps))).2.1 (come (initq kz, 0, 0) (rowOf (bytesOf ps))).2.2 from rfl)
  have uq := UQ_initq kz
  generalize sip kz (rowOf (bytesOf ps)) = R at *
  generalize initq kz = q at *
  obtain ⟨k0, k1, k2, k3, k4, k5, k6, k7, k8, k9, k10, k11, k12, k13, k14, k15, rfl, hk⟩ := key16 kz h
  rw [hk] at H ⊢
  clear hk
  go_enter Try.func10, Try.ntmps10
  go_wp2_with fail
  refine (H _).mono ?_
  rintro e w1 ⟨rfl, b1⟩
  have bw : Below w.heap.size w w1 := ((Below.refl _ _).alloc (Nat.le_refl _) _).trans (b1.mono (by simp))
  have hsz := bw.size
  clear b1 H
  go_wp2_with fail
  have hs0 := st_new w1 q.1 q.2.1 q.2.2.1 q.2.2.2 0 0
  have bel0 := bw.alloc hsz (.cells #[.int .u64 q.1, .int .u64 q.2.1, .int .u64 q.2.2.1, .int .u64 q.2.2.2, .int .u64 0, .int .u64 0] 41 (0, 0))
  generalize w1.alloc (.cells #[.int .u64 q.1, .int .u64 q.2.1, .int .u64 q.2.2.1, .int .u64 q.2.2.2, .int .u64 0, .int .u64 0] 41 (0, 0)) = W1 at hs0 bel0 ⊢
  generalize w1.heap.size = sb at hs0 hsz ⊢
  go_loopw [7, 12] (fun _ i wr => ∃ k : Nat, k ≤ n ∧ i = .int .i64 k ∧ SS wr sb (come (q, 0, 0) (rowOf (bytesOf (ps.take k)))) ∧ Below w.heap.size w wr) (fun _ i _ => n - (intOf i).toNat)
  case atStart => exact ⟨0, Nat.zero_le _, rfl, hs0, bel0⟩
  case round =>
    obtain ⟨k, hk, rfl, hst, hbl⟩ := hrel
    have us := US_come (rowOf (bytesOf (ps.take k))) (q, 0, 0) (US_zero q uq 0)
    obtain ⟨hpl, hplim, hprow, hpc⟩ := hp
    rcases Nat.lt_or_ge k n with hlt | hge
    · obtain ⟨b, off, rfl, hc⟩ := hpc.resolve_left (by omega)
      obtain ⟨⟨pa, plen, pcp, pz⟩, hpk⟩ : ∃ p, ps[k]? = some p := ⟨_, List.getElem?_eq_getElem (by omega)⟩
      have hcell := hc k _ hpk
      have hcell2 := (hbl.cell (cell_lt hcell)).trans hcell
      have hrow : Row w pa plen pz := hprow _ (List.mem_of_getElem? hpk)
      have hsn := rowOf_snoc ps k _ hpk
      have hct := come_count (rowOf (bytesOf (ps.take k))) (q, 0, 0)
      have htot := rowOf_le ps (k + 1)
      rw [hsn] at htot
      simp only [List.length_append, digs_len] at htot
      have hpzl : pz.length = plen := hrow.1
      rw [hpzl] at hsn
      have HN := hidden (show come (q, 0, 0) (rowOf (bytesOf (ps.take (k + 1)))) = come (come (come (q, 0, 0) (rowOf (bytesOf (ps.take k)))) (digs (plen : Int))) pz by rw [hsn, come_append, come_append])
      have hcb : (come (q, 0, 0) (rowOf (bytesOf (ps.take k)))).2.2 + 8 + plen < 4611686018427387904 := by rw [hct]; simp only; omega
      generalize come (q, 0, 0) (rowOf (bytesOf (ps.take k))) = s at *
      have hst' := hidden hst
      have hrow' := hidden hrow
      have hbl' := hidden hbl
      have hlim := hrow.2.2.1
      have hsb : sb < wr.heap.size := (Array.getElem?_eq_some_iff.1 hst).1
      have X := hidden (text wr (plen : Int) ⟨by omega, by omega⟩)
      clear hsn hct htot hprow hc hpk hcell hs0 bel0 bw hpc hst hrow hbl hpzl
      go_wp2_with fail
      refine Calls.mono X.out ?_
      rintro e w2 ⟨g, hg, rfl, ho, b2⟩
      have h2 : SS w2 sb s := (b2.block sb hsb).trans hst'.out
      have R2 : Row w2 (some ⟨g, 0, none⟩) 8 (digs (plen : Int)) := ho.row (digs_len _) (digs_bytes _) (by decide) (digs_at _)
      have WT := hidden (write w2 sb s (some ⟨g, 0, none⟩) 8 8 (digs (plen : Int)) h2 us R2 (fun _ x hx => by cases hx; show g ≠ sb; omega) (by omega))
      have B2 : Below w.heap.size w w2 := hbl'.out.trans (b2.mono hbl'.out.size)
      have us2 := US_come (digs (plen : Int)) s us
      have hc2 := come_count (digs (plen : Int)) s
      rw [digs_len] at hc2
      clear ho X h2 R2
      generalize come s (digs (plen : Int)) = s2 at *
      go_wp2_with fail
      refine Calls.mono WT.out ?_
      rintro e w3 ⟨rfl, h3, g3⟩
      have B3 : Below w.heap.size w w3 := B2.grown g3 B2.size (fun k hk => by cases hk; exact hsz)
      have WP := hidden (write w3 sb s2 pa plen pcp pz h3 us2 (hrow'.out.later B3) (fun hp x hx => by have := hrow'.out.block hp x hx; omega) (by omega))
      clear WT g3 h3
      generalize come s2 pz = s3 at *
      go_wp2_with fail
      refine Calls.mono WP.out ?_
      rintro e w4 ⟨rfl, h4, g4⟩
      have B4 : Below w.heap.size w w4 := B3.grown g4 B3.size (fun k hk => by cases hk; exact hsz)
      clear WP g4
      go_wp2
      go_roundw
      case rel => exact ⟨k + 1, by omega, by go_num, by rw [HN.out]; exact h4, B4⟩
      case measure => simp [intOf]; omega
    · obtain rfl : k = n := by omega
      rw [List.take_of_length_le (by omega)] at hst us
      generalize come (q, 0, 0) (rowOf (bytesOf ps)) = s at *
      have SE := hidden (sealed wr sb s.1 s.2.1 s.2.2 hst us.1 us.2)
      have HB := hidden hbl
      clear hst hbl hs0 bel0
      go_wp2_with fail
      refine Calls.mono SE.out ?_
      rintro e w2 ⟨rfl, g2⟩
      go_wp2
      go_ret
      exact ⟨by rw [HS.out]; rfl, HB.out.grown g2 HB.out.size (fun k hk => by cases hk; exact hsz)⟩
end Go.Proofs.Ytalfhcaggjgibaa.Mac
