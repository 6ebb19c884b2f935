/-
  The row that the document makes of parts, and the document's seal of them.
  Conditions: the numbers lie within their kinds, the cells hold them, the parts' bytes are not too many.
-/
import Derived.Test.YtalfhcaggjgibaaMacK
namespace Go.Proofs.Ytalfhcaggjgibaa.Mac
open Go.ChangeShapes Go.WideShapes Go.ChangeAt Go.RowKit
set_option linter.unusedVariables false

theorem parts_few {H : Type} {enc : TypeId × Value → H} {W : World} {base : Nat} {held : Bool} {fuel : Nat} {a : Option Addr} {n cap : Nat} {x : DataW H × List MemPlace}
    (h : DataW.trod enc Try.prog W base (fun _ => true) held fuel 29 (Value.slice a n cap).cells.toList = some x) (hs : Rows.uptoBulk x.1 ≤ 1048576) : n ≤ 1048576 := by
  rcases Deep.open_int_rows Try.underlying29 Try.underlying24 Try.underlying5 (by kernel_rfl) (by kernel_rfl) h with ⟨hcs, _⟩ | ⟨y, l, c, A, L, C, Z, hcs, _, hl, hm, rfl, hcell⟩
  · simp [Value.cells] at hcs
    omega
  · simp [Value.cells] at hcs
    obtain ⟨rfl, rfl, rfl⟩ := hcs
    simp only [Rows.uptoBulk] at hs
    have hn := bulk_len ((List.range n).map fun r => Deep.intRow (H := H) .u8 (A r) (L r) (Z r))
    simp only [List.length_map, List.length_range] at hn
    omega
theorem rowOf_len (ps : List (Option Addr × Nat × Nat × List Int)) : (rowOf (bytesOf ps)).length = 8 * ps.length + (all ps).length := by
  induction ps with
  | nil => rfl
  | cons p ps ih =>
    have e : rowOf (bytesOf (p :: ps)) = digs (p.2.2.2.length : Int) ++ (p.2.2.2 ++ rowOf (bytesOf ps)) := rfl
    have e2 : all (p :: ps) = p.2.2.2 ++ all ps := by simp [all]
    rw [e, e2, List.length_append, List.length_append, digs_len, ih, List.length_append, List.length_cons]
    omega
theorem rowOf_bytes (ps : List (Option Addr × Nat × Nat × List Int)) (h : ∀ p ∈ ps, Bytes p.2.2.2) : Bytes (rowOf (bytesOf ps)) := by
  induction ps with
  | nil => intro n hn; cases hn
  | cons p ps ih =>
    intro n hn
    have e : rowOf (bytesOf (p :: ps)) = digs (p.2.2.2.length : Int) ++ (p.2.2.2 ++ rowOf (bytesOf ps)) := rfl
    rw [e] at hn
    rcases List.mem_append.1 hn with hn | hn
    · exact digs_bytes _ n hn
    · rcases List.mem_append.1 hn with hn | hn
      · exact h p (by simp) n hn
      · exact ih (fun q hq => h q (by simp [hq])) n hn

theorem own_later {w w' : World} {base e n : Nat} {v : Value} {xs : List Value} (h : w.ownsRow base e 1 v n xs) (hb : Below w.heap.size w w') : w'.ownsRow base e 1 v n xs :=
  h.kept (row := none) ⟨hb.os, hb.tape, hb.output, hb.size, fun k hk _ => hb.block k hk⟩ (Classical.em (v.ownBlock = none))

theorem rrow (w : World) (pa : Option Addr) (n pcap : Nat) (ps : List (Option Addr × Nat × Nat × List Int)) (hp : Parts w pa n ps) (hq : ∀ p ∈ ps, p.1 = none → p.2.1 = 0 ∧ p.2.2.1 = 0) (hn : (rowOf (bytesOf ps)).length ≤ 70368744177664) :
    Calls Try.prog 12 #[.slice pa n pcap] w fun e w' => ∃ v, e = .returned v ∧ w'.ownsRow w.heap.size 5 1 v (rowOf (bytesOf ps)).length ((rowOf (bytesOf ps)).map (.int .u8)) ∧ Below w.heap.size w w' := by
  obtain ⟨i0, hi, hz0, hz1, hz2⟩ := info_parts info5
  go_enter Try.func12, Try.ntmps12
  go_wp2_with fail
  go_loopw [3, 4] (fun v i wr => ∃ k : Nat, k ≤ n ∧ i = .int .i64 k ∧ wr.ownsRow w.heap.size 5 1 v (rowOf (bytesOf (ps.take k))).length ((rowOf (bytesOf (ps.take k))).map (.int .u8)) ∧ Below w.heap.size w wr) (fun _ i _ => n - (intOf i).toNat)
  case atStart => exact ⟨0, Nat.zero_le _, rfl, World.ownsRow_nil _ _ _ _, Below.refl _ _⟩
  case round =>
    obtain ⟨k, hk, rfl, ho, hbl⟩ := hrel
    obtain ⟨hpl, hplim, hprow, hpc⟩ := hp
    rcases Nat.lt_or_ge k n with hlt | hge
    · obtain ⟨b, off, rfl, hc⟩ := hpc.resolve_left (by omega)
      obtain ⟨⟨pa, plen, pcp, pz⟩, hpk⟩ : ∃ p, ps[k]? = some p := ⟨_, List.getElem?_eq_getElem (by omega)⟩
      have hcell := hidden (hc k _ hpk)
      have hcellr := (hbl.cell (cell_lt hcell.out)).trans hcell.out
      have hrow : Row w pa plen pz := hprow _ (List.mem_of_getElem? hpk)
      have hsn := rowOf_snoc ps k _ hpk
      have htot := rowOf_le ps (k + 1)
      rw [hsn] at htot
      simp only [List.length_append, digs_len] at htot
      have hpzl : pz.length = plen := hrow.1
      have hqq := hidden (hq _ (List.mem_of_getElem? hpk))
      rw [show (pz.length : Int) = (plen : Int) by omega] at hsn
      have HN := hidden hsn
      have hrow' := hidden hrow
      have hbl' := hidden hbl
      have hlim := hrow.2.2.1
      have hbase := hbl.size
      have X := hidden (rtext wr (plen : Int) ⟨by omega, by omega⟩)
      have ho' := hidden ho
      have hl1 : Hid ((rowOf (bytesOf (ps.take k))).length + 8 + plen ≤ 70368744177664) := by unfold Hid; omega
      clear hsn htot hprow hc hpk hrow hbl hpc ho hq
      simp only at hcellr
      go_wp2_with fail
      refine Calls.mono X.out ?_
      rintro e w2 ⟨v, rfl, hv, b2⟩
      obtain ⟨gv, cv, rfl⟩ := row_form hv (by decide)
      have hn2 : ∀ j u, ((digs (plen : Int)).map (Value.int .u8))[j]? = some u → w2.cell? ((⟨gv, 0, none⟩ : Addr).add j) = some u := World.ownsRow.cells hv rfl
      have ho2 : w2.ownsRow w.heap.size 5 1 u3 (rowOf (bytesOf (ps.take k))).length ((rowOf (bytesOf (ps.take k))).map (.int .u8)) := own_later ho'.out b2
      have B2 : Below w.heap.size w w2 := hbl'.out.trans (b2.mono hbl'.out.size)
      have hb2 := B2.size
      have HV := hidden hv
      have HB2 := hidden B2
      clear X hv ho' b2 hcellr
      generalize rowOf (bytesOf (ps.take k)) = P at *
      go_wp2_with (at_builtin; refine wpList_append_own _ rfl _ _ 24 rfl w.heap.size 5 i0 (.int .u8 0) 1 1 Try.underlying24 hi hz0 hz1 hz2 rfl (by decide) _ _ _ rfl ho2 ⟨gv, 0, none⟩ 8 cv ((digs (plen : Int)).map (Value.int .u8)) rfl ?c0 hn2 (one_cell _) ?c3 ?c4 hb2 ?_)
      case c0 => simp [digs_len]
      case c3 => unfold maxLen; have := hl1.out; omega
      case c4 => have := hl1.out; omega
      intro v3 w3 ho3 hg3 _
      have B3 : Below w.heap.size w w3 := HB2.out.grown hg3 hb2 (fun j hj => (ho2.lt j hj).1)
      have hcell3 := (B3.cell (cell_lt hcell.out)).trans hcell.out
      have hb3 := B3.size
      have HB3 := hidden B3
      have hrow3 := hrow'.out.later B3
      clear HV HB2 hn2 ho2 hg3 B3 B2 hb2
      rcases pa with _ | ad
      · obtain ⟨h0, h1⟩ := hqq.out rfl
        subst h0; subst h1
        obtain rfl := List.eq_nil_of_length_eq_zero hpzl
        go_wp2_with (at_builtin; refine wpList_append_own_none rfl _ _ 24 rfl w.heap.size 5 i0 1 Try.underlying24 hi _ _ _ rfl ho3 rfl ?_)
        go_wp2
        go_roundw
        case rel => exact ⟨k + 1, by omega, by go_num, by rw [HN.out, List.append_nil, List.map_append, List.length_append, digs_len]; exact ho3, HB3.out⟩
        case measure => simp [intOf]; omega
      · have hnews : ∀ j u, (pz.map (Value.int .u8))[j]? = some u → w3.cell? (ad.add j) = some u := by
          rcases hrow3.2.2.2 with h0 | ⟨b', off', he, hc'⟩
          · intro j u hj
            rw [List.eq_nil_of_length_eq_zero (by omega : pz.length = 0)] at hj
            cases hj
          · cases he
            exact news hpzl hc'
        clear hrow3
        go_wp2_with (at_builtin; refine wpList_append_own _ rfl _ _ 24 rfl w.heap.size 5 i0 (.int .u8 0) 1 1 Try.underlying24 hi hz0 hz1 hz2 rfl (by decide) _ _ _ rfl ho3 ad plen pcp (pz.map (Value.int .u8)) rfl ?d0 hnews (one_cell _) ?d3 ?d4 hb3 ?_)
        case d0 => simp; omega
        case d3 => unfold maxLen; have := hl1.out; omega
        case d4 => have := hl1.out; omega
        intro v4 w4 ho4 hg4 _
        have B4 : Below w.heap.size w w4 := HB3.out.grown hg4 hb3 (fun j hj => (ho3.lt j hj).1)
        clear hg4 hnews ho3
        go_wp2
        go_roundw
        case rel => exact ⟨k + 1, by omega, by go_num, by rw [HN.out, List.map_append, List.map_append, List.length_append, List.length_append, digs_len, hpzl, ← Nat.add_assoc]; exact ho4, B4⟩
        case measure => simp [intOf]; omega
    · obtain rfl : k = n := by omega
      rw [List.take_of_length_le (by omega)] at ho
      go_wp2
      go_ret
      exact ⟨_, rfl, ho, hbl⟩
end Go.Proofs.Ytalfhcaggjgibaa.Mac
