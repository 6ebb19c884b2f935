/-
  What the document's All tells.
  Conditions: the numbers lie within their kinds, the cells hold them; the bytes are at most 1048576.
-/
import Derived.Test.YtifdkpifambhaabChRg
import Derived.Test.YtifdkpifambhaabChAb
namespace Go.Proofs.Ytifdkpifambhaab.Chu
open Go.ChangeShapes Go.WideShapes Go.ChangeAt Go.RowKit
open Par (hidden Bytes Row Prm Prms cell_lt form_of cells_new)
set_option linter.unusedVariables false
attribute [local go_sem ↓] execOp_ld execOp_bx execOp_st execOp_bs
attribute [local go_sem] run_box run_bsl

set_option maxRecDepth 20000 in
set_option maxHeartbeats 1000000 in
theorem rAll (base : Nat) (w : World) (a : Option Addr) (len cap : Nat) (zs : List Int) (hr : Row base w a len zs) (hlc : len ≤ cap) (hlen : len ≤ 1048576) :
    Calls Try.prog 5 #[.slice a len cap] w fun e w' => ∃ pa n pcap l p er, e = .returned (.tuple #[.slice pa n pcap, .int .i64 ((p : Nat) : Int), .int .i64 er]) ∧ Cks w.heap.size w' pa n l ∧ AllOut zs (l.map val) p er ∧ Below w.heap.size w w' := by
  obtain ⟨i0, hi, hz0, hz1, hz2⟩ := info_parts infoC3
  have hzl := hr.1
  have HBY := hidden hr.2.1
  have HR := hidden hr
  clear hr
  go_enter Try.func5, Try.ntmps5
  go_wp2_with fail
  go_loopw [5, 6] (fun v i wr => ∃ k q l, i = .int .i64 ((q : Nat) : Int) ∧ Lc w wr v k l ∧ Rds zs 0 (l.map val) q) (fun _ i _ => len - (intOf i).toNat)
  case atStart => exact ⟨0, 0, [], rfl, Lc.nil w, rfl⟩
  case round =>
    obtain ⟨k, q, l, rfl, hL, hRd⟩ := hrel
    obtain ⟨q1, q2⟩ := rds_le HBY.out (Nat.zero_le _) hRd
    rw [List.length_map, hL.2.1] at q1
    obtain ⟨va, vc, rfl⟩ := form_of hL.1
    rcases Nat.lt_or_ge q len with hlt | hge
    · obtain ⟨b, off, rfl, _, _⟩ := HR.out.2.2.2.resolve_left (by omega)
      have DE := hidden (rDecode base wr (some ⟨b, off + q, none⟩) (len - q) (cap - q) (zs.drop q) (drop_row (HR.out.later hL.2.2.2) hlt) (by omega) (fun h => by cases h))
      have HL := hidden hL
      have HRD := hidden hRd
      have i1 : (q : Int) < (len : Int) := by omega
      have i2 : (q : Int) ≤ (cap : Int) := by omega
      have i3 : ¬ cap = q := by omega
      have i4 : ¬ q = cap := by omega
      have i5 : (q : Int) ≤ (len : Int) := by omega
      clear hL hRd
      go_wp2_with fail
      refine Calls.mono DE.out ?_
      rintro e w1 ⟨c, m, er, rfl, ⟨y, hD, hv⟩, hbad, hC, b1⟩
      obtain ⟨W, hS, hbx, hbw⟩ := newvar w1 c
      have b2 := b1.trans (hbw.mono b1.size)
      have HC := hidden (hC.later hbw)
      have HD := hidden hD
      have HV := hidden hv
      have HBAD := hidden hbad
      have HB2 := hidden b2
      have HX := hidden hbx
      clear hC hD hv hbad b1 b2 hbx hbw DE
      by_cases he : er = 0
      · subst he
        have HVV := hidden (HV.out rfl)
        have l1 := HX.out.ld
        obtain ⟨r1, r2, r3, r4⟩ := read_ok (zs.drop q) (fun x hx => HBY.out x (List.mem_of_mem_drop hx)) y m HD.out
        rw [List.length_drop] at r4
        have HB3 := hidden (HB2.out.trans ((below_box W c).mono HB2.out.size))
        have hs3 := (HL.out.2.2.2.trans (HB3.out.mono HL.out.2.2.2.size)).size
        have HOW := hidden ((HL.out.later HB3.out).1)
        clear r1 r2
        go_wp2_with (at_builtin; refine wpList_append_at rfl _ _ 23 rfl w.heap.size 39 i0 (cv (zck 0)) Try.underlying23 hi hz0 (by rw [hz1]; rfl) (by rw [hz1]; decide) _ _ _ rfl (by rw [hz1]; exact HOW.out) ⟨W.heap.size, 0, none⟩ 1 1 (cc c).toList rfl (by rw [hz1]; rfl) (cells_cc W c) (cc_one c) (by decide) ?c3 ?c4 ?c5 ?_)
        case c3 => unfold maxLen; omega
        case c4 => rw [hz2]; omega
        case c5 => exact hs3
        intro v3 w3 ho3 hg3 hw3
        have HM := hidden (HL.out.more HB3.out (HC.out.later (below_box W c)) ho3 hg3 (by rw [World.size_alloc]; exact hw3))
        clear ho3 hg3 hw3 HOW
        go_wp2
        go_roundw
        case rel => exact ⟨k + 1, q + m, l ++ [c], by go_num, HM.out, by rw [List.map_append]; exact HRD.out.snoc (by omega) (by rw [HVV.out]; exact HD.out)⟩
        case measure => simp [intOf]; omega
      · have hne := bne_t he
        have HB3 := hidden (HL.out.2.2.2.trans (HB2.out.mono HL.out.2.2.2.size))
        have HE := hidden he
        clear he
        go_wp2
        go_ret3
        exact ⟨none, 0, 0, [], q, er, rfl, Cks.nil _ _ _, .inr ⟨HE.out, rfl, _, y, m, HRD.out, by omega, HD.out⟩, HB3.out⟩
    · obtain ⟨pa, pcap, e, hck⟩ := hL.cks (by omega)
      cases e
      have HCK := hidden hck
      have HO := hidden (show AllOut zs (l.map val) 0 0 from .inl ⟨rfl, rfl, q, hRd, by omega⟩)
      have HB := hidden hL.2.2.2
      clear hck hL hRd
      go_wp2
      go_ret3
      exact ⟨_, _, _, l, 0, 0, rfl, HCK.out, HO.out, HB.out⟩
/-- a row that came in and is of little bulk is short -/
theorem row_small {H : Type} {enc : TypeId × Value → H} {W : World} {base : Nat} {held : Bool} {fuel : Nat} {a : Option Addr} {len cap : Nat} {x : DataW H × List MemPlace}
    (h : DataW.trod enc Try.prog W base (fun _ => true) held fuel 22 (Value.slice a len cap).cells.toList = some x) (hb : Rows.uptoBulk x.1 ≤ 1048576) : len ≤ 1048576 := by
  have bulk : ∀ l : List Int, Rows.uptoBulkAll (H := H) (lits .u8 l) = l.length := by
    intro l
    induction l with
    | nil => rfl
    | cons n l ih => simp only [lits, List.map_cons, Rows.uptoBulkAll, Rows.uptoBulk, List.length_cons] at *; rw [ih]; omega
  rcases open_ints Try.underlying22 Try.underlying5 (by kernel_rfl) h with ⟨hcs, _⟩ | ⟨y, l, c, zs, hcs, _, hl, hm, hz, rfl, _, _⟩
  · simp [Value.cells] at hcs
    omega
  · simp [Value.cells] at hcs
    obtain ⟨_, rfl, rfl⟩ := hcs
    simp only [if_pos] at hz
    simp only [Rows.uptoBulk, bulk, List.length_take, List.length_drop] at hb
    omega
end Go.Proofs.Ytifdkpifambhaab.Chu
