/-
  What is told of one path's chunks marks none of another's: five reports of the first path's chunks leave the second path's as they were, for every row of sizes and paths, every report and time.
  Conditions: the arguments hold together at most 1048576 values.
-/
import Derived.Test.YtjceeckcfjjkkaaRows
import Derived.WalkKit
import Derived.ProofKit
import Derived.OpenShut
import Derived.ShutString
import Derived.ChangeOld
import Derived.Below
import Derived.SizedLaws
import Derived.Deep.DeepHandedRow
import Derived.LaidLaws
import Derived.ChangeMaps5
import Derived.Test.YtjceeckcfjjkkaaOcE
import Derived.Test.YtjceeckcfjjkkaaOcD
import Derived.Test.YtjceeckcfjjkkaaAg
import Derived.Test.YtjceeckcfjjkkaaOcArgs
import Derived.Deep.CutBlock
import Derived.Deep.LoopGhost
namespace Go.Proofs.Ytjceeckcfjjkkaa.outboxSplit
open Go.ChangeShapes Go.WideShapes Go.ChangeAt Go.RowKit
open Go.ChangeMaps (open_string shut_string)
set_option linter.unusedVariables false

theorem own : ownKnob Try.prog.godebug = none := by kernel_rfl
theorem laidOut : laidOutB Try.prog = true := by kernel_rfl

open Ba (hidden Has cell_lt)
open Ob
/-- the box, and the report in its own block -/
structure SpA (w X : World) (c : Ck) (ps : Nat → Bool) (t f : Nat) (rv : Value) (P : List CV) (K : Nat) (S : St) : Prop where
  no : No (fun _ => True) X t f rv P (nextS S) S.n S.L (fun k => fl S.L k) (Ob.mk S.L)
  fb : ∀ k, FC t f rv k → w.heap.size + 1 ≤ k
  bl : Below w.heap.size w X
  bx : Has X w.heap.size (kcs c) 48
  gd : Ob.Good K S
  sp : Spl ps S
theorem SpA.later {w X X' : World} {c : Ck} {ps : Nat → Bool} {t f : Nat} {rv : Value} {P : List CV} {K : Nat} {S : St} (h : SpA w X c ps t f rv P K S) (hB : Below X.heap.size X X') : SpA w X' c ps t f rv P K S :=
  ⟨h.no.later hB, h.fb, h.bl.trans (hB.mono h.bl.size), h.bx.later hB, h.gd, h.sp⟩
theorem letters (m : Nat) (h1 : 1 ≤ m) (h2 : m ≤ 10) : ∃ sb : ByteArray, sb.size = m ∧ ∀ w : World, (Instr.sliceAt 9 (.string ⟨#[97, 98, 99, 100, 101, 102, 103, 104, 105, 106]⟩) none (some (.int .i64 (m : Int))) none).run Try.prog w = .ok (.string sb) w := by
  rcases (show m = 1 ∨ m = 2 ∨ m = 3 ∨ m = 4 ∨ m = 5 ∨ m = 6 ∨ m = 7 ∨ m = 8 ∨ m = 9 ∨ m = 10 by omega) with rfl | rfl | rfl | rfl | rfl | rfl | rfl | rfl | rfl | rfl
  · exact ⟨⟨#[97]⟩, rfl, fun w => by kernel_rfl⟩
  · exact ⟨⟨#[97, 98]⟩, rfl, fun w => by kernel_rfl⟩
  · exact ⟨⟨#[97, 98, 99]⟩, rfl, fun w => by kernel_rfl⟩
  · exact ⟨⟨#[97, 98, 99, 100]⟩, rfl, fun w => by kernel_rfl⟩
  · exact ⟨⟨#[97, 98, 99, 100, 101]⟩, rfl, fun w => by kernel_rfl⟩
  · exact ⟨⟨#[97, 98, 99, 100, 101, 102]⟩, rfl, fun w => by kernel_rfl⟩
  · exact ⟨⟨#[97, 98, 99, 100, 101, 102, 103]⟩, rfl, fun w => by kernel_rfl⟩
  · exact ⟨⟨#[97, 98, 99, 100, 101, 102, 103, 104]⟩, rfl, fun w => by kernel_rfl⟩
  · exact ⟨⟨#[97, 98, 99, 100, 101, 102, 103, 104, 105]⟩, rfl, fun w => by kernel_rfl⟩
  · exact ⟨⟨#[97, 98, 99, 100, 101, 102, 103, 104, 105, 106]⟩, rfl, fun w => by kernel_rfl⟩
theorem bool_at {w x : World} {a : Option Addr} {n : Nat} {zs : List Bool} (h : Bools w a n zs) (hB : Below w.heap.size w x) {j : Nat} (hj : j < n) : ∃ b off, a = some ⟨b, off, none⟩ ∧ x.cell? ⟨b, off + j, none⟩ = some (.bool (zs.getD j false)) := by
  obtain ⟨b, off, z, e, hz, _, hc⟩ := h.at hB hj
  have := hc 0 _ rfl
  rw [Nat.mul_one, Nat.add_zero] at this
  exact ⟨b, off, e, by rw [this, List.getD_eq_getElem?_getD, hz]; rfl⟩
theorem byte_at {w x : World} {a : Option Addr} {n : Nat} {zs : List Int} (h : Row w a n zs) (hB : Below w.heap.size w x) {j : Nat} (hj : j < n) : ∃ b off s, a = some ⟨b, off, none⟩ ∧ x.cell? ⟨b, off + j, none⟩ = some (.int .u8 s) ∧ 0 ≤ s ∧ s < 256 := by
  obtain ⟨h1, h2, _, h4⟩ := h.later hB
  obtain ⟨b, off, e, hc⟩ := h4.resolve_left (by omega)
  refine ⟨b, off, zs.getD j 0, e, hc j hj, ?_⟩
  rw [List.getD_eq_getElem?_getD, List.getElem?_eq_getElem (by omega)]
  exact h2 _ (List.getElem_mem ..)
theorem GL.gpQ {base : Nat} {w : World} {v : Value} {gs : List (Int × Int)} (h : GL base w v gs) (hl : gs.length ≤ 70368744177664) : Gp (fun k => base ≤ k ∧ k < w.heap.size) w v gs := by
  rcases h.1.2 with ⟨rfl, h0⟩ | ⟨g, cap, cur, rfl, hb, hg, h1, h2, h3, h4⟩
  · rw [List.eq_nil_of_length_eq_zero h0]
    exact Gp.nil _ _
  · refine ⟨_, cap, rfl, hl, h.2, .inr ⟨g, 0, rfl, ⟨hb, Ba.heap_lt hg⟩, fun j u hj => ?_⟩⟩
    rw [Nat.zero_add]
    refine Has.cell (cs := cur) (t := 65) hg j ?_
    have hjl := (List.getElem?_eq_some_iff.1 hj).1
    rw [gcs_len] at hjl
    rw [← h4, List.getElem?_take, if_pos hjl] at hj
    simpa using hj
set_option maxRecDepth 20000 in
set_option maxHeartbeats 8000000 in

theorem walk (a0 : Int) (a1 : Option Addr) (len1 cap1 : Nat) (z1 : List Int) (a2 : Option Addr) (len2 cap2 : Nat) (z2 : List Bool) (q3 : Ob.QA) (a4 : Int) (w : World) (w0 : (Lit.int .u32 a0).wf = true) (w1 : Ob.Row w a1 len1 z1) (s1 : len1 ≤ cap1 ∧ cap1 ≤ 140737488351232 ∧ (a1 = none → len1 = 0 ∧ cap1 = 0)) (w2 : Ob.Bools w a2 len2 z2) (s2 : True) (w3 : Ob.OkQ w q3) (s3 : q3.gs.length ≤ 1048576) (w4 : (Lit.int .i64 a4).wf = true) :
    Calls Try.prog 5 #[.int .u32 a0, .slice a1 len1 cap1, .slice a2 len2 cap2, Ob.kv q3.c, .int .i64 a4] w fun e w' => e = .returned (.bool true) ∧ Below w.heap.size w w' := by
  obtain ⟨W1, hW1⟩ : ∃ W1, W1 = w.alloc (.cells (kcs q3.c) 48) := ⟨_, rfl⟩
  have hb1 : Has W1 w.heap.size (kcs q3.c) 48 := by rw [hW1]; exact Has.new w _ _
  have hBW : Below w.heap.size w W1 := by rw [hW1]; exact (Below.refl _ w).alloc (Nat.le_refl _) _
  have hs1 : W1.heap.size = w.heap.size + 1 := by rw [hW1]; simp
  have N := hidden (Ob.new (fun _ => True) a0 2 (Ob.u32_bounds w0) (by decide) (by decide) W1)
  have HU0 := hidden (Ob.u32_bounds w0)
  have HS1 := hidden w1
  have HS2 := hidden w2
  have HQ3 := hidden w3
  have HL3 := hidden s3
  have H1 := hidden (And.intro hb1 (And.intro hBW hs1))
  obtain ⟨ps, hps⟩ : ∃ ps : Nat → Bool, ps = fun i => z2.getD i false := ⟨_, rfl⟩
  have HPS := hidden hps
  unfold kcs at hW1
  have HW1 := hidden hW1
  clear w0 w1 w2 w3 s1 s2 s3 hb1 hBW hs1 hW1 hps
  unfold kv kcs
  go_enter Try.func5, Try.ntmps5
  go_wp2_with fail
  rw [← HW1.out]
  refine Calls.mono N.out ?_
  rintro e x1 ⟨t, rfl, ⟨F, ⟨f, rv, P, hN, hFF⟩, hF⟩, hB1⟩
  have H2 : Hid (SpA w x1 q3.c ps t f rv P 0 (newS a0 2)) :=
    ⟨hN, fun k hk => by have := hF k ((hFF k).2 hk); have := H1.out.2.2; omega, H1.out.2.1.trans (hB1.mono H1.out.2.1.size), H1.out.1.later hB1, Good.new HU0.out (by omega), ⟨rfl, fun i x hx => by simp [newS] at hx⟩⟩
  have hnl0 : (newS a0 2).L.length = 0 := rfl
  clear hN hFF hF hB1 N
  go_upto_block 0 with fail
  go_cut [13, 14] from 34 (fun d d2 wx => ∃ (rv : Value) (P : List CV) (S : St), Hid (SpA w wx q3.c ps t f rv P S.L.length S ∧ S.L.length ≤ len1 ∧ S.L.length ≤ len2 ∧ S.L.length ≤ 60 ∧ (S.L.length = len1 ∨ S.L.length = len2 ∨ S.L.length = 60)))
  case first =>
    go_wp2_with fail
    go_loopg [13, 14] 60 (fun g d d2 wr => ∃ (rv : Value) (P : List CV) (S : St), d = .int .i64 (S.L.length : Int) ∧ g = 60 - S.L.length ∧ Hid (SpA w wr q3.c ps t f rv P S.L.length S ∧ S.L.length ≤ len1 ∧ S.L.length ≤ len2 ∧ S.L.length ≤ 60))
    case atStart => exact ⟨rv, P, newS a0 2, rfl, rfl, ⟨H2.out, Nat.zero_le _, Nat.zero_le _, Nat.zero_le _⟩⟩
    case round =>
    obtain ⟨rv, P, S, rfl, hg, HI⟩ := hrel
    obtain ⟨k, hk⟩ : ∃ k, k = S.L.length := ⟨_, rfl⟩
    have HGK := hidden hg
    have HK := hidden hk.symm
    obtain ⟨l1, l2, l3⟩ := HI.out.2
    rw [← hk] at l1 l2 l3 HGK ⊢
    clear hg hk
    by_cases e1 : k = len1
    · have hnl : ¬ ((k : Int) < (len1 : Int)) := by omega
      go_wp2_with fail
      go_meet
      case rel => exact ⟨rv, P, S, ⟨HI.out.1, HI.out.2.1, HI.out.2.2.1, HI.out.2.2.2, .inl (by rw [HK.out]; exact e1)⟩⟩
    · have hlt1 : (k : Int) < (len1 : Int) := by omega
      by_cases e2 : k = len2
      · have hnl : ¬ ((k : Int) < (len2 : Int)) := by omega
        go_wp2_with fail
        go_meet
        case rel => exact ⟨rv, P, S, ⟨HI.out.1, HI.out.2.1, HI.out.2.2.1, HI.out.2.2.2, .inr (.inl (by rw [HK.out]; exact e2))⟩⟩
      · have hlt2 : (k : Int) < (len2 : Int) := by omega
        by_cases e3 : k = 60
        · have hnl : ¬ ((k : Int) < 60) := by omega
          go_wp2_with fail
          go_meet
          case rel => exact ⟨rv, P, S, ⟨HI.out.1, HI.out.2.1, HI.out.2.2.1, HI.out.2.2.2, .inr (.inr (by rw [HK.out]; exact e3))⟩⟩
        · have hlt3 : (k : Int) < 60 := by omega
          obtain ⟨b2, o2, ea2, c2⟩ := bool_at HS2.out HI.out.1.bl (j := k) (by omega)
          obtain ⟨b1, o1, sv, ea1, c1, sv0, sv1⟩ := byte_at HS1.out HI.out.1.bl (j := k) (by omega)
          subst ea2 ea1
          obtain ⟨r, hr⟩ : ∃ r, r = sv.tmod 10 := ⟨_, rfl⟩
          have hr2 : 0 ≤ r ∧ r < 10 := by rw [hr]; exact ⟨Int.tmod_nonneg 10 sv0, Int.tmod_lt_of_pos sv (by decide)⟩
          obtain ⟨m, hm⟩ : ∃ m : Nat, (m : Int) = 1 + r := ⟨(1 + r).toNat, by omega⟩
          have hm1 : 1 ≤ m ∧ m ≤ 10 := by omega
          obtain ⟨sb, hsz, HSL0⟩ := letters m hm1.1 hm1.2
          have PT : Hid (∀ w, Calls Try.prog 18 #[.string sb] w fun e w' => ∃ b cap, e = .returned (pv 0 0 0 false true true (some ⟨b, 0, none⟩) sb.size cap) ∧ w.heap.size ≤ b ∧ Row w' (some ⟨b, 0, none⟩) sb.size (bytesOf sb) ∧ Below w.heap.size w w') := fun w => Ob.part sb (by omega) w
          have hrm : sv.tmod 10 = r := hr.symm
          have hwm : IntKind.i64.wrap (1 + r) = (m : Int) := by rw [IntKind.wrap_i64]; omega
          have hwr : IntKind.i64.wrap r = r := by rw [IntKind.wrap_i64]; omega
          have hws : IntKind.i64.wrap sv = sv := by rw [IntKind.wrap_i64]; omega
          have hwk : IntKind.i64.wrap ((k : Int) + 1) = (k : Int) + 1 := by rw [IntKind.wrap_i64]; omega
          have HPS0 : Hid (ps k = z2.getD k false) := by rw [HPS.out]; rfl
          clear hr hm e1 e2 e3
          generalize z2.getD k false = pb at *
          cases pb with
          | false =>
            have HPV : Hid ((0 : Int) = if ps k then 1 else 0) := by rw [HPS0.out]; rfl
            go_wp2_with fail
            refine Calls.mono (PT.out wr) ?_
            rintro e y1 ⟨b, cap, rfl, hb, hr, hB⟩
            rw [hsz] at hr ⊢
            have P1 := hidden (putS (HI.out.1.no.later hB) HI.out.1.gd (fun _ _ => trivial) 0 0 (by rw [HI.out.1.sp.n2]; omega) (by omega) 0 0 0 false true true b 0 m cap (bytesOf sb) hr (by omega) (by omega))
            have hS1 := hidden (HI.out.1.later hB)
            clear hb hr hB
            go_wp2_with fail
            refine Calls.mono P1.out ?_
            rintro e y2 ⟨rfl, rv2, P2, hN2, hm2, ho2⟩
            have G : Hid (SpA w y2 q3.c ps t f rv2 P2 (pushS S 0 0 ⟨0, 0, 0, false, bytesOf sb, true, true⟩).L.length (pushS S 0 0 ⟨0, 0, 0, false, bytesOf sb, true, true⟩) ∧ (pushS S 0 0 ⟨0, 0, 0, false, bytesOf sb, true, true⟩).L.length = k + 1) := by
              have hlen : (pushS S 0 0 ⟨0, 0, 0, false, bytesOf sb, true, true⟩).L.length = k + 1 := by simp only [pushS, List.length_append, List.length_cons, List.length_nil]; have := HK.out; omega
              refine ⟨⟨hN2, fun k' hk' => ?_, hS1.out.bl.trans (hm2.below hS1.out.bl.size (fun k' hk' => by have := hS1.out.fb k' hk'; omega)), hm2.has hS1.out.bx (fun e => by have := hS1.out.fb _ e; omega), ?_, hS1.out.sp.push (by rw [HK.out]; exact HPV.out)⟩, hlen⟩
              · rcases hk' with h | h | h
                · exact hS1.out.fb k' (.inl h)
                · exact hS1.out.fb k' (.inr (.inl h))
                · rcases ho2 k' h with h | h
                  · exact hS1.out.fb k' (.inr (.inr h))
                  · have := hS1.out.bx.lt; omega
              · rw [hlen]
                have h0 := hS1.out.gd
                rw [HK.out] at h0
                exact Good.push h0 (by omega) (by rw [hS1.out.sp.n2]; omega) (by omega) (by show 1 ≤ (bytesOf sb).length ∧ (bytesOf sb).length ≤ 65536; rw [bytesOf_len, hsz]; omega)
            clear hN2 hm2 ho2 P1
            go_wp2
            go_roundg (60 - (k + 1))
            case measure => rw [HGK.out]; omega
            case rel => exact ⟨rv2, P2, _, by rw [G.out.2]; simp, by rw [G.out.2], ⟨G.out.1, by rw [G.out.2]; omega, by rw [G.out.2]; omega, by rw [G.out.2]; omega⟩⟩
          | true =>
            have HPV : Hid ((1 : Int) = if ps k then 1 else 0) := by rw [HPS0.out]; rfl
            go_wp2_with fail
            refine Calls.mono (PT.out wr) ?_
            rintro e y1 ⟨b, cap, rfl, hb, hr, hB⟩
            rw [hsz] at hr ⊢
            have P1 := hidden (putS (HI.out.1.no.later hB) HI.out.1.gd (fun _ _ => trivial) 1 0 (by rw [HI.out.1.sp.n2]; omega) (by omega) 0 0 0 false true true b 0 m cap (bytesOf sb) hr (by omega) (by omega))
            have hS1 := hidden (HI.out.1.later hB)
            clear hb hr hB
            go_wp2_with fail
            refine Calls.mono P1.out ?_
            rintro e y2 ⟨rfl, rv2, P2, hN2, hm2, ho2⟩
            have G : Hid (SpA w y2 q3.c ps t f rv2 P2 (pushS S 1 0 ⟨0, 0, 0, false, bytesOf sb, true, true⟩).L.length (pushS S 1 0 ⟨0, 0, 0, false, bytesOf sb, true, true⟩) ∧ (pushS S 1 0 ⟨0, 0, 0, false, bytesOf sb, true, true⟩).L.length = k + 1) := by
              have hlen : (pushS S 1 0 ⟨0, 0, 0, false, bytesOf sb, true, true⟩).L.length = k + 1 := by simp only [pushS, List.length_append, List.length_cons, List.length_nil]; have := HK.out; omega
              refine ⟨⟨hN2, fun k' hk' => ?_, hS1.out.bl.trans (hm2.below hS1.out.bl.size (fun k' hk' => by have := hS1.out.fb k' hk'; omega)), hm2.has hS1.out.bx (fun e => by have := hS1.out.fb _ e; omega), ?_, hS1.out.sp.push (by rw [HK.out]; exact HPV.out)⟩, hlen⟩
              · rcases hk' with h | h | h
                · exact hS1.out.fb k' (.inl h)
                · exact hS1.out.fb k' (.inr (.inl h))
                · rcases ho2 k' h with h | h
                  · exact hS1.out.fb k' (.inr (.inr h))
                  · have := hS1.out.bx.lt; omega
              · rw [hlen]
                have h0 := hS1.out.gd
                rw [HK.out] at h0
                exact Good.push h0 (by omega) (by rw [hS1.out.sp.n2]; omega) (by omega) (by show 1 ≤ (bytesOf sb).length ∧ (bytesOf sb).length ≤ 65536; rw [bytesOf_len, hsz]; omega)
            clear hN2 hm2 ho2 P1
            go_wp2
            go_roundg (60 - (k + 1))
            case measure => rw [HGK.out]; omega
            case rel => exact ⟨rv2, P2, _, by rw [G.out.2]; simp, by rw [G.out.2], ⟨G.out.1, by rw [G.out.2]; omega, by rw [G.out.2]; omega, by rw [G.out.2]; omega⟩⟩
  case rest =>
    obtain ⟨rv, P, S, HA⟩ := hcut
    obtain ⟨hA, n1, n2, n3, n4⟩ := HA.out
    obtain ⟨N, hN⟩ : ∃ N, N = S.L.length := ⟨_, rfl⟩
    have HN := hidden hN
    rw [← hN] at n1 n2 n3 n4
    have HNB : Hid (N ≤ len1 ∧ N ≤ len2 ∧ N ≤ 60 ∧ (N = len1 ∨ N = len2 ∨ N = 60)) := ⟨n1, n2, n3, n4⟩
    have HFX : Hid (∀ k, FC t f rv k → k < wc.heap.size) := fun k hk => hA.no.lt hk
    have HBC := hidden hA.bl
    have d10 := hA.bx.cell 10 (v := q3.c.gv) rfl
    have hbl := hA.bx.lt
    have HGV := hidden (HQ3.out.g)
    obtain ⟨ga, gcap, hgv, hgl⟩ := HQ3.out.g.slice
    rw [hgv] at d10
    have HGVE := hidden hgv
    have hbig : q3.gs.length ≤ 1048576 := HL3.out
    have HD10 := hidden d10
    obtain ⟨M, hM⟩ : ∃ M, M = q3.gs.length := ⟨_, rfl⟩
    rw [← hM] at d10 hbig HD10 HGVE
    have HM := hidden hM
    clear hA n1 n2 n3 n4 hN hgv hgl hM
    go_wp2_with fail
    go_loopw [15, 16] (fun v d X => ∃ (k : Nat) (gs : List (Int × Int)), d = .int .i64 (k : Int) ∧ k ≤ M ∧ gs.length ≤ 60 * k ∧ Hid (Below wc.heap.size wc X ∧ GL wc.heap.size X v gs ∧ ∀ g ∈ gs, ∃ kk : Nat, 1 ≤ kk ∧ kk ≤ N ∧ ps (kk - 1) = false ∧ g = ((kk : Int), (kk : Int)))) (fun v d X => M - (intOf d).toNat)
    case atStart => exact ⟨0, [], rfl, Nat.zero_le _, Nat.le_refl _, ⟨Below.refl _ _, GL.nil _ _, fun g hg => by cases hg⟩⟩
    case round =>
      obtain ⟨k, gs, rfl, hk, hgk, HI⟩ := hrel
      have e10 : wr.cell? ⟨w.heap.size, 10, none⟩ = some (.slice ga M gcap) := (HI.out.1.cell (p := ⟨w.heap.size, 10, none⟩) hbl).trans HD10.out
      rcases Nat.lt_or_ge k M with hlt | hge
      · have hlt' : (k : Int) < (M : Int) := by omega
        obtain ⟨gb, go, gcap', s, e, hv, _, hgk', cs1, cs2, s0, s1, g0, g1⟩ := (HGV.out.later (HBC.out.trans (HI.out.1.mono HBC.out.size))).get (k := k) (by rw [← HM.out]; exact hlt)
        rw [HGVE.out, ← HM.out] at hv
        cases hv
        have HGK := hidden hgk
        have HCS := hidden (And.intro cs1 cs2)
        have hwk : IntKind.i64.wrap ((k : Int) + 1) = (k : Int) + 1 := by rw [IntKind.wrap_i64]; omega
        obtain ⟨s', rfl⟩ : ∃ s' : Nat, s = s' := ⟨s.toNat, by omega⟩
        have hgbl : gb < wc.heap.size ∨ wc.heap.size ≤ gb := by omega
        have HS01 := hidden (And.intro s0 (And.intro s1 (And.intro g0 g1)))
        clear hgk' hgk
        go_wp2_with fail
        go_loopw [15, 17] (fun v d X => ∃ (j : Nat) (gs' : List (Int × Int)), d = .int .i64 (j : Int) ∧ j ≤ 65536 ∧ gs'.length ≤ 60 * k + (j - 1) ∧ gs'.length ≤ 60 * k + 60 ∧ Hid (Below wc.heap.size wc X ∧ GL wc.heap.size X v gs' ∧ ∀ g ∈ gs', ∃ kk : Nat, 1 ≤ kk ∧ kk ≤ N ∧ ps (kk - 1) = false ∧ g = ((kk : Int), (kk : Int)))) (fun v d X => 65537 - (intOf d).toNat)
        case atStart => exact ⟨s', gs, rfl, by omega, by have := HGK.out; omega, by have := HGK.out; omega, HI.out⟩
        case round =>
          obtain ⟨j, gs', rfl, hj, hg1, hg2, HJ⟩ := hrel
          have f10 := (HJ.out.1.cell (p := ⟨w.heap.size, 10, none⟩) hbl).trans HD10.out
          obtain ⟨gb2, go2, gcap2, s2, e2, hv2, _, hgk2, _, ce, _⟩ := (HGV.out.later (HBC.out.trans (HJ.out.1.mono HBC.out.size))).get (k := k) (by rw [← HM.out]; exact hlt)
          rw [HGVE.out, ← HM.out] at hv2
          cases hv2
          have HG12 := hidden (And.intro hg1 hg2)
          have hwj : IntKind.i64.wrap ((j : Int) + 1) = (j : Int) + 1 := by rw [IntKind.wrap_i64]; omega
          have hwj1 : IntKind.i64.wrap ((j : Int) - 1) = (j : Int) - 1 := by rw [IntKind.wrap_i64]; omega
          clear hgk2 hg1 hg2
          by_cases q1 : (j : Int) ≤ e2
          · by_cases q2 : (j : Int) - 1 < (len2 : Int)
            · by_cases q3' : (j : Int) - 1 < (len1 : Int)
              · by_cases q4 : (j : Int) ≤ 60
                · rcases Nat.eq_zero_or_pos j with hj0 | hjp
                  · subst hj0
                    have w0 : IntKind.i64.wrap ((0 : Int) - 1) = -1 := by decide
                    have w1 : IntKind.i64.wrap (0 - 1) = -1 := by decide
                    have w2 : IntKind.i64.wrap (-1) = -1 := by decide
                    have v1 : IntKind.i64.wrap ((0 : Int) + 1) = 1 := by decide
                    have v2 : IntKind.i64.wrap (1 : Int) = 1 := by decide
                    have x1 : (-1 : Int) < (len2 : Int) := by omega
                    have x2 : (-1 : Int) < (len1 : Int) := by omega
                    have x3 : (0 : Int) ≤ e2 := q1
                    have HG0 : Hid (gs'.length ≤ 60 * k) := by have := HG12.out; show _ ≤ _; omega
                    clear q1 q2 q3' q4 hwj hwj1 hj
                    go_wp2
                    go_roundw
                    case rel => exact ⟨1, gs', by simp, by decide, by have := HG0.out; omega, by have := HG0.out; omega, HJ.out⟩
                    case measure => simp only [intOf]; omega
                  · have hz : (0 : Int) < (j : Int) := by omega
                    obtain ⟨i, hi⟩ : ∃ i : Nat, (i : Int) = (j : Int) - 1 := ⟨j - 1, by omega⟩
                    obtain ⟨b2, o2, ea2, c2⟩ := bool_at HS2.out (HBC.out.trans (HJ.out.1.mono HBC.out.size)) (j := i) (by omega)
                    subst ea2
                    have HIJ := hidden hi
                    have hwi : IntKind.i64.wrap ((j : Int) - 1) = (i : Int) := by rw [hwj1, hi]
                    have hil2 : (i : Int) < (len2 : Int) := by omega
                    have hil1 : (i : Int) < (len1 : Int) := by omega
                    have HPS0 : Hid (ps i = z2.getD i false) := by rw [HPS.out]; rfl
                    have hu16 : IntKind.u16.wrap (j : Int) = (j : Int) := by show (j : Int) % 65536 = j; omega
                    have HQ4 := hidden q4
                    clear hi hwj1 q2 q3'
                    generalize z2.getD i false = pb at *
                    cases pb with
                    | true =>
                      go_wp2
                      go_roundw
                      case rel => exact ⟨j + 1, gs', by simp, by have := HQ4.out; omega, by have := HG12.out; omega, HG12.out.2, HJ.out⟩
                      case measure => simp only [intOf]; omega
                    | false =>
                      have hN0 : Has (wr.alloc (.cells #[.int .u16 (j : Int), .int .u16 (j : Int)] 65)) wr.heap.size #[.int .u16 (j : Int), .int .u16 (j : Int)] 65 := Has.new _ _ _
                      have hBa : Below wr.heap.size wr (wr.alloc (.cells #[.int .u16 (j : Int), .int .u16 (j : Int)] 65)) := (Below.refl _ _).alloc (Nat.le_refl _) _
                      obtain ⟨v', w2, hr, hGL, hgr⟩ := app_gap (HJ.out.2.1.later hBa) hN0 ⟨by omega, by omega, by omega, by omega⟩ (by have := HG12.out; omega) (by have := HJ.out.1.size; have := hBa.size; omega) 44
                      have HR := hidden hr
                      have G : Hid (Below wc.heap.size wc w2 ∧ GL wc.heap.size w2 v' (gs' ++ [((j : Int), (j : Int))]) ∧ ∀ g ∈ gs' ++ [((j : Int), (j : Int))], ∃ kk : Nat, 1 ≤ kk ∧ kk ≤ N ∧ ps (kk - 1) = false ∧ g = ((kk : Int), (kk : Int))) := by
                        refine ⟨(HJ.out.1.trans (hBa.mono HJ.out.1.size)).grown hgr (by have := HJ.out.1.size; have := hBa.size; omega) (fun j' hj' => (HJ.out.2.1.obj hj').2), hGL, fun g hg => ?_⟩
                        rcases List.mem_append.1 hg with hg | hg
                        · exact HJ.out.2.2 g hg
                        · simp only [List.mem_cons, List.not_mem_nil, or_false] at hg
                          subst hg
                          have hjn : j - 1 = i := by have := HIJ.out; omega
                          exact ⟨j, hjp, by have := HNB.out; have := HIJ.out; have := HQ4.out; omega, by rw [hjn]; exact HPS0.out, rfl⟩
                      clear hr hGL hgr hN0 hBa
                      go_wp2_with (at_builtin; refine Rg.wpList_app rfl _ _ _ rfl rfl rfl HR.out ?_; clear HR)
                      go_wp2
                      go_roundw
                      case rel => exact ⟨j + 1, _, by simp, by have := HQ4.out; omega, by rw [List.length_append]; simp only [List.length_cons, List.length_nil]; have := HG12.out; omega, by rw [List.length_append]; simp only [List.length_cons, List.length_nil]; have := HG12.out; have := HQ4.out; omega, G.out⟩
                      case measure => simp only [intOf]; omega
                · go_wp2
                  go_roundw
                  case rel => exact ⟨k + 1, gs', by simp, by omega, by have := HG12.out; omega, HJ.out⟩
                  case measure => simp only [intOf]; omega
              · go_wp2
                go_roundw
                case rel => exact ⟨k + 1, gs', by simp, by omega, by have := HG12.out; omega, HJ.out⟩
                case measure => simp only [intOf]; omega
            · go_wp2
              go_roundw
              case rel => exact ⟨k + 1, gs', by simp, by omega, by have := HG12.out; omega, HJ.out⟩
              case measure => simp only [intOf]; omega
          · go_wp2
            go_roundw
            case rel => exact ⟨k + 1, gs', by simp, by omega, by have := HG12.out; omega, HJ.out⟩
            case measure => simp only [intOf]; omega
      · obtain rfl : k = M := by omega
        have hnl : ¬ ((k : Int) < (k : Int)) := by omega
        obtain ⟨hB5, hGL5, hP5⟩ := HI.out
        have HGK := hidden hgk
        have HA5 : Hid (SpA w wr q3.c ps t f rv P S.L.length S) := HA.out.1.later hB5
        have CU := hidden (Ob.cum HA5.out.no (by have := HA5.out.gd.len; have := HA5.out.gd.k; omega))
        have HCE : Hid ((nextS S - (S.L.length : Int) - 1) % 4294967296 = S.c) := by have := HA5.out.gd.c0; have := HA5.out.gd.c1; show _ = _; unfold nextS; omega
        rw [HCE.out] at CU
        obtain ⟨va, vcap, hv5⟩ := Ba.own_len hGL5.1
        have HGP := hidden (GL.gpQ hGL5 (by omega))
        have HP5 := hidden hP5
        have HV5 := hidden hv5
        subst hv5
        generalize hgn : gs.length = gn at *
        have HGN := hidden hgn
        have HB5 := hidden hB5
        clear hB5 hGL5 hP5 hgk hgn HI d10
        go_wp2_with fail
        clear e10
        refine Calls.mono CU.out ?_
        rintro e X6 ⟨rfl, m6, hX6⟩
        have hB6 : Below wr.heap.size wr X6 := by rw [hX6]; exact ⟨rfl, rfl, rfl, Nat.le_refl _, fun _ _ => rfl⟩
        have HA6 := hidden (HA5.out.later hB6)
        have HGP6 := hidden (HGP.out.later hB6)
        have h6 := HA6.out.bx
        have c0 := h6.cell 0 (v := .int .u8 q3.c.kd) rfl
        have c2 := h6.cell 2 (v := .int .u32 q3.c.tsn) rfl
        have c10 := h6.cell 10 (v := q3.c.gv) rfl
        have c11 := h6.cell 11 (v := q3.c.nv) rfl
        have cf := h6.frozen
        have cl := h6.lt
        unfold Ck.gv at c10
        unfold Ck.nv at c11
        obtain ⟨C7, hC7⟩ : ∃ C7 : Ck, C7 = { q3.c with kd := 3, tsn := S.c, ga := va, gl := gn, gc := vcap, na := none, nl := 0, nc := 0 } := ⟨_, rfl⟩
        obtain ⟨X7, hX7⟩ : ∃ X7, X7 = (((X6.setCell ⟨w.heap.size, 0, none⟩ (.int .u8 3)).setCell ⟨w.heap.size, 2, none⟩ (.int .u32 S.c)).setCell ⟨w.heap.size, 10, none⟩ (.slice va gn vcap)).setCell ⟨w.heap.size, 11, none⟩ (.slice none 0 0) := ⟨_, rfl⟩
        have h7 : Has X7 w.heap.size (kcs C7) 48 := by
          have hh := (((h6.set 0 (.int .u8 3)).set 2 (.int .u32 S.c)).set 10 (.slice va gn vcap)).set 11 (.slice none 0 0)
          rw [← hX7] at hh
          unfold kcs at hh ⊢
          simp only [List.setIfInBounds_toArray, List.set_cons_zero, List.set_cons_succ] at hh
          rw [hC7]
          exact hh
        have hm7 : Mod (fun k => k = w.heap.size) X6 X7 := by
          rw [hX7]
          exact ((((Mod.refl (fun k => k = w.heap.size) X6).set (p := ⟨w.heap.size, 0, none⟩) rfl _).set (p := ⟨w.heap.size, 2, none⟩) rfl _).set (p := ⟨w.heap.size, 10, none⟩) rfl _).set (p := ⟨w.heap.size, 11, none⟩) rfl _
        have HA7 : Hid (SpA w X7 C7 ps t f rv P S.L.length S) := ⟨HA6.out.no.stay hm7 (fun k hk e => by have := HA6.out.fb k hk; omega) (fun k cur _ hh e => by subst e; exact hh.ne h6 (by decide) rfl), HA6.out.fb, HA6.out.bl.trans (hm7.below HA6.out.bl.size (fun k hk => by omega)), h7, HA6.out.gd, HA6.out.sp⟩
        have HGP7 : Hid (Gp (fun k => wc.heap.size ≤ k ∧ k < wr.heap.size) X7 (.slice va gn vcap) gs) := HGP6.out.stay hm7 (fun k hk e => by have := HBC.out.size; omega)
        have HSZ : Hid (wr.heap.size ≤ X7.heap.size) := Nat.le_trans hB6.size hm7.size
        have HX7 := hidden hX7
        have HC7 := hidden hC7
        obtain ⟨Q, hQ⟩ : ∃ Q : Rq, Q = ⟨3, S.c, gs, []⟩ := ⟨_, rfl⟩
        have HQ := hidden hQ
        have HSQ : Hid (SpQ ps S Q) := by
          rw [hQ]
          refine ⟨rfl, rfl, fun g hg => ?_⟩
          obtain ⟨kk, k1, k2, k3, k4⟩ := HP5.out g hg
          exact ⟨kk, k1, by rw [← HN.out]; exact k2, k3, k4⟩
        have hq1 : C7.kd = 3 := by rw [hC7]
        have hq2 : C7.tsn = S.c := by rw [hC7]
        have hq3 : C7.gv = .slice va gn vcap := by rw [hC7]; rfl
        have hq4 : C7.nv = .slice none 0 0 := by rw [hC7]; rfl
        have HCQ := hidden (And.intro hq1 (And.intro hq2 (And.intro hq3 hq4)))
        clear hB6 h6 h7 hm7 hX7 hC7 hQ hX6 CU hq1 hq2 hq3 hq4 HA5 HA6 HGP6 HGP
        go_upto_region 21 with fail
        rw [← HX7.out]
        clear c0 c2 c10 c11 cf cl
        have HNL : Hid (S.L.length ≤ 60) := by have := HNB.out; have := HN.out; show _ ≤ _; omega
        have HFL := hidden HA.out.1.fb
        obtain ⟨z0, hz0⟩ : ∃ z0, z0 = wr.heap.size := ⟨_, rfl⟩
        have hst : Hid (∃ (rv' : Value) (P' : List CV) (K' : Nat) (S' : St), SpA w X7 C7 ps t f rv' P' K' S' ∧ K' ≤ 60 + 0 ∧ (∀ k, FC t f rv' k → FC t f rv k) ∧ S'.c = S.c ∧ S'.L.length = S.L.length ∧ Gp (fun k => wc.heap.size ≤ k ∧ k < z0) X7 (.slice va gn vcap) gs ∧ z0 ≤ X7.heap.size) :=
          ⟨rv, P, _, S, HA7.out, by have := HNL.out; omega, fun k hk => hk, rfl, rfl, by rw [hz0]; exact HGP7.out, by rw [hz0]; exact HSZ.out⟩
        clear HA7 HGP7 HSZ HX7 hz0
        go_wp2_with fail
        go_loopw [18] (fun d X => ∃ i : Nat, d = .int .i64 (i : Int) ∧ i ≤ 5 ∧ Hid (∃ (rv' : Value) (P' : List CV) (K' : Nat) (S' : St), SpA w X C7 ps t f rv' P' K' S' ∧ K' ≤ 60 + i ∧ (∀ k, FC t f rv' k → FC t f rv k) ∧ S'.c = S.c ∧ S'.L.length = S.L.length ∧ Gp (fun k => wc.heap.size ≤ k ∧ k < z0) X (.slice va gn vcap) gs ∧ z0 ≤ X.heap.size)) (fun d X => 5 - (intOf d).toNat)
        case atStart => exact ⟨0, rfl, by decide, hst.out⟩
        case round =>
          obtain ⟨i, rfl, hi, HI⟩ := hrel
          obtain ⟨rv', P', K', S', hA, hK, hF, hc, hl, hG, hz⟩ := HI.out
          by_cases hlt : (i : Int) < 5
          · have hR : Rp (fun k => wc.heap.size ≤ k ∧ k < z0) wr C7 Q := ⟨by rw [HCQ.out.1, HSQ.out.kd], by rw [HCQ.out.2.1, HSQ.out.ts], by rw [HSQ.out.ts]; exact HA.out.1.gd.c0, by rw [HSQ.out.ts]; exact HA.out.1.gd.c1, by rw [HCQ.out.2.2.1, HQ.out]; exact hG, by rw [HCQ.out.2.2.2, HQ.out]; exact Gp.nil _ _, by rw [HQ.out]; show gs.length ≤ _; have := HGN.out; have := HGK.out; omega, by rw [HQ.out]; exact Nat.zero_le _⟩
            have hS : SpQ ps S' Q := ⟨HSQ.out.kd, HSQ.out.ts.trans hc.symm, by rw [hl]; exact HSQ.out.gs⟩
            have RP := hidden (Ob.report hA.no hA.gd hR (fun k hk => by omega) (now := a4))
            have l0 := hA.bx.cell 0 (v := .int .u8 C7.kd) rfl
            have l1 := hA.bx.cell 1 (v := .int .u8 C7.fg) rfl
            have l2 := hA.bx.cell 2 (v := .int .u32 C7.tsn) rfl
            have l3 := hA.bx.cell 3 (v := .int .u16 C7.sm) rfl
            have l4 := hA.bx.cell 4 (v := .int .u16 C7.sn) rfl
            have l5 := hA.bx.cell 5 (v := .int .u32 C7.pr) rfl
            have l6 := hA.bx.cell 6 (v := .int .u32 C7.tag) rfl
            have l7 := hA.bx.cell 7 (v := .int .u32 C7.win) rfl
            have l8 := hA.bx.cell 8 (v := .int .u16 C7.out) rfl
            have l9 := hA.bx.cell 9 (v := .int .u16 C7.inn) rfl
            have l10 := hA.bx.cell 10 (v := .slice C7.ga C7.gl C7.gc) rfl
            have l11 := hA.bx.cell 11 (v := .slice C7.na C7.nl C7.nc) rfl
            have l12 := hA.bx.cell 12 (v := .slice C7.da C7.dl C7.dc) rfl
            have l13 := hA.bx.cell 13 (v := .slice C7.ba C7.bl C7.bc) rfl
            have l14 := hA.bx.cell 14 (v := .slice C7.pa C7.pl C7.pc) rfl
            have HH := hidden (And.intro hA (And.intro hK (And.intro hF (And.intro hc (And.intro hl (And.intro hG hz))))))
            have HS' := hidden hS
            have hwi : IntKind.i64.wrap ((i : Int) + 1) = (i : Int) + 1 := by rw [IntKind.wrap_i64]; omega
            clear hA hK hF hc hl hG hz HI hR hS
            go_wp2_with fail
            clear l0 l1 l2 l3 l4 l5 l6 l7 l8 l9 l10 l11 l12 l13 l14
            refine Calls.mono RP.out ?_
            rintro e X8 hRe
            have hE := HS'.out.err (by rw [HH.out.2.2.2.2.1]; have := HNL.out; omega) a4
            rcases hRe with ⟨hne, rfl, hB8⟩ | ⟨he0, ap, rfl, hap, hAw, ⟨rv8, ⟨P8, hN8⟩, ho8⟩, hm8⟩
            · have hbad : ¬ (0 ≤ a4 ∧ a4 ≤ 1099511627776) := fun e => by rw [if_pos e] at hE; exact hne hE
              rw [if_neg hbad] at hE
              rw [hE]
              have hbad2 : a4 < 0 ∨ 1099511627776 < a4 := by omega
              have AL : Hid (∀ w, Calls Try.prog 11 #[] w fun e w' => e = .returned (.bool true) ∧ Below w.heap.size w w') := fun w => Ob.alive w
              clear RP hbad hne hE
              rcases Int.lt_or_le a4 0 with hneg | hnn
              · go_wp2_with fail
                refine Calls.mono (AL.out _) ?_
                rintro e x9 ⟨rfl, hB9⟩
                go_wp2
                go_ret
                have b0 : Below w.heap.size w X8 := HH.out.1.bl.trans (hB8.mono HH.out.1.bl.size)
                exact ⟨rfl, (b0.alloc b0.size _).trans (hB9.mono (b0.alloc b0.size _).size)⟩
              · have hneg : ¬ (a4 < 0) := by omega
                have hbig : 1099511627776 < a4 := by omega
                go_wp2_with fail
                refine Calls.mono (AL.out _) ?_
                rintro e x9 ⟨rfl, hB9⟩
                go_wp2
                go_ret
                have b0 : Below w.heap.size w X8 := HH.out.1.bl.trans (hB8.mono HH.out.1.bl.size)
                exact ⟨rfl, (b0.alloc b0.size _).trans (hB9.mono (b0.alloc b0.size _).size)⟩
            · have hak := HS'.out.ak HH.out.1.sp a4
              have h2 := HH.out.1.sp.n2
              rw [h2] at hAw
              have hAk : akV (tlS S' Q) (gdS S' Q) a4 S'.L ((1 : Nat) : Int) = ⟨0, false, -1, 0⟩ := hak
              have kk := hAw.cells (j := 1) (by decide)
              simp only [hAk] at kk
              obtain ⟨k0, k1, k2, k3⟩ := kk
              replace k0 : X8.cell? ⟨ap, 4, none⟩ = some (.int .i64 0) := k0
              replace k1 : X8.cell? ⟨ap, 5, none⟩ = some (.bool false) := k1
              replace k2 : X8.cell? ⟨ap, 6, none⟩ = some (.int .i64 (-1)) := k2
              replace k3 : X8.cell? ⟨ap, 7, none⟩ = some (.int .i64 0) := k3
              have H8 := hidden (And.intro hN8 (And.intro ho8 hm8))
              have H80 := hidden he0
              have hap8 := hAw.lt
              clear RP hE hAw hN8 ho8 hm8 hak he0 hAk
              simp only [h2]
              generalize frV (tlS S' Q) (gdS S' Q) S'.L = fr8
              generalize rnV (tlS S' Q) S'.L = rn8
              go_wp2_with fail
              go_roundw
              case rel =>
                have hF8 : ∀ k, FC t f rv8 k → FC t f rv' k := fun k hk => by
                  rcases hk with h | h | h
                  · exact .inl h
                  · exact .inr (.inl h)
                  · exact .inr (.inr (H8.out.2.1 k h))
                have hK8 := HH.out.2.1
                have hrp := HS'.out.rep HH.out.1.sp
                have G8 : SpA w X8 C7 ps t f rv8 P8 (K' + 1) (repS S' Q) := ⟨H8.out.1, fun k hk => HFL.out k (HH.out.2.2.1 k (hF8 k hk)), HH.out.1.bl.trans (H8.out.2.2.below HH.out.1.bl.size (fun k hk => by have := HFL.out k (HH.out.2.2.1 k hk); omega)), H8.out.2.2.has HH.out.1.bx (fun e => by have := HFL.out _ (HH.out.2.2.1 _ e); omega), Ob.Good.rep HH.out.1.gd (by omega) Q a4 (by rw [HSQ.out.ts]; exact ⟨HA.out.1.gd.c0, HA.out.1.gd.c1⟩) H80.out, hrp.1⟩
                have hBa : Below X8.heap.size X8 (X8.alloc (.cells #[.slice (some ⟨ap, 0, none⟩) 2 2, .int .i64 fr8, .int .i64 rn8] 34)) := (Below.refl _ _).alloc (Nat.le_refl _) _
                exact ⟨i + 1, by simp, by omega, ⟨rv8, P8, K' + 1, repS S' Q, G8.later hBa, by omega, fun k hk => HH.out.2.2.1 k (hF8 k hk), hrp.2.1.trans HH.out.2.2.2.1, hrp.2.2.trans HH.out.2.2.2.2.1, (HH.out.2.2.2.2.2.1.stay H8.out.2.2 (fun k hk e => by have := HFX.out k (HH.out.2.2.1 k e); omega)).later hBa, by have := HH.out.2.2.2.2.2.2; have := H8.out.2.2.size; have := hBa.size; omega⟩⟩
              case measure => simp only [intOf]; omega
          · obtain rfl : i = 5 := by omega
            have AA := hidden (Ob.all hA.no (by rw [hl]; have := HNL.out; omega) (fun x hx => (hA.gd.ch x hx).d1))
            have HH := hidden (And.intro hA hl)
            clear hA hK hF hc hl hG hz HI
            go_wp2_with fail
            refine Calls.mono AA.out ?_
            rintro e x9 ⟨va9, rfl, hT, hB9⟩
            obtain ⟨ps9, hRw, hmap, _, _⟩ := hT
            obtain ⟨aa, ac, rfl, _⟩ := hRw.slice
            have hlen9 : ps9.length = S'.L.length := by rw [← hmap, List.length_map]
            have HLN : Hid (S'.L.length ≤ 60) := by rw [HH.out.2]; exact HNL.out
            have HT := hidden (And.intro hRw hmap)
            rw [hlen9] at hRw ⊢
            have HL9 := hidden hlen9
            generalize hn9 : S'.L.length = n9 at *
            have HN9 := hidden hn9
            have HB9 : Hid (Below w.heap.size w x9) := HH.out.1.bl.trans (hB9.mono HH.out.1.bl.size)
            have AL := hidden (Ob.alive x9)
            clear hRw hmap hB9 AA hlen9 hn9
            go_wp2_with fail
            go_loopw [22] (fun d X => ∃ i : Nat, d = .int .i64 (i : Int) ∧ i ≤ n9 ∧ X = x9) (fun d X => n9 - (intOf d).toNat)
            case atStart => exact ⟨0, rfl, Nat.zero_le _, rfl⟩
            case round =>
              obtain ⟨i, rfl, hi9, rfl⟩ := hrel
              by_cases hlt9 : (i : Int) < (n9 : Int)
              · obtain ⟨y, hy⟩ : ∃ y, ps9[i]? = some y := ⟨_, List.getElem?_eq_getElem (by rw [HL9.out]; omega)⟩
                obtain ⟨g9, o9, hp9⟩ := HT.out.1.place (i := i) (by rw [HL9.out]; omega)
                obtain ⟨hc9, hlg, _⟩ := HT.out.1.cell hp9 hy
                have m1 := hc9 1 _ rfl
                have m4 := hc9 4 _ rfl
                have m6 := hc9 6 _ rfl
                obtain ⟨oo, l9, cp9, e9, ho9⟩ := hp9
                cases e9
                have hyx : S'.L[i]? = some y.x := by rw [← HT.out.2, List.getElem?_map, hy]; rfl
                obtain ⟨q1, q2⟩ := HH.out.1.sp.at_ i _ hyx
                have hwi : IntKind.i64.wrap ((i : Int) + 1) = (i : Int) + 1 := by rw [IntKind.wrap_i64]; have := HLN.out; omega
                rw [ho9] at m1 m4 m6
                rw [q1] at m1
                clear hy hc9 hyx q1 ho9
                generalize ps i = pb at *
                cases pb with
                | false =>
                  simp only [Bool.false_eq_true, if_false] at m1
                  clear q2
                  go_wp2
                  go_roundw
                  case rel => exact ⟨i + 1, by simp, by omega, trivial⟩
                  case measure => simp only [intOf]; omega
                | true =>
                  obtain ⟨q3', q4⟩ := q2 rfl
                  rw [q4] at m4
                  rw [q3'] at m6
                  simp only [if_true] at m1
                  clear q2 q3' q4
                  go_wp2
                  go_roundw
                  case rel => exact ⟨i + 1, by simp, by omega, trivial⟩
                  case measure => simp only [intOf]; omega
              · obtain rfl : i = n9 := by omega
                clear hlt9
                have hlt9 : ¬ ((i : Int) < (i : Int)) := by omega
                go_wp2_with fail
                refine Calls.mono AL.out ?_
                rintro e x10 ⟨rfl, hB10⟩
                go_wp2
                go_ret
                exact ⟨rfl, HB9.out.trans (hB10.mono HB9.out.size)⟩

set_option maxRecDepth 100000 in
theorem contract (H : Type) (enc : TypeId × Value → H) (W : World) (base : Nat) (args : Array Value) (ds gs : List (DataW H)) (before : List MemPlace)
    (hval : ∀ (j : Nat) t v, Try.f5.params[j]? = some t → args[j]? = some v → Value.okWide Try.prog W .any base t v)
    (hW : DataW.Whole enc Try.prog Try.f5.params.toList Rows.outboxSplitSpec.vars false W args.toList ds gs before)
    (hsz0 : (DataW.weightsEach Try.prog (Try.f5.params.toList ++ Rows.outboxSplitSpec.plain.varTypes Try.prog) (ds ++ gs)).all (· ≤ reachBytes) = true) (hk : Rows.uptoSmall H (ds ++ gs) = true) :
    Calls Try.prog 5 args W fun e W' => ∃ v, e = .returned v ∧ Rows.outboxSplitSpec.post enc Try.prog Try.f5 false true false false W args v W' := by
  have hW' := hW
  obtain ⟨p, q, hA0, hV, rfl, hfz, hnd⟩ := hW
  have hA : DataW.TrodAll enc Try.prog W 0 (fun _ => true) true Try.f5.params.toList args.toList ds p := hA0
  have hsz := hsz0
  rw [Try.params5] at hA hval hsz
  obtain ⟨v0, vs0, d0, ds0, p0, q0, hargs, rfl, rfl, h0, r0⟩ := trodAll_cons hA
  obtain ⟨v1, vs1, d1, ds1, p1, q1, rfl, rfl, rfl, h1, r1⟩ := trodAll_cons r0
  obtain ⟨v2, vs2, d2, ds2, p2, q2, rfl, rfl, rfl, h2, r2⟩ := trodAll_cons r1
  obtain ⟨v3, vs3, d3, ds3, p3, q3, rfl, rfl, rfl, h3, r3⟩ := trodAll_cons r2
  obtain ⟨v4, vs4, d4, ds4, p4, q4, rfl, rfl, rfl, h4, r4⟩ := trodAll_cons r3
  obtain ⟨rfl, rfl, rfl⟩ := trodAll_nil r4
  obtain rfl : args = #[v0, v1, v2, v3, v4] := by cases args; simp_all
  obtain ⟨rfl, rfl⟩ := trodVars_none hV
  obtain ⟨a0, rfl, rfl, rfl, w0⟩ := open_int Try.underlying22 (hval 0 22 v0 rfl rfl) h0
  obtain ⟨a1, len1, cap1, rfl⟩ := okWide_slice Try.underlying38 (hval 1 38 v1 rfl rfl)
  have k1 := h1
  have lt1 : ∀ x ∈ p1, x.block < W.heap.size := by obtain ⟨m, hm⟩ := k1; exact DataW.trod_lt m _ _ _ hm
  have sz1 : (d1.weights Try.prog 38).all (· ≤ reachBytes) = true := List.all_eq_true.2 fun m hm => List.all_eq_true.1 hsz m (DataW.weights_mem_each (j := 1) rfl rfl m hm)
  have hbulk0 := of_decide_eq_true hk
  have hbulk1 : Rows.uptoBulk d1 ≤ 1048576 := by
    simp only [List.append_nil, Rows.uptoBulkAll] at hbulk0
    omega
  obtain ⟨z1, w1, s1⟩ : ∃ z1, Ob.Row W a1 len1 z1 ∧ len1 ≤ cap1 ∧ cap1 ≤ 140737488351232 ∧ (a1 = none → len1 = 0 ∧ cap1 = 0) := by
    obtain ⟨fuel, hf⟩ := h1
    exact Ob.row_arg hf sz1
  obtain ⟨a2, len2, cap2, rfl⟩ := okWide_slice Try.underlying60 (hval 2 60 v2 rfl rfl)
  have k2 := h2
  have lt2 : ∀ x ∈ p2, x.block < W.heap.size := by obtain ⟨m, hm⟩ := k2; exact DataW.trod_lt m _ _ _ hm
  have sz2 : (d2.weights Try.prog 60).all (· ≤ reachBytes) = true := List.all_eq_true.2 fun m hm => List.all_eq_true.1 hsz m (DataW.weights_mem_each (j := 2) rfl rfl m hm)
  have hbulk0 := of_decide_eq_true hk
  have hbulk2 : Rows.uptoBulk d2 ≤ 1048576 := by
    simp only [List.append_nil, Rows.uptoBulkAll] at hbulk0
    omega
  obtain ⟨z2, w2, s2⟩ : ∃ z2, Ob.Bools W a2 len2 z2 ∧ True := by
    obtain ⟨fuel, hf⟩ := h2
    obtain ⟨vs, h1⟩ := Ob.bools_arg hf sz2
    exact ⟨vs, h1, trivial⟩
  have k3 := h3
  have lt3 : ∀ x ∈ p3, x.block < W.heap.size := by obtain ⟨m, hm⟩ := k3; exact DataW.trod_lt m _ _ _ hm
  have sz3 : (d3.weights Try.prog 48).all (· ≤ reachBytes) = true := List.all_eq_true.2 fun m hm => List.all_eq_true.1 hsz m (DataW.weights_mem_each (j := 3) rfl rfl m hm)
  have hbulk0 := of_decide_eq_true hk
  have hbulk3 : Rows.uptoBulk d3 ≤ 1048576 := by
    simp only [List.append_nil, Rows.uptoBulkAll] at hbulk0
    omega
  obtain ⟨q3, rfl, w3, s3⟩ : ∃ q : Ob.QA, v3 = Ob.kv q.c ∧ Ob.OkQ W q ∧ q.gs.length ≤ 1048576 := by
    obtain ⟨fuel, hf⟩ := h3
    obtain ⟨q, e, k, hb⟩ := Ob.chunk_arg (hval 3 48 v3 rfl rfl) hf sz3
    exact ⟨q, e, k, Nat.le_trans hb hbulk3⟩
  obtain ⟨a4, rfl, rfl, rfl, w4⟩ := open_int Try.underlying3 (hval 4 3 v4 rfl rfl) h4
  clear hA0 hsz0 hsz
  refine (walk a0 a1 len1 cap1 z1 a2 len2 cap2 z2 q3 a4 W w0 w1 s1 w2 s2 w3 s3 w4).mono fun e W' ⟨he, bel⟩ => ?_
  subst he
  exact ⟨_, rfl, _, _, _, [], _, [], hW', trodAll_mk1 (shut_bool Try.underlying4 _), (trodAll_cons_mk (shut_int Try.underlying22 w0) (trodAll_cons_mk (Below.trod laidOut (by kernel_rfl) (of_decide_eq_true (by kernel_rfl)) k1 bel lt1) (trodAll_cons_mk (Below.trod laidOut (by kernel_rfl) (of_decide_eq_true (by kernel_rfl)) k2 bel lt2) (trodAll_cons_mk (Below.trod laidOut (by kernel_rfl) (of_decide_eq_true (by kernel_rfl)) k3 bel lt3) (trodAll_cons_mk (shut_int Try.underlying3 w4) trodAll_mk0))))), rfl, bel.frame _, fun h => by cases h⟩

noncomputable def laidWorld (os : Os) : World :=
  World.holding Try.prog os ⟨#[], #[], []⟩
set_option maxRecDepth 100000 in
theorem laid_met (os : Os) : laidMet Try.prog Rows.outboxSplitUptoRow.laid ((laidWorld os).forCall (fun _ _ => 0) ⟨#[], #[.int .u32 0, .slice none 0 0, .slice none 0 0, .agg #[.int .u8 0, .int .u8 0, .int .u32 0, .int .u16 0, .int .u16 0, .int .u32 0, .int .u32 0, .int .u32 0, .int .u16 0, .int .u16 0, .slice none 0 0, .slice none 0 0, .slice none 0 0, .slice none 0 0, .slice none 0 0], .int .i64 0], []⟩).memory :=
  laidMet_of_run' 8 (by kernel_rfl) (by kernel_rfl)
set_option maxRecDepth 100000 in
theorem reads (os : Os) {H : Type} (enc : TypeId × Value → H) : ∃ places, DataW.whole enc Try.prog ((laidWorld os).forCall (fun _ _ => 0) ⟨#[], #[.int .u32 0, .slice none 0 0, .slice none 0 0, .agg #[.int .u8 0, .int .u8 0, .int .u32 0, .int .u16 0, .int .u16 0, .int .u32 0, .int .u32 0, .int .u32 0, .int .u16 0, .int .u16 0, .slice none 0 0, .slice none 0 0, .slice none 0 0, .slice none 0 0, .slice none 0 0], .int .i64 0], []⟩).memory Try.f5.params.toList Rows.outboxSplitSpec.vars false #[Value.int .u32 0, Value.slice none 0 0, Value.slice none 0 0, Value.agg #[.int .u8 0, .int .u8 0, .int .u32 0, .int .u16 0, .int .u16 0, .int .u32 0, .int .u32 0, .int .u32 0, .int .u16 0, .int .u16 0, .slice none 0 0, .slice none 0 0, .slice none 0 0, .slice none 0 0, .slice none 0 0], Value.int .i64 0].toList 8 = some ([.lit (.int .u32 0), .nil, .nil, .agg [.lit (.int .u8 0), .lit (.int .u8 0), .lit (.int .u32 0), .lit (.int .u16 0), .lit (.int .u16 0), .lit (.int .u32 0), .lit (.int .u32 0), .lit (.int .u32 0), .lit (.int .u16 0), .lit (.int .u16 0), .nil, .nil, .nil, .nil, .nil], .lit (.int .i64 0)], [], places) :=
  ⟨[], by kernel_rfl⟩

set_option maxRecDepth 100000 in
theorem lifted (os : Os) (started : os.Started) (H : Type) (enc : TypeId × Value → H) (F : Stop.Interp) :
    ReturnsInHanded {} Try.checked os 5 .any ((Rows.OpenSpec.upto Rows.outboxSplitSpec).preRow enc Try.prog Try.f5 Rows.outboxSplitUptoRow.domain false Rows.outboxSplitUptoRow.laid) (((Rows.OpenSpec.upto Rows.outboxSplitSpec).at F).post enc Try.prog Try.f5 false true false false) := by
  obtain ⟨places, hx⟩ := reads os enc
  refine returnsInHanded_of_row (C := Try.checked) (s := Rows.OpenSpec.upto Rows.outboxSplitSpec) own started (by kernel_rfl) Try.func5
    (witness_row_at (enc := enc) (C := Try.checked) false (laidWorld os) #[.int .u32 0, .slice none 0 0, .slice none 0 0, .agg #[.int .u8 0, .int .u8 0, .int .u32 0, .int .u16 0, .int .u16 0, .int .u32 0, .int .u32 0, .int .u32 0, .int .u16 0, .int .u16 0, .slice none 0 0, .slice none 0 0, .slice none 0 0, .slice none 0 0, .slice none 0 0], .int .i64 0] rfl (by kernel_rfl) (by kernel_rfl) (by kernel_rfl)
      (OpenSpec.preRow_of_cond 8 hx (by kernel_rfl) (fun k hk => by cases hk; kernel_rfl) (by kernel_rfl) (laid_met os))) ?_
  intro W base args ds gs before hval hW _ hcond hsz hL _ _
  exact contract H enc W base args ds gs before hval hW hsz (hcond _ rfl)

set_option maxRecDepth 100000 in
theorem said : Rows.OutboxSplitUptoSaid :=
  OpenClaim.holds_of_cond 5 Try.f5 rfl rfl rfl rfl rfl rfl rfl ⟨rfl, rfl, rfl, rfl, rfl⟩ rfl rfl rfl rfl rfl (by kernel_rfl) Try.func5 (by kernel_rfl)
    (of_decide_eq_true (by kernel_rfl)) (by unfold Func.isWrapper; first | (rw [if_pos (by decide +kernel)]; kernel_rfl) | (rw [if_neg (by decide +kernel)]; exact ⟨rfl, rfl⟩))
    (fun os started H enc _ F => by rw [OpenClaim.pre_eq_preRow]; exact lifted os started H enc F)

/-- THE STATEMENT -/
theorem proved : Rows.OutboxSplitUptoSaid := said
#print axioms proved
end Go.Proofs.Ytjceeckcfjjkkaa.outboxSplit
