/-
  The pieces of several messages in a row are these messages.
  Conditions: those of the statement: what comes in holds together at most 1048576 values and letters.
-/
import Derived.Test.YteomkmbaoaahoaaRows
import Derived.WalkKit
import Derived.ProofKit
import Derived.OpenShut
import Derived.ShutString
import Derived.ChangeOld
import Derived.Below
import Derived.SizedLaws
import Derived.Deep.DeepHandedRow
import Derived.LaidLaws
import Derived.ChangeMaps5
import Derived.Test.YteomkmbaoaahoaaFrO
import Derived.Test.YteomkmbaoaahoaaFrL
import Derived.Test.YteomkmbaoaahoaaFrArgs
namespace Go.Proofs.Yteomkmbaoaahoaa.fragRow
open Go.ChangeShapes Go.WideShapes Go.ChangeAt Go.RowKit
open Go.ChangeMaps (open_string shut_string)
set_option linter.unusedVariables false

theorem own : ownKnob Try.prog.godebug = none := by kernel_rfl
theorem laidOut : laidOutB Try.prog = true := by kernel_rfl

set_option maxHeartbeats 4000000 in

theorem walk (a0 : Option Addr) (len0 cap0 : Nat) (z0 : List ByteArray) (a1 : Int) (w : World) (w0 : Fr.Strs w a0 len0 z0) (s0 : (z0.map (·.size)).sum ≤ 1048576 ∧ len0 ≤ 1048576) (w1 : (Lit.int .i64 a1).wf = true) :
    Calls Try.prog 7 #[.slice a0 len0 cap0, .int .i64 a1] w fun e w' => e = .returned (.bool true) ∧ Below w.heap.size w w' := by
  obtain ⟨sb, sn⟩ := s0
  have H0 := Ba.hidden w0
  have HSB : Hid (∀ k, Fr.sz z0 k ≤ 1048576) := fun k => Nat.le_trans (Fr.sz_le z0 k) sb
  have hzl : z0.length = len0 := w0.1
  clear w0 sb
  go_enter Try.func7, Try.ntmps7
  go_wp2_with fail
  go_loopw [5, 6, 7] (fun va vw i wr => ∃ (k : Nat) (ps : List Fr.P) (ts : List Fr.T), k ≤ len0 ∧ i = .int .i64 k ∧ Hid (Fr.Far z0 k ps ts) ∧ Hid (Fr.LP w.heap.size wr va ps) ∧ Hid (Fr.LH w.heap.size wr vw ts) ∧ Hid (Below w.heap.size w wr)) (fun _ _ i _ => len0 - (intOf i).toNat)
  case atStart => exact ⟨0, [], [], Nat.zero_le _, rfl, Fr.Far.zero _, Fr.LP.nil _ _, Fr.LH.nil _ _, Below.refl _ _⟩
  case round =>
    obtain ⟨k, ps, ts, hk, rfl, FA, MP, MH, HB⟩ := hrel
    rcases Nat.lt_or_ge k len0 with hlt | hge
    · have hki : (k : Int) < len0 := by omega
      obtain ⟨b, off, s, rfl, hs, c0⟩ := (H0.out.later HB.out).get hlt
      have hss : s.size ≤ 1048576 := by
        have h1 := HSB.out (k + 1)
        rw [Fr.sz_next hs] at h1
        omega
      obtain ⟨cp, w1, hcv, hh, b1⟩ := Fr.conv_str wr s hss
      obtain ⟨g1, cp1, e1, hrow, hcap⟩ := hh.row
      rw [Fr.bytesOf_len] at e1 hrow hcap
      cases e1
      have HS := Ba.hidden hs
      have HB1 := Ba.hidden (HB.out.trans (b1.mono HB.out.size))
      have hbl := Fr.bytesOf_len s
      by_cases hbad : (a1 < 1 ∨ 65536 < a1 ∨ (s.size : Int) < 1) ∨ (65536 : Int) < s.size
      · have CU : ∃ er : Int, ¬ er = 0 ∧ Calls Try.prog 9 #[.slice (some ⟨wr.heap.size, 0, none⟩) s.size cp, .int .i64 a1] w1 (fun e w' => e = .returned (.tuple #[.slice none 0 0, .int .i64 er]) ∧ w1 = w') := by
          by_cases h1 : a1 < 1 ∨ 65536 < a1 ∨ (s.size : Int) < 1
          · exact ⟨1, by decide, Fr.cut_arg (by omega) h1⟩
          · exact ⟨2, by decide, Fr.cut_long (by omega) (by omega) (by omega) (by omega)⟩
        obtain ⟨er, her, CU⟩ := CU
        have HCU := Ba.hidden CU
        have FIN : Hid (∃ (k' : Nat) (ps' : List Fr.P) (ts' : List Fr.T), k' ≤ len0 ∧ Value.int .i64 ((k : Int) + 1) = .int .i64 k' ∧ Hid (Fr.Far z0 k' ps' ts') ∧ Hid (Fr.LP w.heap.size w1 u5 ps') ∧ Hid (Fr.LH w.heap.size w1 u6 ts') ∧ Hid (Below w.heap.size w w1)) := ⟨k + 1, ps, ts, by omega, by go_num, FA.out.skip HS.out, MP.out.later b1, MH.out.later b1, HB1.out⟩
        clear FA MP MH HB HS hs hh b1 hrow HB1 CU hbad hbl
        generalize s.size = Z at *
        go_wp2_with fail
        refine Calls.mono HCU.out ?_
        rintro e w2 ⟨rfl, rfl⟩
        go_wp2
        go_roundw
        case rel => exact FIN.out
        case measure => simp [intOf]; omega
      · obtain ⟨n, hn⟩ : ∃ n : Nat, a1 = (n : Int) := ⟨a1.toNat, by omega⟩
        have HCU := Ba.hidden (Fr.cut_ok (n := n) hrow hcap (by omega) (by omega) (by omega) (by omega))
        rw [← hn] at HCU
        have FAM : Hid (∀ (qs : List Fr.P) (u : Value), qs.map Fr.pval = Fr.cutV (Fr.bytesOf s) n → Fr.Far z0 (k + 1) (ps ++ qs) (ts ++ [(u, Fr.bytesOf s)])) := fun qs u hq => FA.out.more HS.out (by omega) (by omega) (by omega) hq u
        have hql : Hid (∀ qs : List Fr.P, qs.map Fr.pval = Fr.cutV (Fr.bytesOf s) n → 0 < qs.length ∧ qs.length ≤ 65536) := fun qs hq => by
          have e := congrArg List.length hq
          rw [List.length_map, Fr.cutV_len, hbl] at e
          have h1 := Fr.cnt_le (len := s.size) (n := n) (by omega)
          have h2 := Fr.cnt_pos (len := s.size) (n := n) (by omega) (by omega)
          omega
        have hps : ps.length ≤ 1048576 := Nat.le_trans FA.out.2.1 (HSB.out k)
        have hts : ts.length ≤ 1048576 := by have := FA.out.2.2; omega
        have MP1 := Ba.hidden (MP.out.later b1)
        have MH1 := Ba.hidden (MH.out.later b1)
        have CV : Hid (∀ x : World, ∃ cp w', (convert 9 22 (.string s)).run Try.prog x = .ok (.slice (some ⟨x.heap.size, 0, none⟩) s.size cp) w' ∧ Fr.Held x.heap.size w' (.slice (some ⟨x.heap.size, 0, none⟩) s.size cp) (Fr.bytesOf s) ∧ Below x.heap.size x w') := fun x => Fr.conv_str x s hss
        clear FA MP MH HB hs hh b1 hrow hbad hn
        go_wp2_with fail
        refine Calls.mono HCU.out ?_
        rintro e w2 ⟨v, qs, rfl, hp, hv, b2⟩
        obtain ⟨q1, q2⟩ := hql.out qs hv
        obtain ⟨gq, cq, rfl, hgq, _⟩ := Ba.own_some hp.1 q1
        have hbs := HB1.out.size
        have hs2 := b2.size
        obtain ⟨v3, w3, hrun3, m3, g3⟩ := Fr.app_pieces (c := cq) (m := qs.length) (qs := qs) (ad := ⟨gq, 0, none⟩) (MP1.out.later b2) (fun p hp' => (hp.2 p hp').le hbs) rfl (fun j u hj => hp.1.cells (g := gq) rfl j u hj) (.inl q1) (by omega) (by omega)
        have B3 : Below w.heap.size w w3 := (HB1.out.trans (b2.mono hbs)).grown g3 (by omega) (fun j hj => (MP1.out.1.lt j hj).1)
        have MH3 := Ba.hidden ((MH1.out.later b2).beside (MP1.out.later b2) g3)
        have MP3 := Ba.hidden m3
        have HB3 := Ba.hidden B3
        obtain ⟨_, _, s', e5, hs', c3⟩ := (H0.out.later B3).get hlt
        cases e5
        rw [HS.out] at hs'
        cases hs'
        obtain ⟨cp4, w4, hcv4, hh4, b4⟩ := CV.out w3
        have hB5 : Below w4.heap.size w4 (w4.alloc (.cells #[.slice (some ⟨w3.heap.size, 0, none⟩) s.size cp4] 22)) := (Below.refl _ w4).alloc (Nat.le_refl _) _
        have hs3 := B3.size
        have hs4 := b4.size
        have hs5 := hB5.size
        obtain ⟨v6, w6, hrun6, m6, g6⟩ := Fr.app_held (c := 1) (q := (.slice (some ⟨w3.heap.size, 0, none⟩) s.size cp4, Fr.bytesOf s)) (g := w4.heap.size) (o := 0) ((MH3.out.later b4).later hB5) ((hh4.later hB5).le (by omega)) ((Ba.Has.new w4 #[.slice (some ⟨w3.heap.size, 0, none⟩) s.size cp4] 22).cell 0 rfl) (by omega) (by omega)
        have MP6 := Ba.hidden ((((MP3.out.later b4).later hB5)).beside ((MH3.out.later b4).later hB5) g6)
        have B6 : Below w.heap.size w w6 := ((B3.trans (b4.mono hs3)).trans (hB5.mono (by omega))).grown g6 (by omega) (fun j hj => (MH3.out.1.lt j hj).1)
        have FIN : Hid (∃ (k' : Nat) (ps' : List Fr.P) (ts' : List Fr.T), k' ≤ len0 ∧ Value.int .i64 ((k : Int) + 1) = .int .i64 k' ∧ Hid (Fr.Far z0 k' ps' ts') ∧ Hid (Fr.LP w.heap.size w6 v3 ps') ∧ Hid (Fr.LH w.heap.size w6 v6 ts') ∧ Hid (Below w.heap.size w w6)) := ⟨k + 1, _, _, by omega, by go_num, FAM.out qs _ hv, MP6.out, m6, B6⟩
        have HR3 := Ba.hidden hrun3
        have HR6 := Ba.hidden hrun6
        clear HCU FAM hql MP1 MH1 CV hp hv b2 g3 m3 MH3 MP3 HB3 b4 hh4 hB5 m6 g6 MP6 B6 hrun3 hrun6 HS HB1 hbs hs2 hs3 hs4 hs5 hps hts B3 hbl hcv
        generalize s.size = Z at *
        go_wp2_with (at_builtin; first | (refine Rg.wpList_app rfl _ _ _ rfl rfl rfl HR3.out ?_; clear HR3) | (refine Rg.wpList_app rfl _ _ _ rfl rfl rfl HR6.out ?_; clear HR6))
        go_wp2
        go_roundw
        case rel => exact FIN.out
        case measure => simp [intOf]; omega
    · obtain rfl : k = len0 := by omega
      have hps : ps.length ≤ 1048576 := Nat.le_trans FA.out.2.1 (HSB.out k)
      have hts : ts.length ≤ 1048576 := by have := FA.out.2.2; omega
      obtain ⟨pa, pc, rfl, hp, hpc⟩ := MP.out.row (by omega)
      have RU := Ba.hidden (Fr.runs hp hpc)
      have HRO : Hid (Fr.RO (ps.map Fr.pval) (ts.map (·.2)) 0 0 0) := .inr ⟨_, FA.out.1, rfl, rfl, rfl, rfl⟩
      obtain ⟨ta, tc, rfl⟩ := MH.out.form
      clear hp hpc MP FA
      generalize ps.length = PL at *
      go_wp2_with fail
      refine Calls.mono RU.out ?_
      rintro e w1 ⟨v, ts', left, i, er, rfl, hj, hm, b1⟩
      obtain ⟨e1, rfl, rfl, rfl⟩ := hj.unique HRO.out
      have hlen : ts'.length = ts.length := by
        have := congrArg List.length e1
        rw [List.length_map, List.length_map] at this
        exact this
      obtain ⟨a', c', rfl, hr'⟩ := hm.txs (by omega)
      obtain ⟨a2, c2, e2, hr⟩ := (MH.out.later b1).txs (by omega)
      cases e2
      rw [hlen, e1] at hr'
      rw [hlen]
      have TX := Ba.hidden (Fr.rtexts (pcap := c') (qcap := tc) hr' hr)
      have HB2 := Ba.hidden (HB.out.trans (b1.mono HB.out.size))
      clear hj hm hr hr' b1 RU HB MH e1 hlen HRO
      generalize ts.length = L at *
      go_wp2_with fail
      refine Calls.mono TX.out ?_
      rintro e w3 ⟨rfl, b3⟩
      have HB3 := Ba.hidden (HB2.out.trans (b3.mono HB2.out.size))
      clear b3 HB2 TX
      go_wp2_with fail
      refine Calls.mono (Fr.alive _) ?_
      rintro e w4 ⟨rfl, b4⟩
      have HB4 := Ba.hidden (HB3.out.trans (b4.mono HB3.out.size))
      clear b4 HB3
      go_wp2
      go_ret
      exact ⟨rfl, HB4.out⟩

theorem contract (H : Type) (enc : TypeId × Value → H) (W : World) (base : Nat) (args : Array Value) (ds gs : List (DataW H)) (before : List MemPlace)
    (hval : ∀ (j : Nat) t v, Try.f7.params[j]? = some t → args[j]? = some v → Value.okWide Try.prog W .any base t v)
    (hW : DataW.Whole enc Try.prog Try.f7.params.toList Rows.fragRowSpec.vars false W args.toList ds gs before)
    (hsz0 : (DataW.weightsEach Try.prog (Try.f7.params.toList ++ Rows.fragRowSpec.plain.varTypes Try.prog) (ds ++ gs)).all (· ≤ reachBytes) = true) (hk : Rows.uptoSmall H (ds ++ gs) = true) :
    Calls Try.prog 7 args W fun e W' => ∃ v, e = .returned v ∧ Rows.fragRowSpec.post enc Try.prog Try.f7 false true false false W args v W' := by
  have hW' := hW
  obtain ⟨p, q, hA0, hV, rfl, hfz, hnd⟩ := hW
  have hA : DataW.TrodAll enc Try.prog W 0 (fun _ => true) true Try.f7.params.toList args.toList ds p := hA0
  have hsz := hsz0
  rw [Try.params7] at hA hval hsz
  obtain ⟨v0, vs0, d0, ds0, p0, q0, hargs, rfl, rfl, h0, r0⟩ := trodAll_cons hA
  obtain ⟨v1, vs1, d1, ds1, p1, q1, rfl, rfl, rfl, h1, r1⟩ := trodAll_cons r0
  obtain ⟨rfl, rfl, rfl⟩ := trodAll_nil r1
  obtain rfl : args = #[v0, v1] := by cases args; simp_all
  obtain ⟨rfl, rfl⟩ := trodVars_none hV
  obtain ⟨a0, len0, cap0, rfl⟩ := okWide_slice Try.underlying50 (hval 0 50 v0 rfl rfl)
  have k0 := h0
  have lt0 : ∀ x ∈ p0, x.block < W.heap.size := by obtain ⟨m, hm⟩ := k0; exact DataW.trod_lt m _ _ _ hm
  have sz0 : (d0.weights Try.prog 50).all (· ≤ reachBytes) = true := List.all_eq_true.2 fun m hm => List.all_eq_true.1 hsz m (DataW.weights_mem_each (j := 0) rfl rfl m hm)
  have hbulk0 := of_decide_eq_true hk
  have hbulk0 : Rows.uptoBulk d0 ≤ 1048576 := by
    simp only [List.append_nil, Rows.uptoBulkAll] at hbulk0
    omega
  obtain ⟨z0, w0, s0⟩ : ∃ z0, Fr.Strs W a0 len0 z0 ∧ (z0.map (·.size)).sum ≤ 1048576 ∧ len0 ≤ 1048576 := by
    obtain ⟨fuel, hf⟩ := h0
    obtain ⟨vs, h1, h2, h3⟩ := Fr.strs_arg hf sz0
    exact ⟨vs, h1, Nat.le_trans h2 hbulk0, Nat.le_trans h3 hbulk0⟩
  obtain ⟨a1, rfl, rfl, rfl, w1⟩ := open_int Try.underlying3 (hval 1 3 v1 rfl rfl) h1
  clear hA0 hsz0 hsz
  refine (walk a0 len0 cap0 z0 a1 W w0 s0 w1).mono fun e W' ⟨he, bel⟩ => ?_
  subst he
  exact ⟨_, rfl, _, _, _, [], _, [], hW', trodAll_mk1 (shut_bool Try.underlying4 _), (trodAll_cons_mk (Below.trod laidOut (by kernel_rfl) (of_decide_eq_true (by kernel_rfl)) k0 bel lt0) (trodAll_cons_mk (shut_int Try.underlying3 w1) trodAll_mk0)), rfl, bel.frame _, fun h => by cases h⟩

noncomputable def laidWorld (os : Os) : World :=
  World.holding Try.prog os ⟨#[], #[], []⟩
theorem laid_met (os : Os) : laidMet Try.prog Rows.fragRowUptoRow.laid ((laidWorld os).forCall (fun _ _ => 0) ⟨#[], #[.slice none 0 0, .int .i64 0], []⟩).memory :=
  laidMet_of_run' 8 (by kernel_rfl) (by kernel_rfl)
theorem reads (os : Os) {H : Type} (enc : TypeId × Value → H) : ∃ places, DataW.whole enc Try.prog ((laidWorld os).forCall (fun _ _ => 0) ⟨#[], #[.slice none 0 0, .int .i64 0], []⟩).memory Try.f7.params.toList Rows.fragRowSpec.vars false #[Value.slice none 0 0, Value.int .i64 0].toList 8 = some ([.nil, .lit (.int .i64 0)], [], places) :=
  ⟨[], by kernel_rfl⟩

set_option maxRecDepth 100000 in
theorem lifted (os : Os) (started : os.Started) (H : Type) (enc : TypeId × Value → H) (F : Stop.Interp) :
    ReturnsInHanded {} Try.checked os 7 .any ((Rows.OpenSpec.upto Rows.fragRowSpec).preRow enc Try.prog Try.f7 Rows.fragRowUptoRow.domain false Rows.fragRowUptoRow.laid) (((Rows.OpenSpec.upto Rows.fragRowSpec).at F).post enc Try.prog Try.f7 false true false false) := by
  obtain ⟨places, hx⟩ := reads os enc
  refine returnsInHanded_of_row (C := Try.checked) (s := Rows.OpenSpec.upto Rows.fragRowSpec) own started (by kernel_rfl) Try.func7
    (witness_row_at (enc := enc) (C := Try.checked) false (laidWorld os) #[.slice none 0 0, .int .i64 0] rfl (by kernel_rfl) (by kernel_rfl) (by kernel_rfl)
      (OpenSpec.preRow_of_cond 8 hx (by kernel_rfl) (fun k hk => by cases hk; kernel_rfl) (by kernel_rfl) (laid_met os))) ?_
  intro W base args ds gs before hval hW _ hcond hsz hL _ _
  exact contract H enc W base args ds gs before hval hW hsz (hcond _ rfl)

theorem said : Rows.FragRowUptoSaid :=
  OpenClaim.holds_of_cond 7 Try.f7 rfl rfl rfl rfl rfl rfl rfl ⟨rfl, rfl, rfl, rfl, rfl⟩ rfl rfl rfl rfl rfl (by kernel_rfl) Try.func7 (by kernel_rfl)
    (of_decide_eq_true (by kernel_rfl)) (by unfold Func.isWrapper; first | (rw [if_pos (by decide +kernel)]; kernel_rfl) | (rw [if_neg (by decide +kernel)]; exact ⟨rfl, rfl⟩))
    (fun os started H enc _ F => by rw [OpenClaim.pre_eq_preRow]; exact lifted os started H enc F)

/-- THE STATEMENT -/
theorem proved : Rows.FragRowUptoSaid := said
#print axioms proved
end Go.Proofs.Yteomkmbaoaahoaa.fragRow
