/-
  Nothing is shared: a part that is changed behind its Put, and a chunk that is changed behind All, change nothing of the box, for every row of bytes.
  Conditions: none.
-/
import Derived.Test.YtjceeckcfjjkkaaRows
import Derived.WalkKit
import Derived.ProofKit
import Derived.OpenShut
import Derived.ShutString
import Derived.ChangeOld
import Derived.Below
import Derived.SizedLaws
import Derived.Deep.DeepHandedRow
import Derived.LaidLaws
import Derived.ChangeMaps5
import Derived.Test.YtjceeckcfjjkkaaOcB
import Derived.Test.YtjceeckcfjjkkaaAg
import Derived.Test.YtjceeckcfjjkkaaOcArgs
namespace Go.Proofs.Ytjceeckcfjjkkaa.outboxOwn
open Go.ChangeShapes Go.WideShapes Go.ChangeAt Go.RowKit
open Go.ChangeMaps (open_string shut_string)
set_option linter.unusedVariables false

theorem own : ownKnob Try.prog.godebug = none := by kernel_rfl
theorem laidOut : laidOutB Try.prog = true := by kernel_rfl

open Ba (hidden Has cell_lt)
open Ob
set_option maxRecDepth 20000 in
set_option maxHeartbeats 4000000 in

theorem walk (a0 : Int) (a1 : Option Addr) (len1 cap1 : Nat) (z1 : List Int) (w : World) (w0 : (Lit.int .u32 a0).wf = true) (w1 : Ob.Row w a1 len1 z1) (s1 : len1 ≤ cap1 ∧ cap1 ≤ 140737488351232 ∧ (a1 = none → len1 = 0 ∧ cap1 = 0)) :
    Calls Try.prog 7 #[.int .u32 a0, .slice a1 len1 cap1] w fun e w' => e = .returned (.bool true) ∧ Below w.heap.size w w' := by
  obtain ⟨s1, s2, s3⟩ := s1
  have N := hidden (Ob.new (fun _ => False) a0 1 (Ob.u32_bounds w0) (by decide) (by decide) w)
  have hl := w1.1
  have HR0 := hidden w1
  have HNIL := hidden s3
  clear w0 w1 s1 s2 s3
  go_enter Try.func7, Try.ntmps7
  go_wp2_with fail
  refine Calls.mono N.out ?_
  rintro e x1 ⟨t, rfl, ⟨F, ⟨f, rv, P, hN, hFF⟩, hF⟩, hB1⟩
  have hF1 : ∀ k, FC t f rv k → w.heap.size ≤ k := fun k hk => hF k ((hFF k).2 hk)
  obtain ⟨nx, hnx⟩ : ∃ nx, nx = nextS (newS a0 1) := ⟨_, rfl⟩
  have hN1 : No (fun _ => False) x1 t f rv P nx 1 [] (fun k => fl [] k) (Ob.mk []) := by rw [hnx]; exact hN
  have H1 := hidden (And.intro hN1 (And.intro hF1 hB1))
  obtain ⟨g, vc, x3, hrun, hm3, hB3, hg1, hg2⟩ := own_copy (cap := cap1) (HR0.out.later hB1) HNIL.out
  have HRUN := hidden hrun
  have hN3 : No (fun k => k ≠ g) x3 t f rv P nx 1 [] (fun k => fl [] k) (Ob.mk []) := (hN1.later hB3).named (fun k cur hd _ => hd.elim)
  have H3 := hidden (And.intro hN3 (And.intro hF1 (hB1.trans (hB3.mono hB1.size))))
  have HM3 := hidden hm3
  have HG := hidden (And.intro (Nat.le_trans hB1.size hg1) hg2)
  have hrow3 : Row x3 (some ⟨g, 0, none⟩) len1 z1 := by
    obtain ⟨a, c, e, hr, _⟩ := hm3.row
    cases e
    exact hl ▸ hr
  clear hN hFF hF hN1 hF1 hB1 N hrun hm3 hB3 hg1 hg2 hN3 hnx H1
  by_cases hbad : len1 < 1 ∨ 65536 < len1
  · have hP : Hid (Calls Try.prog 17 #[.pointer (some ⟨t, 0, none⟩), .int .i64 0, pv 0 0 0 false false false (some ⟨g, 0, none⟩) len1 vc, .int .i64 0] x3 fun e w' => e = .returned (.tuple #[.int .u32 0, .int .i64 1]) ∧ Below x3.heap.size x3 w') := by
      rcases hbad with h | h
      · exact put_few H3.out.1 0 0 0 0 0 false false false _ _ _ (by decide) (by decide) h
      · exact put_many H3.out.1 0 0 0 0 0 false false false _ _ _ (by decide) (by decide) h
    have HBAD := hidden hbad
    clear hrow3 hbad
    go_wp2_with (at_builtin; refine Rg.wpList_app rfl _ _ _ rfl rfl rfl HRUN.out ?_; clear HRUN)
    go_wp2_with fail
    refine Calls.mono hP.out ?_
    rintro e x4 ⟨rfl, hB4⟩
    have HB4 := hidden (H3.out.2.2.trans (hB4.mono H3.out.2.2.size))
    have AL := hidden (Ob.alive x4)
    clear hB4 hP
    by_cases h0 : len1 = 0
    · subst h0
      go_wp2_with fail
      refine Calls.mono AL.out ?_
      rintro e x5 ⟨rfl, hB5⟩
      go_wp2
      go_ret
      exact ⟨rfl, HB4.out.trans (hB5.mono HB4.out.size)⟩
    · have hbig : decide ((65536 : Int) < (len1 : Int)) = true := decide_eq_true (by have := HBAD.out; omega)
      have hn0 : ((len1 : Int) == 0) = false := by simp [h0]
      go_wp2_with fail
      refine Calls.mono AL.out ?_
      rintro e x5 ⟨rfl, hB5⟩
      go_wp2
      go_ret
      exact ⟨rfl, HB4.out.trans (hB5.mono HB4.out.size)⟩
  · have HP := hidden (put_ok H3.out.1 ⟨by decide, fun x hx => by cases hx⟩ (by decide) (fun k hk e => by have := HG.out.2; omega) 0 0 (by decide) (by decide) 0 0 0 false false false g 0 len1 vc z1 hrow3 (by omega) (by omega))
    have HBAD := hidden hbad
    clear hrow3 hbad
    go_wp2_with (at_builtin; refine Rg.wpList_app rfl _ _ _ rfl rfl rfl HRUN.out ?_; clear HRUN)
    go_wp2_with fail
    refine Calls.mono HP.out ?_
    rintro e x4 ⟨rfl, rv4, P4, hN4, hm4, ho4⟩
    simp only [List.nil_append] at hN4
    have hF4 : ∀ k, FC t f rv4 k → w.heap.size ≤ k := fun k hk => by
      rcases hk with hk | hk | hk
      · exact H3.out.2.1 k (.inl hk)
      · exact H3.out.2.1 k (.inr (.inl hk))
      · rcases ho4 k hk with h | h
        · exact H3.out.2.1 k (.inr (.inr h))
        · exact Nat.le_trans H3.out.2.2.size h
    have hm4' : Mine x1.heap.size x4 (.slice (some ⟨g, 0, none⟩) len1 vc) z1 := HM3.out.stay hm4 (fun k hk e => by obtain ⟨cur, h5, _⟩ := HM3.out.obj hk; exact H3.out.1.bytes h5 e)
    obtain ⟨cur4, hcur4, _, hgs, hgc⟩ := hm4'.block hl
    have H4 := hidden (And.intro hN4 (And.intro hF4 (H3.out.2.2.trans (hm4.below H3.out.2.2.size (fun k hk => H3.out.2.1 k hk)))))
    have HC4 : Hid (Has x4 g cur4 5 ∧ len1 ≤ cur4.size ∧ ∀ j, j < len1 → cur4[j]? = some (.int .u8 (z1.getD j 0))) := ⟨hcur4, hgs, hgc⟩
    obtain ⟨y, hy⟩ : ∃ y : Ch, y = ⟨nx, 0, 1, 0, 0, false, 1, ⟨0, 0, 0, false, z1, false, false⟩⟩ := ⟨_, rfl⟩
    rw [← hy] at H4
    have HY := hidden hy
    clear hN4 hF4 hm4 ho4 hm4' hcur4 hgs hgc HP HM3 hy H3
    go_wp2_with fail
    go_loopw [52] (fun d wr => ∃ (k : Nat), d = .int .i64 (k : Int) ∧ k ≤ len1 ∧ Hid ((∃ cur, Has wr g cur 5 ∧ len1 ≤ cur.size ∧ ∀ j, k ≤ j → j < len1 → cur[j]? = some (.int .u8 (z1.getD j 0))) ∧ No (fun k => k ≠ g) wr t f rv4 P4 ((nx + 1) % 4294967296) 1 [y] (fun k => fl [y] k) (Ob.mk [y]) ∧ Below w.heap.size w wr)) (fun d wr => len1 - (intOf d).toNat)
    case atStart => exact ⟨0, rfl, Nat.zero_le _, ⟨⟨cur4, HC4.out.1, HC4.out.2.1, fun j _ hj => HC4.out.2.2 j hj⟩, H4.out.1, H4.out.2.2⟩⟩
    case round =>
    obtain ⟨k, rfl, hk, HI⟩ := hrel
    rcases Nat.lt_or_ge k len1 with hklt | hkge
    · have hlt : (k : Int) < (len1 : Int) := by omega
      obtain ⟨⟨cur, hcu, hsz, hcc⟩, hno, hbl⟩ := HI.out
      have c1 := hcu.cell k (hcc k (Nat.le_refl _) hklt)
      have f1 := hcu.frozen k
      generalize z1.getD k 0 = zz at *
      have hw3 : IntKind.i64.wrap ((k : Int) + 1) = (k : Int) + 1 := by rw [IntKind.wrap_i64]; have := HR0.out.2.2.1; omega
      clear hcu hsz hcc hno hbl
      go_wp2
      go_roundw
      case rel =>
        obtain ⟨⟨cur, hcu, hsz, hcc⟩, hno, hbl⟩ := HI.out
        refine ⟨k + 1, by simp, by omega, ⟨⟨_, hcu.set k _, by simpa using hsz, fun j hj hjl => ?_⟩, hno.stay (F := fun k => k = g) (Mod.setCell (F := fun k => k = g) wr (p := ⟨g, k, none⟩) rfl _) (fun k hk e => by subst e; exact hno.bytes hcu hk) (fun k cur hd _ e => hd e), hbl.setCell (p := ⟨g, k, none⟩) HG.out.1 _⟩⟩
        rw [Array.getElem?_setIfInBounds, if_neg (by omega)]
        exact hcc j (by omega) hjl
      case measure => simp only [intOf]; omega
    · have hnlt : ¬ ((k : Int) < (len1 : Int)) := by omega
      obtain ⟨_, hno, hbl⟩ := HI.out
      have hy1 : y.p.d = z1 := by rw [HY.out]
      have AL := hidden (Ob.all hno (by simp) (fun x hx => by simp at hx; subst hx; rw [hy1, hl]; have := HBAD.out; omega))
      have HI2 := hidden (And.intro hno hbl)
      have HY1 := hidden hy1
      clear hno hbl HI HC4 H4 hy1
      go_wp2_with fail
      refine Calls.mono AL.out ?_
      rintro e x5 ⟨v, rfl, ⟨ps, hrw, hmap, hmine, hown⟩, hB5⟩
      have hpl : ps.length = 1 := by rw [← List.length_map (f := fun p : CV => p.x), hmap]; rfl
      obtain ⟨p0, rfl⟩ : ∃ p0, ps = [p0] := by
        match ps, hpl with
        | [p0], _ => exact ⟨p0, rfl⟩
      have hp0 : p0.x = y := by simpa using hmap
      have hm0 := hmine p0 (by simp)
      rw [hp0, HY1.out] at hm0
      obtain ⟨gl, oo, cp, hv, hgl, hcp, _⟩ := hrw.open (by simp)
      have c11 := (hrw.cell (i := 0) (g := gl) (o := oo + 0 * 14) ⟨oo, _, _, hv, rfl⟩ rfl).1 11 _ rfl
      simp only [Nat.zero_mul, Nat.add_zero] at c11
      obtain ⟨a2, cap2, hv0, hrow0, _⟩ := hm0.row
      rw [hl] at hv0
      obtain ⟨g2, o2, rfl⟩ := hrow0.open (by rw [hl]; have := HBAD.out; omega)
      have ho2 : o2 = 0 := by
        rcases hm0.1.2 with ⟨e, _⟩ | ⟨g', cap', cur', e, _⟩
        · rw [hv0] at e; cases e
        · rw [hv0] at e; cases e; rfl
      subst ho2
      rw [hv0] at c11 hm0
      have hg2 : g2 < x5.heap.size ∧ wr.heap.size ≤ g2 := by
        obtain ⟨cu, h5, h6⟩ := hm0.obj (k := g2) rfl
        exact ⟨h5.lt, h6⟩
      rw [hl] at hrow0
      have HCO : Hid (∀ j, (convert 38 9 (.slice (some ⟨g2, 0, none⟩) len1 cap2)).run Try.prog (x5.drewN j) = .ok (.string (strOfNums z1)) (x5.drewN j)) := fun j => Row.conv (w := x5.drewN j) (hrow0.later ⟨rfl, rfl, rfl, Nat.le_refl _, fun _ _ => rfl⟩) cap2
      have HBx : Hid (Below w.heap.size w x5) := HI2.out.2.trans (hB5.mono HI2.out.2.size)
      have HCD : Hid (∀ j, (convert 38 9 (.slice a1 len1 cap1)).run Try.prog (x5.drewN j) = .ok (.string (strOfNums z1)) (x5.drewN j)) := fun j => Row.conv (w := x5.drewN j) ((HR0.out.later HBx.out).later ⟨rfl, rfl, rfl, Nat.le_refl _, fun _ _ => rfl⟩) cap1
      have hco := HCO.out
      have hcd := HCD.out
      have hN5 : No (fun k => k ≠ g ∧ k < wr.heap.size) x5 t f rv4 P4 ((nx + 1) % 4294967296) 1 [y] (fun k => fl [y] k) (Ob.mk [y]) := (HI2.out.1.named (fun k cur hd hh => ⟨hd, hh.lt⟩)).later hB5
      obtain ⟨cur5, hc5, hb5, hs5, hz5⟩ := hm0.block hl
      have hown0 : wr.heap.size ≤ gl := hown gl (by rw [hv]; rfl)
      have hrt : ∃ curl, Has x5 gl curl 59 := hrw.obj (by rw [hv]; rfl)
      have HRT := hidden hrt
      have HGG := hidden (And.intro hg2 (And.intro hown0 hgl))
      obtain ⟨S0, hS0⟩ : ∃ S0, S0 = wr.heap.size := ⟨_, rfl⟩
      have HS0 := hidden hS0
      rw [← hS0] at hN5
      have H5 := hidden (And.intro hN5 (And.intro hc5 hs5))
      have HC11 := hidden c11
      have hln : ¬ ((1 : Int) = 2) := by decide
      subst hv
      simp only [List.length_cons, List.length_nil, Nat.zero_add] at hcp ⊢
      clear hrw hmap hmine hown hpl hp0 hv0 hrow0 hN5 hc5 hb5 hs5 hz5 hown0 hrt hm0 AL hB5 hg2 hln hS0
      go_wp2_with fail
      go_quiet (fail)
      obtain ⟨x6, hx6⟩ : ∃ x6, x6 = x5.drewN nq := ⟨_, rfl⟩
      have hB6 : Below x5.heap.size x5 x6 := by rw [hx6]; exact ⟨rfl, rfl, rfl, Nat.le_refl _, fun _ _ => rfl⟩
      rw [← hx6]
      have H6 := hidden (And.intro (H5.out.1.later hB6) (And.intro (H5.out.2.1.later hB6) (HBx.out.trans (hB6.mono HBx.out.size))))
      have hHL6 : ∃ curl, Has x6 gl curl 59 := by obtain ⟨curl, hh⟩ := HRT.out; exact ⟨curl, hh.later hB6⟩
      have c12 : x6.cell? ⟨gl, oo + 11, none⟩ = some (.slice (some ⟨g2, 0, none⟩) len1 cap2) := (hB6.cell (cell_lt HC11.out)).trans HC11.out
      have HS6 := hidden (And.intro c12 hHL6)
      have d11 := c12
      clear hx6 hB6 hHL6 c12 c11 hco hcd HCO HCD
      go_wp2_with fail
      go_loopw [88] (fun d wr => ∃ (q : Nat), d = .int .i64 (q : Int) ∧ q ≤ len1 ∧ Hid ((∃ cur, Has wr g2 cur 5 ∧ len1 ≤ cur.size) ∧ No (fun k' => k' ≠ g ∧ k' < S0) wr t f rv4 P4 ((nx + 1) % 4294967296) 1 [y] (fun k => fl [y] k) (Ob.mk [y]) ∧ Below w.heap.size w wr ∧ wr.cell? ⟨gl, oo + 11, none⟩ = some (.slice (some ⟨g2, 0, none⟩) len1 cap2) ∧ ∃ curl, Has wr gl curl 59)) (fun d wr => len1 - (intOf d).toNat)
      case atStart => exact ⟨0, rfl, Nat.zero_le _, ⟨⟨cur5, H6.out.2.1, H5.out.2.2⟩, H6.out.1, H6.out.2.2, HS6.out.1, HS6.out.2⟩⟩
      case round =>
      obtain ⟨q, rfl, hq, HI⟩ := hrel
      rcases Nat.lt_or_ge q len1 with hqlt | hqge
      · have hlt : (q : Int) < (len1 : Int) := by omega
        obtain ⟨⟨cur, hcu, hsz⟩, hno, hbl, hc11, hrl⟩ := HI.out
        obtain ⟨zv, hzv⟩ : ∃ zv, cur[q]? = some zv := ⟨_, Array.getElem?_eq_getElem (by omega)⟩
        have c1 := hcu.cell q hzv
        have f1 := hcu.frozen q
        have hw3 : IntKind.i64.wrap ((q : Int) + 1) = (q : Int) + 1 := by rw [IntKind.wrap_i64]; have := HR0.out.2.2.1; omega
        clear hcu hsz hno hbl hrl hzv
        go_wp2
        go_roundw
        case rel =>
          obtain ⟨⟨cur, hcu, hsz⟩, hno, hbl, hc11, curl, hrl⟩ := HI.out
          have hm : Mod (fun k => k = g2) wr (wr.setCell ⟨g2, q, none⟩ (.int .u8 0)) := Mod.setCell (F := fun k => k = g2) wr (p := ⟨g2, q, none⟩) rfl _
          have hne : gl ≠ g2 := fun e => by subst e; exact hrl.ne hcu (by decide) rfl
          refine ⟨q + 1, by simp, by omega, ⟨⟨_, hcu.set q _, by simpa using hsz⟩, hno.stay hm (fun k hk e => by subst e; exact hno.bytes hcu hk) (fun k cur hd _ e => by have := hd.2; have := HGG.out.1.2; have := HS0.out; omega), hbl.setCell (p := ⟨g2, q, none⟩) (by have := HGG.out.1.2; have := HI2.out.2.size; show w.heap.size ≤ g2; omega) _, hm.cell hc11 hne, curl, hm.has hrl hne⟩⟩
        case measure => simp only [intOf]; omega
      · have hnlt : ¬ ((q : Int) < (len1 : Int)) := by omega
        obtain ⟨_, hno, hbl, _, _⟩ := HI.out
        have FI := hidden (Ob.first hno ⟨by simp, fun x hx => by simp at hx; subst hx; rw [HY1.out, hl, HY.out]; exact ⟨by have := HBAD.out; omega, by simp, by simp⟩⟩ (fun x hx => by simp at hx; subst hx; rw [HY1.out, hl]; have := HBAD.out; omega) 0)
        have HB8 := hidden hbl
        clear hno hbl HI H6 HS6 H5
        go_wp2_with fail
        refine Calls.mono FI.out ?_
        rintro e x9 ⟨u, b, rfl, hto, hB9⟩
        rcases hto with ⟨i, x, v, hfst, rfl, rfl, hm⟩ | ⟨_, _, hno⟩
        · have hx : x = y := by have := List.mem_of_getElem? hfst.1; simpa using this
          subst hx
          rw [HY1.out] at hm
          obtain ⟨a3, cap3, hv3, hrow3, _⟩ := hm.row
          rw [hl] at hv3 hrow3
          subst hv3
          obtain ⟨x10, hx10⟩ : ∃ x10, x10 = x9.alloc (.cells #[.int .u32 x.ts, .int .i64 x.pa, .int .i64 x.ti, .int .i64 x.se, .int .i64 x.mi, .bool x.qu, .int .i64 x.st, .int .u16 x.p.sm, .int .u16 x.p.sn, .int .u32 x.p.pr, .bool x.p.un, .slice a3 len1 cap3, .bool x.p.bg, .bool x.p.en] 59) := ⟨_, rfl⟩
          have hB10 : Below x9.heap.size x9 x10 := by rw [hx10]; exact (Below.refl _ _).alloc (Nat.le_refl _) _
          have HB10 : Hid (Below w.heap.size w x10) := (HB8.out.trans (hB9.mono HB8.out.size)).trans (hB10.mono (by have := HB8.out.size; have := hB9.size; omega))
          have hh : Has x10 x9.heap.size #[.int .u32 x.ts, .int .i64 x.pa, .int .i64 x.ti, .int .i64 x.se, .int .i64 x.mi, .bool x.qu, .int .i64 x.st, .int .u16 x.p.sm, .int .u16 x.p.sn, .int .u32 x.p.pr, .bool x.p.un, .slice a3 len1 cap3, .bool x.p.bg, .bool x.p.en] 59 := by rw [hx10]; exact Has.new _ _ _
          have e11 := hh.cell 11 rfl
          have hco : (convert 38 9 (.slice a3 len1 cap3)).run Try.prog x10 = .ok (.string (strOfNums z1)) x10 := Row.conv (hrow3.later hB10) cap3
          have hcd : (convert 38 9 (.slice a1 len1 cap1)).run Try.prog x10 = .ok (.string (strOfNums z1)) x10 := Row.conv (HR0.out.later HB10.out) cap1
          have AL := hidden (Ob.alive x10)
          have HX10 := hidden hx10
          clear hm hrow3 hfst hB9 hB10 hh hx10 FI
          unfold ov
          go_upto_region 22 with fail
          rw [← HX10.out]
          go_wp2_with fail
          refine Calls.mono AL.out ?_
          rintro e x11 ⟨rfl, hB11⟩
          go_wp2
          go_ret
          exact ⟨rfl, HB10.out.trans (hB11.mono HB10.out.size)⟩
        · exact absurd ⟨by rw [HY.out], by rw [HY.out]⟩ (hno y (by simp))

set_option maxRecDepth 100000 in
theorem contract (H : Type) (enc : TypeId × Value → H) (W : World) (base : Nat) (args : Array Value) (ds gs : List (DataW H)) (before : List MemPlace)
    (hval : ∀ (j : Nat) t v, Try.f7.params[j]? = some t → args[j]? = some v → Value.okWide Try.prog W .any base t v)
    (hW : DataW.Whole enc Try.prog Try.f7.params.toList Rows.outboxOwnSpec.vars false W args.toList ds gs before)
    (hsz0 : (DataW.weightsEach Try.prog (Try.f7.params.toList ++ Rows.outboxOwnSpec.plain.varTypes Try.prog) (ds ++ gs)).all (· ≤ reachBytes) = true) :
    Calls Try.prog 7 args W fun e W' => ∃ v, e = .returned v ∧ Rows.outboxOwnSpec.post enc Try.prog Try.f7 false true false false W args v W' := by
  have hW' := hW
  obtain ⟨p, q, hA0, hV, rfl, hfz, hnd⟩ := hW
  have hA : DataW.TrodAll enc Try.prog W 0 (fun _ => true) true Try.f7.params.toList args.toList ds p := hA0
  have hsz := hsz0
  rw [Try.params7] at hA hval hsz
  obtain ⟨v0, vs0, d0, ds0, p0, q0, hargs, rfl, rfl, h0, r0⟩ := trodAll_cons hA
  obtain ⟨v1, vs1, d1, ds1, p1, q1, rfl, rfl, rfl, h1, r1⟩ := trodAll_cons r0
  obtain ⟨rfl, rfl, rfl⟩ := trodAll_nil r1
  obtain rfl : args = #[v0, v1] := by cases args; simp_all
  obtain ⟨rfl, rfl⟩ := trodVars_none hV
  obtain ⟨a0, rfl, rfl, rfl, w0⟩ := open_int Try.underlying22 (hval 0 22 v0 rfl rfl) h0
  obtain ⟨a1, len1, cap1, rfl⟩ := okWide_slice Try.underlying38 (hval 1 38 v1 rfl rfl)
  have k1 := h1
  have lt1 : ∀ x ∈ p1, x.block < W.heap.size := by obtain ⟨m, hm⟩ := k1; exact DataW.trod_lt m _ _ _ hm
  have sz1 : (d1.weights Try.prog 38).all (· ≤ reachBytes) = true := List.all_eq_true.2 fun m hm => List.all_eq_true.1 hsz m (DataW.weights_mem_each (j := 1) rfl rfl m hm)
  obtain ⟨z1, w1, s1⟩ : ∃ z1, Ob.Row W a1 len1 z1 ∧ len1 ≤ cap1 ∧ cap1 ≤ 140737488351232 ∧ (a1 = none → len1 = 0 ∧ cap1 = 0) := by
    obtain ⟨fuel, hf⟩ := h1
    exact Ob.row_arg hf sz1
  clear hA0 hsz0 hsz
  refine (walk a0 a1 len1 cap1 z1 W w0 w1 s1).mono fun e W' ⟨he, bel⟩ => ?_
  subst he
  exact ⟨_, rfl, _, _, _, [], _, [], hW', trodAll_mk1 (shut_bool Try.underlying4 _), (trodAll_cons_mk (shut_int Try.underlying22 w0) (trodAll_cons_mk (Below.trod laidOut (by kernel_rfl) (of_decide_eq_true (by kernel_rfl)) k1 bel lt1) trodAll_mk0)), rfl, bel.frame _, fun h => by cases h⟩

noncomputable def laidWorld (os : Os) : World :=
  World.holding Try.prog os ⟨#[], #[], []⟩
set_option maxRecDepth 100000 in
theorem laid_met (os : Os) : laidMet Try.prog Rows.outboxOwnRow.laid ((laidWorld os).forCall (fun _ _ => 0) ⟨#[], #[.int .u32 0, .slice none 0 0], []⟩).memory :=
  laidMet_of_run' 8 (by kernel_rfl) (by kernel_rfl)
set_option maxRecDepth 100000 in
theorem reads (os : Os) {H : Type} (enc : TypeId × Value → H) : ∃ places, DataW.whole enc Try.prog ((laidWorld os).forCall (fun _ _ => 0) ⟨#[], #[.int .u32 0, .slice none 0 0], []⟩).memory Try.f7.params.toList Rows.outboxOwnSpec.vars false #[Value.int .u32 0, Value.slice none 0 0].toList 8 = some ([.lit (.int .u32 0), .nil], [], places) :=
  ⟨[], by kernel_rfl⟩

set_option maxRecDepth 100000 in
theorem lifted (os : Os) (started : os.Started) (H : Type) (enc : TypeId × Value → H) (F : Stop.Interp) :
    ReturnsInHanded {} Try.checked os 7 .any ((OpenSpec.ofChange Rows.outboxOwnSpec).preRow enc Try.prog Try.f7 Rows.outboxOwnRow.domain false Rows.outboxOwnRow.laid) (((OpenSpec.ofChange Rows.outboxOwnSpec).at F).post enc Try.prog Try.f7 false true false false) := by
  obtain ⟨places, hx⟩ := reads os enc
  refine returnsInHanded_of_row (C := Try.checked) (s := OpenSpec.ofChange Rows.outboxOwnSpec) own started (by kernel_rfl) Try.func7
    (witness_row_at (enc := enc) (C := Try.checked) false (laidWorld os) #[.int .u32 0, .slice none 0 0] rfl (by kernel_rfl) (by kernel_rfl) (by kernel_rfl)
      (OpenSpec.preRow_of_cond 8 hx (by kernel_rfl) (fun k hk => by cases hk) (by kernel_rfl) (laid_met os))) ?_
  intro W base args ds gs before hval hW _ hcond hsz hL _ _
  exact contract H enc W base args ds gs before hval hW hsz

set_option maxRecDepth 100000 in
theorem said : Rows.OutboxOwnSaid :=
  OpenClaim.holds_of_cond 7 Try.f7 rfl rfl rfl rfl rfl rfl rfl ⟨rfl, rfl, rfl, rfl, rfl⟩ rfl rfl rfl rfl rfl (by kernel_rfl) Try.func7 (by kernel_rfl)
    (of_decide_eq_true (by kernel_rfl)) (by unfold Func.isWrapper; first | (rw [if_pos (by decide +kernel)]; kernel_rfl) | (rw [if_neg (by decide +kernel)]; exact ⟨rfl, rfl⟩))
    (fun os started H enc _ F => by rw [OpenClaim.pre_eq_preRow]; exact lifted os started H enc F)

/-- THE STATEMENT -/
theorem proved : Rows.OutboxOwnSaid := said
#print axioms proved
end Go.Proofs.Ytjceeckcfjjkkaa.outboxOwn
