/-
  The rows of a bundle.
  Conditions: chunks that may be and that fit; the cells hold them.
-/
import Derived.Test.YtmnndkhdekpecaaGreatDoorPkV
namespace Go.Proofs.YtmnndkhdekpecaaGreatDoor.Pkt
open Go.ChangeShapes Go.WideShapes Go.ChangeAt Go.RowKit
open Chu (Ch Ck Cks Chk val cv cc ccs ld Lies Lsts Gaps Fours Bx gcs dcs zck Nums Av AvC gr_set gr_trans gr_own gr_below clen tot)
open Par (hidden Bytes Row Prm Prms One cell_lt)
set_option linter.unusedVariables false
set_option maxRecDepth 20000
attribute [local go_sem ↓] Chu.execOp_ld Chu.execOp_bx Chu.execOp_st Chu.execOp_bs
attribute [local go_sem] Chu.run_box Chu.run_bsl

/-- rows' values -/
def rvs (R : List (Value × List Ck)) : List (List Ch) := R.map fun r => r.2.map val
theorem len_tot (vs : List Ch) : 4 * vs.length ≤ tot vs := by
  induction vs with
  | nil => simp [tot]
  | cons v vs ih =>
    have h1 := Chu.clen_pos v
    have h2 : tot (v :: vs) = clen v + tot vs := by simp [tot]
    rw [h2, List.length_cons]
    omega
theorem TgA.bel {U w : World} {c d : Ck} {cs : List Nat} {x : Value × Value} {L : Nat → Bool} (h : StM cs (TgA U c d) x L w) : Below U.heap.size U w := by
  obtain ⟨k, _, _, h⟩ := h
  exact h.1
theorem rows_len {m : Int} {vs : List Ch} {s : Bs} {R : List (Value × List Ck)} (h : BI m vs s) (hR : rvs R = rowsOf s) (hm : m ≤ 1500) : ∀ r ∈ R, r.2.length ≤ 1000000 := by
  intro r hr
  have h1 : r.2.map val ∈ rowsOf s := by rw [← hR]; exact List.mem_map.2 ⟨r, hr, rfl⟩
  have h2 := (h.each _ h1).2.1
  have h3 := len_tot (r.2.map val)
  rw [List.length_map] at h3
  omega
theorem cur_of {s : Bs} {R : List (Value × List Ck)} {rv : Value} {l : List Ck} (h : rvs (R ++ [(rv, l)]) = rowsOf s) : s.1 = rvs R ∧ s.2.1 = l.map val := by
  have e : rvs (R ++ [(rv, l)]) = rvs R ++ [l.map val] := by simp [rvs]
  rw [e] at h
  by_cases hc : s.2.1 = []
  · rw [rows_nil hc] at h
    simp at h
  · rw [rows_cur hc] at h
    obtain ⟨h1, h2⟩ := List.append_inj' h rfl
    exact ⟨h1.symm, by simpa using h2.symm⟩
theorem RL.last {n cb len cap : Nat} {a : Option Addr} {R : List (Value × List Ck)} {w : World} (h : RL n cb (.slice a len cap) R w) (hne : R ≠ []) (hl : ∀ r ∈ R, r.2.length ≤ 1000000) : ∃ R0 g hh rcap c0 lr, R = R0 ++ [(.slice (some ⟨hh, 0, none⟩) (lr.length + 1) rcap, c0 :: lr)] ∧ a = some ⟨g, 0, none⟩ ∧ n ≤ g ∧ g < w.heap.size ∧ w.cell? ⟨g, R0.length, none⟩ = some (.slice (some ⟨hh, 0, none⟩) (lr.length + 1) rcap) ∧ (∀ w', Below w.heap.size w w' → (ld (.pointer (some ⟨hh, 0, none⟩))).run Tryz.prog w' = .ok (cv c0) w') ∧ Chk (min n cb) w c0 := by
  obtain ⟨R0, r, rfl⟩ : ∃ R0 r, R = R0 ++ [r] := ⟨_, _, (List.dropLast_concat_getLast hne).symm⟩
  have hr : r ∈ R0 ++ [r] := by simp
  obtain ⟨rv, l⟩ := r
  have h1 := hl _ hr
  obtain ⟨ra, rcap, e, hck⟩ := h.row hr (by omega)
  simp only at e hck h1
  have hl0 := (h.2.1 _ hr).1
  have how := (h.2.1 _ hr).2
  simp only at hl0 how
  cases l with
  | nil => exact absurd rfl hl0
  | cons c0 lr =>
    obtain ⟨g, e1, e2, h2, h3, h4, _⟩ := h.cell (k := R0.length) (r := (rv, c0 :: lr)) (by simp)
    obtain ⟨hh, rc, e3, _, _, _⟩ := own_some how (by simp)
    obtain ⟨b, off, c, e4, h5, h6, h7⟩ := hck.get (k := 0) (by simp)
    obtain rfl : c0 = c := by simpa using h5
    rw [e3] at e
    cases e
    cases e4
    subst e3
    refine ⟨R0, g, hh, rcap, c0, lr, rfl, e1, h2, h3, h4, fun w' hb => ?_, h7⟩
    obtain ⟨b', off', c', e5, h8, h9, _⟩ := (hck.later hb).get (k := 0) (by simp)
    obtain rfl : c0 = c' := by simpa using h8
    cases e5
    simpa using h9
theorem RL.grow' {n cb g cap len : Nat} {rv rv2 : Value} {R R0 : List (Value × List Ck)} {l : List Ck} {w w1 w2 : World} {c : Ck} (h : RL n cb (.slice (some ⟨g, 0, none⟩) len cap) R w) (hRe : R = R0 ++ [(rv, l)]) (hlen : len = R0.length + 1) (hb : Below w.heap.size w w1) (hc : Chk cb w1 c) (ha : ∀ g, n ≤ g → g < w.heap.size → AvC (some g) c)
    (ho : w2.ownsRow n 59 15 rv2 (l.length + 1) (ccs l ++ (cc c).toList)) (hg : w1.grownBy w2 rv.ownBlock) (hw : rv2.ownBlock = rv.ownBlock ∨ rv2.ownBlock = some w1.heap.size) :
    RL n cb (.slice (some ⟨g, 0, none⟩) len cap) (R0 ++ [(rv2, l ++ [c])]) (w2.setCell ⟨g, R0.length, none⟩ rv2) := by
  subst hRe
  subst hlen
  exact h.grow hb hc ha ho hg hw
/-- the list's cell while its last row grows -/
theorem GrA.cell {n cb cb' g cap len : Nat} {K : Ck → Prop} {R R0 : List (Value × List Ck)} {rv : Value} {l : List Ck} {c : Ck} {U w : World} {x : Value × Value × Value} (h : GrA n cb' K U g R0.length c rv l 3 x w) (hR : RL n cb (.slice (some ⟨g, 0, none⟩) len cap) R U) (hRe : R = R0 ++ [(rv, l)]) : (∃ v0, w.cell? ⟨g, R0.length, none⟩ = some v0) ∧ w.frozen? ⟨g, R0.length, none⟩ = false ∧ ∃ a k q, x.2.2 = .slice a k q := by
  obtain ⟨c', w1, w2, e, h1, h2, h3, h4, h5, h6, _⟩ := h.2.2.2 (by decide)
  obtain rfl := h6 rfl
  subst hRe
  have hR1 := hR.later h1
  have hrow := (hR1.2.1 (rv, l) (by simp)).2
  obtain ⟨g', e1, e2, _, hg2, hc, hf⟩ := hR1.cell (k := R0.length) (r := (rv, l)) (by simp)
  cases e1
  have hne : some g ≠ rv.ownBlock := by
    rcases own_diff hR1.1 hrow (by decide) with h0 | h0
    · cases h0
    · exact h0
  have hbl := h4.block g hg2 hne
  obtain ⟨a, q, e3, _⟩ := own_lies h3
  exact ⟨⟨_, (World.cell?_of_block (w := w1) (a := ⟨g, R0.length, none⟩) hbl).trans hc⟩, (World.frozen?_of_block (w := w1) (a := ⟨g, R0.length, none⟩) hbl).trans hf, a, _, q, e3⟩
theorem infoCs : (Tryz.prog.info? 24).map (fun i => (i.zero, i.size, i.bytes)) = some (some (.slice none 0 0), 1, 24) := by kernel_rfl
theorem bun_yes {m : Int} {vs : List Ch} {k : Nat} {v : Ch} {R0 : List (Value × List Ck)} {rv rv2 : Value} {l : List Ck} {c : Ck} (hv : vs[k]? = some v) (hm : more (bun m (vs.take k)) v) (hR : rvs (R0 ++ [(rv, l)]) = rowsOf (bun m (vs.take k))) (hc : val c = v) : rvs (R0 ++ [(rv2, l ++ [c])]) = rowsOf (bun m (vs.take (k + 1))) ∧ (bun m (vs.take (k + 1))).2.2 = (bun m (vs.take k)).2.2 - clen v := by
  obtain ⟨h1, h2⟩ := cur_of hR
  rw [bun_snoc hv, bst_yes hm]
  refine ⟨?_, rfl⟩
  rw [rows_cur (by simp), h1, h2, ← hc]
  simp [rvs]
theorem bun_no {m : Int} {vs : List Ch} {k : Nat} {v : Ch} {R : List (Value × List Ck)} {rv : Value} {c : Ck} (hv : vs[k]? = some v) (hm : ¬ more (bun m (vs.take k)) v) (hR : rvs R = rowsOf (bun m (vs.take k))) (hc : val c = v) : rvs (R ++ [(rv, [c])]) = rowsOf (bun m (vs.take (k + 1))) ∧ (bun m (vs.take (k + 1))).2.2 = m - 12 - clen v := by
  rw [bun_snoc hv, bst_no hm]
  refine ⟨?_, rfl⟩
  rw [rows_cur (by simp), ← hR, ← hc]
  simp [rvs]
theorem av_fresh {n : Nat} {w w1 : World} {c : Ck} (h : Lsts w.heap.size w1 c) : ∀ g, n ≤ g → g < w.heap.size → AvC (some g) c :=
  fun g _ hg => Chu.avC_of h (fun b u off hb _ e => by cases e; omega)
theorem mixed2 (a b : Ch) : ¬ Mixed [a, b] ↔ ¬ alone a.kind ∧ ¬ alone b.kind := by
  constructor
  · intro h
    exact ⟨fun e => h ⟨by simp, a, by simp, e⟩, fun e => h ⟨by simp, b, by simp, e⟩⟩
  · rintro ⟨h1, h2⟩ ⟨_, u, hu, ha⟩
    simp only [List.mem_cons, List.not_mem_nil, or_false] at hu
    rcases hu with rfl | rfl
    · exact h1 ha
    · exact h2 ha
theorem bun_len {m : Int} {vs : List Ch} {s : Bs} (h : BI m vs s) : (rowsOf s).length ≤ vs.length := by
  have hf := h.flat
  have he := h.each
  generalize rowsOf s = rs at hf he
  clear h
  subst hf
  induction rs with
  | nil => simp
  | cons r rs ih =>
    have h1 := (he r (by simp)).1
    have h2 := ih (fun x hx => he x (List.mem_cons_of_mem _ hx))
    have h3 : 1 ≤ r.length := Nat.pos_of_ne_zero fun e => h1 (List.eq_nil_of_length_eq_zero e)
    rw [List.flatten_cons, List.length_append, List.length_cons]
    omega
theorem bun_room {m : Int} {vs : List Ch} {s : Bs} {R : List (Value × List Ck)} (h : BI m vs s) (hm : m ≤ 1500) (hR : rvs R = rowsOf s) : 0 ≤ s.2.2 ∧ s.2.2 ≤ 1500 ∧ (R = [] → s.2.2 = 0) := by
  by_cases hc : s.2.1 = []
  · have := h.emp hc
    exact ⟨by omega, by omega, fun _ => this⟩
  · have h1 := h.room hc
    have h2 := (h.each s.2.1 (by rw [rows_cur hc]; simp)).2.1
    refine ⟨by omega, by omega, fun e => ?_⟩
    rw [rows_cur hc, e] at hR
    simp [rvs] at hR
set_option maxHeartbeats 2000000 in
theorem rows (base : Nat) (m : Int) (w : World) (la : Option Addr) (n lcap : Nat) (l : List Ck) (hl : Cks base w la n l) (hk : ∀ c ∈ l, Chu.chk (val c) = 0) (hfit : ∀ c ∈ l, (clen (val c) : Int) + 12 ≤ m) (hm0 : 0 ≤ m) (hm : m ≤ 1500) (hn : n * 152 ≤ 140737488351232) :
    Calls Tryz.prog 43 #[.int .i64 m, .slice la n lcap] w fun e w' => ∃ v R, e = .returned v ∧ RL w.heap.size w.heap.size v R w' ∧ rvs R = rowsOf (bun m (l.map val)) ∧ Below w.heap.size w w' := by
  have HL := hidden hl
  have HK := hidden hk
  have HFIT := hidden hfit
  have hll : (l.map val).length = n := by rw [List.length_map]; exact hl.1
  have HBI := hidden (BI.all (m := m) (vs := l.map val) (fun v hv => by obtain ⟨c, hc, rfl⟩ := List.mem_map.1 hv; exact hfit c hc))
  clear hl hk hfit
  go_enter Tryz.func43, Tryz.ntmps43
  go_wp2_with fail
  go_loopw [5, 6, 13] (fun v r i wr => ∃ k R, k ≤ n ∧ i = .int .i64 ((k : Nat) : Int) ∧ RL w.heap.size w.heap.size v R wr ∧ rvs R = rowsOf (bun m ((l.map val).take k)) ∧ r = .int .i64 (bun m ((l.map val).take k)).2.2 ∧ Below w.heap.size w wr) (fun _ _ i _ => n - (intOf i).toNat)
  case atStart => exact ⟨0, [], Nat.zero_le _, rfl, RL.nil _ _ _, rfl, rfl, Below.refl _ _⟩
  case round =>
    obtain ⟨k, R, hkn, rfl, hR, hv, rfl, hb⟩ := hrel
    rcases Nat.lt_or_ge k n with hlt | hge
    · obtain ⟨b, off, c, rfl, hpk, l1, hcc⟩ := (HL.out.later hb).get hlt
      have hck := HK.out c (List.mem_of_getElem? hpk)
      have hcl := HFIT.out c (List.mem_of_getElem? hpk)
      have hc4 := Chu.clen_pos (val c)
      have hbi := HBI.out k (by omega)
      obtain ⟨W, hS, hbx, hbw⟩ := Chu.newvar wr c
      have d1 := hbx.ld
      have hsz := hbw.size
      have HSZ := hidden (Chu.size_ base c W (hcc.later hbw))
      have hcs : Chu.csize (val c) = clen (val c) := by unfold Chu.csize; rw [if_pos hck]
      rw [hcs] at HSZ
      have HCC := hidden hcc
      have HRL := hidden hR
      have HV := hidden hv
      have HB := hidden hb
      have HPK := hidden hpk
      have HX := hidden hbx
      have HBW := hidden hbw
      have HI := hidden hbi
      have HCK := hidden hck
      have hvk : (l.map val)[k]? = some (val c) := by rw [List.getElem?_map, hpk]; rfl
      have HVK := hidden hvk
      have i1 : ((k : Nat) : Int) < (n : Int) := by omega
      clear hpk hcc hR hv hb hbx hbw hcs hbi hck hvk
      generalize hcv : clen (val c) = N at *
      have HN := hidden hcv
      clear hcv
      go_wp2_with fail
      refine Calls.mono HSZ.out ?_
      rintro e w1 ⟨rfl, b1⟩
      have HX1 := hidden (HX.out.later b1)
      have HB1 := hidden (HBW.out.trans (b1.mono HBW.out.size))
      have hs1 := HB1.out.size
      have HR1 := hidden (HRL.out.later HB1.out)
      obtain ⟨va, vcap, rfl⟩ : ∃ va vcap, u5 = .slice va R.length vcap := by obtain ⟨a, cap, e, _⟩ := own_lies HR1.out.1; exact ⟨a, cap, e⟩
      have hroom : 0 ≤ (bun m ((l.map val).take k)).2.2 ∧ (bun m ((l.map val).take k)).2.2 ≤ 1500 ∧ (R = [] → (bun m ((l.map val).take k)).2.2 = 0) := bun_room HI.out hm HV.out
      have hRlen : R.length ≤ k := by
        have h1 := bun_len HI.out
        rw [List.length_take, hll, ← HV.out] at h1
        simp [rvs] at h1
        omega
      have HRM := hidden (show ∃ x, (bun m ((l.map val).take k)).2.2 = x from ⟨_, rfl⟩)
      generalize hrm : (bun m ((l.map val).take k)).2.2 = room at *
      have HRO := hidden hrm
      obtain ⟨r1, r2, r3⟩ := hroom
      have HR3 := hidden r3
      clear hrm r3 HRM b1 HSZ d1 hS HX
      have d1 := HX1.out.ld
      go_upto_region 8 with fail
      go_cut [35] from 22 to 35 (fun t wx => ∃ bt : Bool, t = .bool bt ∧ (bt = true ↔ more (bun m ((l.map val).take k)) (val c)) ∧ Below w1.heap.size w1 wx)
      case first =>
        by_cases hle : (N : Int) ≤ room
        · have hne : R ≠ [] := fun e => by have := HR3.out e; omega
          obtain ⟨R0, g, hh, rcap, c0, lr, hRe, rfl, hg1, hg2, hc1, hl0, hk0⟩ := HR1.out.last hne (rows_len HI.out HV.out hm)
          have HIL := hidden (show ((R.length : Int) - 1 = (R0.length : Int)) ∧ R0.length < R.length by rw [hRe, List.length_append]; simp)
          have C1 := hidden hc1
          have L0 := hidden hl0
          have K0 := hidden hk0
          have KC := hidden (HCC.out.later HB1.out)
          have HMO : Hid (∀ t : Bool, (t = true ↔ ¬ Mixed [val c0, val c]) → (t = true ↔ more (bun m ((l.map val).take k)) (val c))) := hidden fun t ht => by
            have hcu := (cur_of (hRe ▸ HV.out)).2
            rw [more_of HI.out (u := val c0) (by rw [hcu]; simp), ht, mixed2, HRO.out, HN.out]
            exact ⟨fun h => ⟨hle, h.2, h.1⟩, fun h => ⟨h.2.2, h.2.1⟩⟩
          clear hRe hc1 hl0 hk0 hne
          refine Ord.wp_region_ex (X := Value × Value) (by kernel_rfl) 62 (fun x => [(some 22, .int .i64 (N : Int)), (some 23, .int .i64 room), (some 24, .bool true), (some 25, .bool true), (some 26, .slice (some ⟨g, 0, none⟩) R.length vcap), (some 27, .int .i64 ((R.length : Int) - 1)), (some 28, .pointer (some ⟨g, R0.length, none⟩)), (some 29, .slice (some ⟨hh, 0, none⟩) (lr.length + 1) rcap), (some 30, .pointer (some ⟨hh, 0, none⟩)), (some 31, cv c0), (some 32, cv c), (some 33, x.1), (some 34, x.2), (some 35, x.2)]) [some 22, some 23, some 24, some 25, some 26, some 27, some 28, some 29, some 30, some 31, some 32, some 33, some 34, some 35] rfl (by kernel_rfl) (by rfl) (fun _ => rfl) (by kernel_rfl) (StM [11, 12] (TgA w1 c0 c)) (fun _ _ _ _ hL h => h.ext (n := 14) (by decide) hL) ?_ ?_ (undef, undef) ?_
          case refine_1 =>
            intro x L i o ac w' ho hi hcl hdep hF hW
            have f1 : ac.tmps.size = 62 := hF.1
            match i, ho, hi, hdep with
            | 0, ho, hi, hdep =>
              cases ho
              have da0 : ac.eval (.tmp 9) = .int .i64 (N : Int) := hF.old 9 rfl
              exact Ord.ex_value x rfl rfl (q_mv _ rfl da0) rfl (hW.keep (by decide))
            | 1, ho, hi, hdep =>
              cases ho
              have da0 : ac.eval (.tmp 6) = .int .i64 room := hF.old 6 rfl
              exact Ord.ex_value x rfl rfl (q_mv _ rfl da0) rfl (hW.keep (by decide))
            | 2, ho, hi, hdep =>
              cases ho
              have da0 : ac.eval (.tmp 22) = .int .i64 (N : Int) := hF.2.2.2 0 22 _ rfl (hdep ⟨0, .data⟩ (by simp) rfl)
              have da1 : ac.eval (.tmp 23) = .int .i64 room := hF.2.2.2 1 23 _ rfl (hdep ⟨1, .data⟩ (by simp) rfl)
              exact Ord.ex_value x rfl rfl (r_le _ _ da0 da1 hle rfl) rfl (hW.keep (by decide))
            | 3, ho, hi, hdep =>
              cases ho
              have da0 : ac.eval (.tmp 24) = .bool true := hF.2.2.2 2 24 _ rfl (hdep ⟨2, .data⟩ (by simp) rfl)
              exact Ord.ex_value x rfl rfl (q_mv _ rfl da0) rfl (hW.keep (by decide))
            | 4, ho, hi, hdep =>
              cases ho
              have dg : ac.eval (.tmp 25) = .bool true := hF.2.2.2 3 25 _ rfl (hdep ⟨3, .guard⟩ (by simp) rfl)
              have da0 : ac.eval (.tmp 5) = .slice (some ⟨g, 0, none⟩) R.length vcap := hF.old 5 rfl
              exact Ord.ex_value x rfl (Ord.wanted_of dg (by rw [f1]; decide) rfl rfl) (q_mv _ rfl da0) rfl (hW.keep (by decide))
            | 5, ho, hi, hdep =>
              cases ho
              have dg : ac.eval (.tmp 25) = .bool true := hF.2.2.2 3 25 _ rfl (hdep ⟨3, .guard⟩ (by simp) rfl)
              have da0 : ac.eval (.tmp 10) = .int .i64 ((R.length : Int) - 1) := hF.old 10 rfl
              exact Ord.ex_value x rfl (Ord.wanted_of dg (by rw [f1]; decide) rfl rfl) (q_mv _ rfl da0) rfl (hW.keep (by decide))
            | 6, ho, hi, hdep =>
              cases ho
              have dg : ac.eval (.tmp 25) = .bool true := hF.2.2.2 3 25 _ rfl (hdep ⟨3, .guard⟩ (by simp) rfl)
              have da0 : ac.eval (.tmp 26) = .slice (some ⟨g, 0, none⟩) R.length vcap := hF.2.2.2 4 26 _ rfl (hdep ⟨4, .data⟩ (by simp) rfl)
              have da1 : ac.eval (.tmp 27) = .int .i64 ((R.length : Int) - 1) := hF.2.2.2 5 27 _ rfl (hdep ⟨5, .data⟩ (by simp) rfl)
              exact Ord.ex_value x rfl (Ord.wanted_of dg (by rw [f1]; decide) rfl rfl) (r_ixL _ _ da0 da1 HIL.out.1 HIL.out.2 rfl) rfl (hW.keep (by decide))
            | 7, ho, hi, hdep =>
              cases ho
              have dg : ac.eval (.tmp 25) = .bool true := hF.2.2.2 3 25 _ rfl (hdep ⟨3, .guard⟩ (by simp) rfl)
              have da0 : ac.eval (.tmp 28) = .pointer (some ⟨g, R0.length, none⟩) := hF.2.2.2 6 28 _ rfl (hdep ⟨6, .data⟩ (by simp) rfl)
              exact Ord.ex_value x rfl (Ord.wanted_of dg (by rw [f1]; decide) rfl rfl) (r_ldR _ da0 rfl (((TgA.bel hW).cell (cell_lt C1.out)).trans C1.out)) rfl (hW.keep (by decide))
            | 8, ho, hi, hdep =>
              cases ho
              have dg : ac.eval (.tmp 25) = .bool true := hF.2.2.2 3 25 _ rfl (hdep ⟨3, .guard⟩ (by simp) rfl)
              have da0 : ac.eval (.tmp 29) = .slice (some ⟨hh, 0, none⟩) (lr.length + 1) rcap := hF.2.2.2 7 29 _ rfl (hdep ⟨7, .data⟩ (by simp) rfl)
              exact Ord.ex_value x rfl (Ord.wanted_of dg (by rw [f1]; decide) rfl rfl) (r_ix0 _ da0 (by omega) rfl) rfl (hW.keep (by decide))
            | 9, ho, hi, hdep =>
              cases ho
              have dg : ac.eval (.tmp 25) = .bool true := hF.2.2.2 3 25 _ rfl (hdep ⟨3, .guard⟩ (by simp) rfl)
              have da0 : ac.eval (.tmp 30) = .pointer (some ⟨hh, 0, none⟩) := hF.2.2.2 8 30 _ rfl (hdep ⟨8, .data⟩ (by simp) rfl)
              exact Ord.ex_value x rfl (Ord.wanted_of dg (by rw [f1]; decide) rfl rfl) (r_ldC _ da0 rfl (L0.out _ (TgA.bel hW))) rfl (hW.keep (by decide))
            | 10, ho, hi, hdep =>
              cases ho
              have dg : ac.eval (.tmp 25) = .bool true := hF.2.2.2 3 25 _ rfl (hdep ⟨3, .guard⟩ (by simp) rfl)
              have da0 : ac.eval (.tmp 8) = .pointer (some ⟨wr.heap.size, 0, none⟩) := hF.old 8 rfl
              exact Ord.ex_value x rfl (Ord.wanted_of dg (by rw [f1]; decide) rfl rfl) (r_ldC _ da0 rfl (HX1.out.later (TgA.bel hW)).ld) rfl (hW.keep (by decide))
            | 11, ho, hi, hdep =>
              cases ho
              have dg : ac.eval (.tmp 25) = .bool true := hF.2.2.2 3 25 _ rfl (hdep ⟨3, .guard⟩ (by simp) rfl)
              have da0 : ac.eval (.tmp 31) = cv c0 := hF.2.2.2 9 31 _ rfl (hdep ⟨9, .data⟩ (by simp) rfl)
              have da1 : ac.eval (.tmp 32) = cv c := hF.2.2.2 10 32 _ rfl (hdep ⟨10, .data⟩ (by simp) rfl)
              have hA := hW.at (k := 0) rfl hi (.inl rfl)
              exact Ord.ex_letter x (.slice (some ⟨w'.heap.size, 0, none⟩) 2 2, x.2) rfl (Ord.wanted_of dg (by rw [f1]; decide) rfl rfl) (r_bs2 _ _ da0 da1 rfl) rfl (fun j hj => match j, hj with | 0, _ => rfl | 1, _ => rfl | 2, _ => rfl | 3, _ => rfl | 4, _ => rfl | 5, _ => rfl | 6, _ => rfl | 7, _ => rfl | 8, _ => rfl | 9, _ => rfl | 10, _ => rfl | 11, hj => absurd hj (by rw [hi]; decide) | 12, _ => rfl | 13, _ => rfl | _ + 14, _ => rfl) (hW.next (k := 0) rfl (by decide) hi (.inl rfl) (hA.s0 (chk_mono K0.out (Nat.zero_le _)) (chk_mono KC.out (Nat.zero_le _))))
            | 12, ho, hi, hdep =>
              cases ho
              have dg : ac.eval (.tmp 25) = .bool true := hF.2.2.2 3 25 _ rfl (hdep ⟨3, .guard⟩ (by simp) rfl)
              have da0 : ac.eval (.tmp 33) = x.1 := hF.2.2.2 11 33 _ rfl (hdep ⟨11, .data⟩ (by simp) rfl)
              have hA := hW.at (k := 1) rfl hi (.inr ⟨11, rfl, hdep ⟨11, .data⟩ (by simp) rfl⟩)
              obtain ⟨B2, e2, hk2⟩ := hA.2.1 (by decide)
              rw [e2] at da0
              refine Ord.ex_call x (fun v => (x.1, v)) rfl (Ord.wanted_of dg (by rw [f1]; decide) rfl rfl) (r_tog _ da0 rfl) (fun _ => rfl) (fun v j hj => match j, hj with | 0, _ => rfl | 1, _ => rfl | 2, _ => rfl | 3, _ => rfl | 4, _ => rfl | 5, _ => rfl | 6, _ => rfl | 7, _ => rfl | 8, _ => rfl | 9, _ => rfl | 10, _ => rfl | 11, _ => rfl | 12, hj => absurd hj (by rw [hi]; decide) | 13, hj => absurd (hcl 13 _ rfl hj ⟨12, .data⟩ (by simp) rfl) (by rw [hi]; decide) | _ + 14, _ => rfl) (Calls.mono (together 0 w' _ 2 2 [c0, c] hk2) ?_)
              rintro e w2 ⟨t, rfl, ht, hb2⟩
              exact ⟨_, rfl, hW.next (k := 1) rfl (by decide) hi (.inr ⟨11, rfl, hdep ⟨11, .data⟩ (by simp) rfl⟩) ⟨hA.1.trans (hb2.mono hA.1.size), fun _ => ⟨B2, e2, hk2.later hb2⟩, fun _ => ⟨t, rfl, ht⟩⟩⟩
            | 13, ho, hi, hdep =>
              cases ho
              have da0 : ac.eval (.tmp 25) = .bool true := hF.2.2.2 3 25 _ rfl (hdep ⟨3, .data⟩ (by simp) rfl)
              have da1 : ac.eval (.tmp 34) = x.2 := hF.2.2.2 12 34 _ rfl (hdep ⟨12, .data⟩ (by simp) rfl)
              exact Ord.ex_value x rfl rfl (r_pick _ _ _ da0 da1 rfl) rfl (hW.keep (by decide))
          case refine_3 => exact ⟨0, by decide, (fun j c hj => ⟨fun e => Bool.noConfusion e, fun e => absurd e (Nat.not_lt_zero _)⟩), (Below.refl _ _).drew, (fun e => by omega), (fun e => by omega)⟩
          intro x w2 hW
          simp only [Ord.puts, Ord.prs]
          go_simp
          obtain ⟨j, hj1, hj2, hA⟩ := hW
          have hj3 := (hj2 1 12 rfl).1 rfl
          obtain rfl : j = 2 := by simp at hj1; omega
          obtain ⟨t, e, ht⟩ := hA.2.2 (by decide)
          obtain ⟨x1, x2⟩ := x
          simp only at e
          subst e
          have hbb := hA.1
          clear hj1 hj2 hj3 hA
          simp only
          go_wp2_with fail
          go_meet
          exact ⟨t, rfl, HMO.out t ht, hbb⟩
        · have hle' : decide ((N : Int) ≤ room) = false := decide_eq_false hle
          go_quiet (fail)
          go_wp2_with fail
          go_meet
          refine ⟨false, rfl, ⟨fun e => (by cases e), fun h => absurd h.2.1 ?_⟩, below_drewN (Below.refl _ _) _⟩
          rw [HN.out, HRO.out]
          omega
      case rest =>
        obtain ⟨bt, rfl, hbt, hb2⟩ := hcut
        have HX2 := hidden (HX1.out.later hb2)
        have HBC := hidden (HB1.out.trans (hb2.mono HB1.out.size))
        have HR2 := hidden (HRL.out.later HBC.out)
        have KC := hidden (HCC.out.later HBC.out)
        have HBW2 := hidden (HB.out.trans (HBC.out.mono HB.out.size))
        have hnwc : w.heap.size ≤ wc.heap.size := HBW2.out.size
        have HBT := hidden hbt
        have d2 := HX2.out.ld
        have hss : wr.heap.size < wc.heap.size := HX2.out.lt
        clear hb2 hbt d1 HR1 HX1 HB1 HBW
        cases bt with
        | true =>
          have hmo := HBT.out.1 rfl
          have hNr : (N : Int) ≤ room := by have := hmo.2.1; rw [HN.out, HRO.out] at this; exact this
          have hne : R ≠ [] := fun e => by have := HR3.out e; omega
          obtain ⟨R0, g, hh, rcap, c0, lr, hRe, rfl, hg1, hg2, hc1, hl0, hk0⟩ := HR2.out.last hne (rows_len HI.out HV.out hm)
          have HIL := hidden (show ((R.length : Int) - 1 = (R0.length : Int)) ∧ R0.length < R.length by rw [hRe, List.length_append]; simp)
          have HIM := hidden (show R.length = R0.length + 1 by rw [hRe, List.length_append]; rfl)
          have hlrl : (c0 :: lr).length ≤ 1000000 := rows_len HI.out HV.out hm (.slice (some ⟨hh, 0, none⟩) (lr.length + 1) rcap, c0 :: lr) (by rw [hRe]; simp)
          have HOWN := hidden (show wc.ownsRow w.heap.size 59 15 (.slice (some ⟨hh, 0, none⟩) (lr.length + 1) rcap) (c0 :: lr).length (ccs (c0 :: lr)) from (HR2.out.2.1 (.slice (some ⟨hh, 0, none⟩) (lr.length + 1) rcap, c0 :: lr) (by rw [hRe]; simp)).2)
          have HRE := hidden hRe
          have C1 := hidden hc1
          have HMO := hidden hmo
          clear hRe hc1 hl0 hk0 hne hmo
          go_upto_region 9 with fail
          refine Ord.wp_region_ex (X := Value × Value × Value) (by kernel_rfl) 62 (fun x => [(some 36, .slice (some ⟨g, 0, none⟩) R.length vcap), (some 37, .int .i64 ((R.length : Int) - 1)), (some 38, .slice (some ⟨g, 0, none⟩) R.length vcap), (some 39, .int .i64 ((R.length : Int) - 1)), (some 40, .pointer (some ⟨g, R0.length, none⟩)), (some 41, .slice (some ⟨hh, 0, none⟩) (lr.length + 1) rcap), (some 42, cv c), (some 43, x.1), (some 44, x.2.1), (some 45, x.2.2), (some 46, .pointer (some ⟨g, R0.length, none⟩)), (none, undef)]) [some 36, some 37, some 38, some 39, some 40, some 41, some 42, some 43, some 44, some 45, some 46, none] rfl (by kernel_rfl) (by rfl) (fun _ => rfl) (by kernel_rfl) (StM [7, 8, 9, 11] (GrA w.heap.size wc.heap.size (fun _ => True) wc g R0.length c (.slice (some ⟨hh, 0, none⟩) (lr.length + 1) rcap) (c0 :: lr))) (fun _ _ _ _ hL h => h.ext (n := 12) (by decide) hL) ?_ ?_ (undef, undef, undef) ?_
          case refine_1 =>
            intro x L i o ac w' ho hi hcl hdep hF hW
            have f1 : ac.tmps.size = 62 := hF.1
            match i, ho, hi, hdep with
            | 0, ho, hi, hdep =>
              cases ho
              have da0 : ac.eval (.tmp 5) = .slice (some ⟨g, 0, none⟩) R.length vcap := hF.old 5 rfl
              exact Ord.ex_value x rfl rfl (q_mv _ rfl da0) rfl (hW.keep (by decide))
            | 1, ho, hi, hdep =>
              cases ho
              have da0 : ac.eval (.tmp 10) = .int .i64 ((R.length : Int) - 1) := hF.old 10 rfl
              exact Ord.ex_value x rfl rfl (q_mv _ rfl da0) rfl (hW.keep (by decide))
            | 2, ho, hi, hdep =>
              cases ho
              have da0 : ac.eval (.tmp 5) = .slice (some ⟨g, 0, none⟩) R.length vcap := hF.old 5 rfl
              exact Ord.ex_value x rfl rfl (q_mv _ rfl da0) rfl (hW.keep (by decide))
            | 3, ho, hi, hdep =>
              cases ho
              have da0 : ac.eval (.tmp 10) = .int .i64 ((R.length : Int) - 1) := hF.old 10 rfl
              exact Ord.ex_value x rfl rfl (q_mv _ rfl da0) rfl (hW.keep (by decide))
            | 4, ho, hi, hdep =>
              cases ho
              have da0 : ac.eval (.tmp 38) = .slice (some ⟨g, 0, none⟩) R.length vcap := hF.2.2.2 2 38 _ rfl (hdep ⟨2, .data⟩ (by simp) rfl)
              have da1 : ac.eval (.tmp 39) = .int .i64 ((R.length : Int) - 1) := hF.2.2.2 3 39 _ rfl (hdep ⟨3, .data⟩ (by simp) rfl)
              exact Ord.ex_value x rfl rfl (r_ixL _ _ da0 da1 HIL.out.1 HIL.out.2 rfl) rfl (hW.keep (by decide))
            | 5, ho, hi, hdep =>
              cases ho
              have da0 : ac.eval (.tmp 40) = .pointer (some ⟨g, R0.length, none⟩) := hF.2.2.2 4 40 _ rfl (hdep ⟨4, .data⟩ (by simp) rfl)
              have h9 : L 9 = false := no_of (fun h => hcl 9 _ rfl h ⟨5, .data⟩ (by simp) rfl) hi
              obtain ⟨j, hj, hA⟩ := hW.early (n := 2) rfl h9
              exact Ord.ex_value x rfl rfl (r_ldR _ da0 rfl (((hA.1 hj).cell (cell_lt C1.out)).trans C1.out)) rfl (hW.keep (by decide))
            | 6, ho, hi, hdep =>
              cases ho
              have da0 : ac.eval (.tmp 8) = .pointer (some ⟨wr.heap.size, 0, none⟩) := hF.old 8 rfl
              have h7 : L 7 = false := no_of (fun h => hcl 7 _ rfl h ⟨6, .data⟩ (by simp) rfl) hi
              have hA := hW.at (k := 0) rfl h7 (.inl rfl)
              exact Ord.ex_value x rfl rfl (r_ldC _ da0 rfl (HX2.out.later (hA.1 (by decide))).ld) rfl (hW.keep (by decide))
            | 7, ho, hi, hdep =>
              cases ho
              have da0 : ac.eval (.tmp 42) = cv c := hF.2.2.2 6 42 _ rfl (hdep ⟨6, .data⟩ (by simp) rfl)
              have hA := hW.at (k := 0) rfl hi (.inl rfl)
              refine Ord.ex_call x (fun v => (v, x.2)) rfl rfl (r_cpy _ da0 rfl) (fun _ => rfl) (fun v j hj => match j, hj with | 0, _ => rfl | 1, _ => rfl | 2, _ => rfl | 3, _ => rfl | 4, _ => rfl | 5, _ => rfl | 6, _ => rfl | 7, hj => absurd hj (by rw [hi]; decide) | 8, _ => rfl | 9, _ => rfl | 10, _ => rfl | 11, _ => rfl | _ + 12, _ => rfl) (Calls.mono (copyOf base c w' (KC.out.later (hA.1 (by decide))) HCK.out) ?_)
              rintro e w2 ⟨c', rfl, ev, hk2, hb2⟩
              exact ⟨cv c', rfl, hW.next (k := 0) rfl (by decide) hi (.inl rfl) (GrA.s0 hA ev (chk_mono hk2 (hA.1 (by decide)).size) trivial hb2)⟩
            | 8, ho, hi, hdep =>
              cases ho
              have da0 : ac.eval (.tmp 43) = x.1 := hF.2.2.2 7 43 _ rfl (hdep ⟨7, .data⟩ (by simp) rfl)
              have hA := hW.at (k := 1) rfl hi (.inr ⟨7, rfl, hdep ⟨7, .data⟩ (by simp) rfl⟩)
              obtain ⟨c', e1, e2, hk2, _⟩ := hA.2.1 rfl
              rw [e1] at da0
              exact Ord.ex_letter x (x.1, .slice (some ⟨w'.heap.size, 0, none⟩) 1 1, x.2.2) rfl rfl (r_bs1 _ da0 rfl) rfl (fun j hj => match j, hj with | 0, _ => rfl | 1, _ => rfl | 2, _ => rfl | 3, _ => rfl | 4, _ => rfl | 5, _ => rfl | 6, _ => rfl | 7, _ => rfl | 8, hj => absurd hj (by rw [hi]; decide) | 9, _ => rfl | 10, _ => rfl | 11, _ => rfl | _ + 12, _ => rfl) (hW.next (k := 1) rfl (by decide) hi (.inr ⟨7, rfl, hdep ⟨7, .data⟩ (by simp) rfl⟩) (hA.s1 e1 e2 hk2 trivial))
            | 9, ho, hi, hdep =>
              cases ho
              have da0 : ac.eval (.tmp 41) = .slice (some ⟨hh, 0, none⟩) (lr.length + 1) rcap := hF.2.2.2 5 41 _ rfl (hdep ⟨5, .data⟩ (by simp) rfl)
              have da1 : ac.eval (.tmp 44) = x.2.1 := hF.2.2.2 8 44 _ rfl (hdep ⟨8, .data⟩ (by simp) rfl)
              have hA := hW.at (k := 2) rfl hi (.inr ⟨8, rfl, hdep ⟨8, .data⟩ (by simp) rfl⟩)
              obtain ⟨v', w2, hr, hA2⟩ := hA.s2 hnwc HOWN.out hlrl 24
              exact Ord.ex_letter x (x.1, x.2.1, v') rfl rfl (r_ap _ _ da0 da1 rfl hr) rfl (fun j hj => match j, hj with | 0, _ => rfl | 1, _ => rfl | 2, _ => rfl | 3, _ => rfl | 4, _ => rfl | 5, _ => rfl | 6, _ => rfl | 7, _ => rfl | 8, _ => rfl | 9, hj => absurd hj (by rw [hi]; decide) | 10, _ => rfl | 11, _ => rfl | _ + 12, _ => rfl) (hW.next (k := 2) rfl (by decide) hi (.inr ⟨8, rfl, hdep ⟨8, .data⟩ (by simp) rfl⟩) hA2)
            | 10, ho, hi, hdep =>
              cases ho
              have da0 : ac.eval (.tmp 36) = .slice (some ⟨g, 0, none⟩) R.length vcap := hF.2.2.2 0 36 _ rfl (hdep ⟨0, .data⟩ (by simp) rfl)
              have da1 : ac.eval (.tmp 37) = .int .i64 ((R.length : Int) - 1) := hF.2.2.2 1 37 _ rfl (hdep ⟨1, .data⟩ (by simp) rfl)
              exact Ord.ex_value x rfl rfl (r_ixL _ _ da0 da1 HIL.out.1 HIL.out.2 rfl) rfl (hW.keep (by decide))
            | 11, ho, hi, hdep =>
              cases ho
              have da0 : ac.eval (.tmp 46) = .pointer (some ⟨g, R0.length, none⟩) := hF.2.2.2 10 46 _ rfl (hdep ⟨10, .data⟩ (by simp) rfl)
              have da1 : ac.eval (.tmp 45) = x.2.2 := hF.2.2.2 9 45 _ rfl (hdep ⟨9, .data⟩ (by simp) rfl)
              have hA := hW.at (k := 3) rfl hi (.inr ⟨9, rfl, hdep ⟨9, .data⟩ (by simp) rfl⟩)
              obtain ⟨⟨v0, hv0⟩, hfz, a3, k3, q3, e3⟩ := hA.cell HR2.out HRE.out
              obtain ⟨x1, x2, x3⟩ := x
              simp only at e3
              subst e3
              exact ex_skip _ rfl rfl (r_sR _ _ da0 da1 rfl hv0 hfz) rfl (hW.next (k := 3) rfl (by decide) hi (.inr ⟨9, rfl, hdep ⟨9, .data⟩ (by simp) rfl⟩) hA.s3)
          case refine_3 => exact ⟨0, by decide, (fun j c hj => ⟨fun e => Bool.noConfusion e, fun e => absurd e (Nat.not_lt_zero _)⟩), GrA.zero (Below.refl _ _).drew⟩
          intro x w2 hW
          simp only [Ord.puts, Ord.prs]
          go_simp
          obtain ⟨j, hj1, hj2, hA⟩ := hW
          have hj3 := (hj2 3 11 rfl).1 rfl
          obtain rfl : j = 4 := by simp at hj1; omega
          obtain ⟨c', w3, w4, e, q1, ⟨q2, _⟩, q3, q4, q5, _, q6⟩ := hA.2.2.2 (by decide)
          obtain rfl := q6 rfl
          obtain ⟨x1, x2, x3⟩ := x
          simp only at q3 q5 ⊢
          have HNX := hidden (RL.grow' HR2.out HRE.out HIM.out q1 (chk_mono q2 hnwc) (av_fresh q2.2) q3 q4 q5)
          have HBN : Hid (Below w.heap.size w (w4.setCell ⟨g, R0.length, none⟩ x3)) := by
            have t1 := (HBW2.out.trans (q1.mono hnwc)).grown q4 (Nat.le_trans hnwc q1.size) (fun b hb => (HOWN.out.lt b hb).1)
            exact hidden (t1.grown (gr_set w4 g R0.length x3) t1.size (fun b hb => by cases hb; exact hg1))
          obtain ⟨z1, z2⟩ := bun_yes (rv2 := x3) HVK.out HMO.out (HRE.out ▸ HV.out) e
          rw [HN.out, HRO.out] at z2
          have HZ1 := hidden z1
          have HZ2 := hidden z2
          clear hj1 hj2 hj3 hA e q1 q2 q3 q4 q5 q6 z1 z2
          go_wp2
          go_roundw
          case rel => exact ⟨k + 1, _, by omega, by go_num, HNX.out, HZ1.out, by rw [HZ2.out], HBN.out⟩
          case measure => simp [intOf]; omega
        | false =>
          have hmo : ¬ more (bun m ((l.map val).take k)) (val c) := fun h => by have := HBT.out.2 h; cases this
          have HMO := hidden hmo
          have HCP := hidden (copyOf base c wc KC.out HCK.out)
          clear hmo
          go_wp2_with fail
          refine Calls.mono HCP.out ?_
          rintro e w2 ⟨c', rfl, ev, hk2, hb2⟩
          have t1 := below_new w2 (.cells (cc c') 59)
          have t2 := below_new (w2.alloc (.cells (cc c') 59)) (.cells #[.slice (some ⟨w2.heap.size, 0, none⟩) 1 1] 24)
          have t3 := t1.trans (t2.mono t1.size)
          have HBX := hidden (hb2.trans (t3.mono hb2.size))
          have HKX := hidden (hk2.later t3)
          have HRX := hidden (ownLater (show (w2.alloc (.cells (cc c') 59)).ownsRow wc.heap.size 59 15 (.slice (some ⟨w2.heap.size, 0, none⟩) 1 1) 1 (cc c').toList from World.ownsRow_lit w2 (cc c') 1 hb2.size (by decide) rfl) t2)
          have HAX := hidden (show AvC (some w2.heap.size) c' from Chu.avC_of hk2.2 (fun b u off _ hcell e => by cases e; exact absurd (cell_lt hcell) (Nat.lt_irrefl _)))
          have HOX := hidden ((HR2.out.later HBX.out).1)
          have HEV := hidden ev
          have HNW : Hid (∀ j u, [Value.slice (some ⟨w2.heap.size, 0, none⟩) 1 1][j]? = some u → ((w2.alloc (.cells (cc c') 59)).alloc (.cells #[.slice (some ⟨w2.heap.size, 0, none⟩) 1 1] 24)).cell? ((⟨w2.heap.size + 1, 0, none⟩ : Addr).add j) = some u) := hidden fun j u hj => by
            rw [Go.WideShapes.add_plain, Nat.zero_add]
            have h1 := heap_alloc_new (w2.alloc (.cells (cc c') 59)) (.cells #[.slice (some ⟨w2.heap.size, 0, none⟩) 1 1] 24)
            rw [World.size_alloc] at h1
            simp only [World.cell?, h1]
            simpa using hj
          have hsX := HBX.out.size
          clear t1 t2 t3 hb2 hk2 ev HCP
          obtain ⟨j0, hj, hy0, hy1, hy2⟩ := info_parts infoCs
          go_wp2_with (at_builtin; refine Chu.wpList_append_at rfl _ _ 48 rfl w.heap.size 24 j0 (.slice none 0 0) Tryz.underlying48 hj hy0 (by rw [hy1]; rfl) (by rw [hy1]; decide) _ _ _ rfl (by rw [hy1]; exact HOX.out) ⟨w2.heap.size + 1, 0, none⟩ 1 1 [.slice (some ⟨w2.heap.size, 0, none⟩) 1 1] rfl (by rw [hy1]; rfl) HNW.out (fun u hu => by obtain rfl := List.mem_singleton.1 hu; rfl) (by decide) ?c3 ?c4 ?c5 ?_)
          case c3 => unfold maxLen; omega
          case c4 => rw [hy2]; omega
          case c5 => exact Nat.le_trans hnwc hsX
          intro v3 w3 ho3 hg3 hw3
          have HNX := hidden (RL.push HR2.out hnwc HBX.out (chk_mono HKX.out hnwc) (av_fresh HKX.out.2) HRX.out HAX.out ho3 hg3 (by rw [World.size_alloc, World.size_alloc]; exact hw3))
          have HBN := hidden ((HBW2.out.trans (HBX.out.mono hnwc)).grown hg3 (Nat.le_trans hnwc hsX) (fun b hb => (HOX.out.lt b hb).1))
          obtain ⟨z1, z2⟩ := bun_no (rv := .slice (some ⟨w2.heap.size, 0, none⟩) 1 1) HVK.out HMO.out HV.out HEV.out
          rw [HN.out] at z2
          have HZ1 := hidden z1
          have HZ2 := hidden z2
          clear ho3 hg3 hw3 z1 z2
          go_wp2
          go_roundw
          case rel => exact ⟨k + 1, _, by omega, by go_num, HNX.out, HZ1.out, by rw [HZ2.out], HBN.out⟩
          case measure => simp [intOf]; omega
    · obtain rfl : k = n := by omega
      rw [List.take_of_length_le (by omega)] at hv
      have HV := hidden hv
      clear hv
      go_wp2
      go_ret
      exact ⟨_, R, rfl, hR, HV.out, hb⟩
end Go.Proofs.YtmnndkhdekpecaaGreatDoor.Pkt
