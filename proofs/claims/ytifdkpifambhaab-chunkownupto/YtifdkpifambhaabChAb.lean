/-
  What All of package chunk tells; two lists of chunks.
  Conditions: the numbers lie within their kinds, the cells hold them; the bytes are at most 1048576.
-/
import Derived.Test.YtifdkpifambhaabChAa
namespace Go.Proofs.Ytifdkpifambhaab.Chu
open Go.ChangeShapes Go.WideShapes Go.ChangeAt Go.RowKit
open Par (hidden Bytes Row Prm Prms cell_lt form_of cells_new)
set_option linter.unusedVariables false
attribute [local go_sem ↓] execOp_ld execOp_bx execOp_st execOp_bs
attribute [local go_sem] run_box run_bsl

theorem infoC3 : (Try.prog.info? 39).map (fun i => (i.zero, i.size, i.bytes)) = some (some (cv (zck 0)), 15, 152) := by kernel_rfl
/-- the chunks so far -/
def Lc (w wr : World) (v : Value) (k : Nat) (l : List Ck) : Prop := wr.ownsRow w.heap.size 39 15 v k (ccs l) ∧ l.length = k ∧ (∀ c ∈ l, Nums c ∧ Lsts w.heap.size wr c ∧ AvC v.ownBlock c) ∧ Below w.heap.size w wr
theorem Lc.nil (w : World) : Lc w w (.slice none 0 0) 0 [] := ⟨World.ownsRow_nil _ _ _ _, rfl, (fun c hc => by cases hc), Below.refl _ _⟩
theorem Lc.later {w wr w' : World} {v : Value} {k : Nat} {l : List Ck} (h : Lc w wr v k l) (hb : Below wr.heap.size wr w') : Lc w w' v k l := by
  refine ⟨h.1.kept (gr_below hb none) ?_, h.2.1, fun c hc => ⟨(h.2.2.1 c hc).1, (h.2.2.1 c hc).2.1.later hb, (h.2.2.1 c hc).2.2⟩, h.2.2.2.trans (hb.mono h.2.2.2.size)⟩
  rcases hv : v.ownBlock with _ | g
  · exact .inl rfl
  · exact .inr (fun e => by cases e)
/-- one chunk more -/
theorem Lc.more {w wr w1 w3 : World} {v v3 : Value} {k : Nat} {l : List Ck} {c : Ck} (h : Lc w wr v k l) (hb : Below wr.heap.size wr w1) (hc : Chk wr.heap.size w1 c) (ho : w3.ownsRow w.heap.size 39 15 v3 (k + 1) (ccs l ++ (cc c).toList)) (hg : w1.grownBy w3 v.ownBlock)
    (hw : v3.ownBlock = v.ownBlock ∨ v3.ownBlock = some w1.heap.size) : Lc w w3 v3 (k + 1) (l ++ [c]) := by
  have h1 := h.later hb
  have hs := h.2.2.2.size
  have av : ∀ d, Lsts w.heap.size w1 d → AvC v.ownBlock d → AvC v3.ownBlock d := by
    intro d hd hv
    rcases hw with e | e
    · rw [e]; exact hv
    · rw [e]
      refine avC_of hd (fun b u off _ hcell e => ?_)
      cases e
      exact absurd (cell_lt hcell) (Nat.lt_irrefl _)
  have avc : AvC v.ownBlock c := avC_of hc.2 (fun b u off hbb _ e => by
    have := (h.1.lt b e.symm).2
    omega)
  refine ⟨?_, by rw [List.length_append, h.2.1]; rfl, fun d hd => ?_, ?_⟩
  · have e : ccs (l ++ [c]) = ccs l ++ (cc c).toList := by simp [ccs]
    rw [e]
    exact ho
  · rcases List.mem_append.1 hd with hd | hd
    · obtain ⟨q1, q2, q3⟩ := h1.2.2.1 d hd
      exact ⟨q1, lsts_gr q2 q3 hg, av d q2 q3⟩
    · obtain rfl : d = c := by simpa using hd
      have q2 : Lsts w.heap.size w1 d := hc.2.mono hs
      exact ⟨hc.1, lsts_gr q2 avc hg, av d q2 avc⟩
  · exact h1.2.2.2.grown hg h1.2.2.2.size (fun g e => (h.1.lt g e).1)
theorem Lc.cks {w wr : World} {v : Value} {k : Nat} {l : List Ck} (h : Lc w wr v k l) (hk : k ≤ 1000000000000) : ∃ a cap, v = .slice a k cap ∧ Cks w.heap.size wr a k l := by
  obtain ⟨a, cap, rfl, hl, _⟩ := lies_own h.1
  exact ⟨a, cap, rfl, h.2.1, hk, fun c hc => ⟨(h.2.2.1 c hc).1, (h.2.2.1 c hc).2.1⟩, hl⟩
theorem cc_one (c : Ck) : ∀ u ∈ (cc c).toList, u.oneCell' = true := by simp [cc, Value.oneCell']
theorem cells_cc (w : World) (c : Ck) : ∀ j u, (cc c).toList[j]? = some u → (w.alloc (.cells (cc c) 39)).cell? ((⟨w.heap.size, 0, none⟩ : Addr).add j) = some u := by
  intro j u hj
  rw [Go.WideShapes.add_plain, Nat.zero_add]
  exact bx_cell (Bx.new w c) (by simpa using hj)
theorem rds_le {zs : List Int} (hz : Bytes zs) {l : List Ch} : ∀ {p q : Nat}, p ≤ zs.length → Rds zs p l q → p + 4 * l.length ≤ q ∧ q ≤ zs.length := by
  induction l with
  | nil => intro p q hp h; cases h; exact ⟨by simp, hp⟩
  | cons y l ih =>
    intro p q hp h
    obtain ⟨m, h1, h2, h3⟩ := h
    obtain ⟨_, _, r3, r4⟩ := read_ok (zs.drop p) (fun x hx => hz x (List.mem_of_mem_drop hx)) y m h2
    rw [List.length_drop] at r4
    obtain ⟨i1, i2⟩ := ih (p := p + m) (by omega) h3
    rw [List.length_cons]
    exact ⟨by omega, i2⟩
theorem drop_row {base : Nat} {w : World} {b off len q : Nat} {zs : List Int} (h : Row base w (some ⟨b, off, none⟩) len zs) (hq : q < len) : Row base w (some ⟨b, off + q, none⟩) (len - q) (zs.drop q) := h.drop q (by omega)
set_option maxRecDepth 20000 in
set_option maxHeartbeats 1000000 in
theorem all (base : Nat) (w : World) (a : Option Addr) (len cap : Nat) (zs : List Int) (hr : Row base w a len zs) (hlc : len ≤ cap) (hlen : len ≤ 1048576) :
    Calls Try.prog 4 #[.slice a len cap] w fun e w' => ∃ pa n pcap l p er, e = .returned (.tuple #[.slice pa n pcap, .int .i64 ((p : Nat) : Int), .int .i64 er]) ∧ Cks w.heap.size w' pa n l ∧ AllOut zs (l.map val) p er ∧ Below w.heap.size w w' := by
  obtain ⟨i0, hi, hz0, hz1, hz2⟩ := info_parts infoC3
  have hzl := hr.1
  have HBY := hidden hr.2.1
  have HR := hidden hr
  clear hr
  go_enter Try.func4, Try.ntmps4
  go_wp2_with fail
  go_loopw [5, 6] (fun v i wr => ∃ k q l, i = .int .i64 ((q : Nat) : Int) ∧ Lc w wr v k l ∧ Rds zs 0 (l.map val) q) (fun _ i _ => len - (intOf i).toNat)
  case atStart => exact ⟨0, 0, [], rfl, Lc.nil w, rfl⟩
  case round =>
    obtain ⟨k, q, l, rfl, hL, hRd⟩ := hrel
    obtain ⟨q1, q2⟩ := rds_le HBY.out (Nat.zero_le _) hRd
    rw [List.length_map, hL.2.1] at q1
    obtain ⟨va, vc, rfl⟩ := form_of hL.1
    rcases Nat.lt_or_ge q len with hlt | hge
    · obtain ⟨b, off, rfl, _, _⟩ := HR.out.2.2.2.resolve_left (by omega)
      have DE := hidden (decode base wr (some ⟨b, off + q, none⟩) (len - q) (cap - q) (zs.drop q) (drop_row (HR.out.later hL.2.2.2) hlt) (by omega) (fun h => by cases h))
      have HL := hidden hL
      have HRD := hidden hRd
      have i1 : (q : Int) < (len : Int) := by omega
      have i2 : (q : Int) ≤ (cap : Int) := by omega
      have i3 : ¬ cap = q := by omega
      have i4 : ¬ q = cap := by omega
      have i5 : (q : Int) ≤ (len : Int) := by omega
      clear hL hRd
      go_wp2_with fail
      refine Calls.mono DE.out ?_
      rintro e w1 ⟨c, m, er, rfl, ⟨y, hD, hv⟩, hbad, hC, b1⟩
      obtain ⟨W, hS, hbx, hbw⟩ := newvar w1 c
      have b2 := b1.trans (hbw.mono b1.size)
      have HC := hidden (hC.later hbw)
      have HD := hidden hD
      have HV := hidden hv
      have HBAD := hidden hbad
      have HB2 := hidden b2
      have HX := hidden hbx
      clear hC hD hv hbad b1 b2 hbx hbw DE
      by_cases he : er = 0
      · subst he
        have HVV := hidden (HV.out rfl)
        have l1 := HX.out.ld
        obtain ⟨r1, r2, r3, r4⟩ := read_ok (zs.drop q) (fun x hx => HBY.out x (List.mem_of_mem_drop hx)) y m HD.out
        rw [List.length_drop] at r4
        have HB3 := hidden (HB2.out.trans ((below_box W c).mono HB2.out.size))
        have hs3 := (HL.out.2.2.2.trans (HB3.out.mono HL.out.2.2.2.size)).size
        have HOW := hidden ((HL.out.later HB3.out).1)
        clear r1 r2
        go_wp2_with (at_builtin; refine wpList_append_at rfl _ _ 23 rfl w.heap.size 39 i0 (cv (zck 0)) Try.underlying23 hi hz0 (by rw [hz1]; rfl) (by rw [hz1]; decide) _ _ _ rfl (by rw [hz1]; exact HOW.out) ⟨W.heap.size, 0, none⟩ 1 1 (cc c).toList rfl (by rw [hz1]; rfl) (cells_cc W c) (cc_one c) (by decide) ?c3 ?c4 ?c5 ?_)
        case c3 => unfold maxLen; omega
        case c4 => rw [hz2]; omega
        case c5 => exact hs3
        intro v3 w3 ho3 hg3 hw3
        have HM := hidden (HL.out.more HB3.out (HC.out.later (below_box W c)) ho3 hg3 (by rw [World.size_alloc]; exact hw3))
        clear ho3 hg3 hw3 HOW
        go_wp2
        go_roundw
        case rel => exact ⟨k + 1, q + m, l ++ [c], by go_num, HM.out, by rw [List.map_append]; exact HRD.out.snoc (by omega) (by rw [HVV.out]; exact HD.out)⟩
        case measure => simp [intOf]; omega
      · have hne := bne_t he
        have HB3 := hidden (HL.out.2.2.2.trans (HB2.out.mono HL.out.2.2.2.size))
        have HE := hidden he
        clear he
        go_wp2
        go_ret3
        exact ⟨none, 0, 0, [], q, er, rfl, Cks.nil _ _ _, .inr ⟨HE.out, rfl, _, y, m, HRD.out, by omega, HD.out⟩, HB3.out⟩
    · obtain ⟨pa, pcap, e, hck⟩ := hL.cks (by omega)
      cases e
      have HCK := hidden hck
      have HO := hidden (show AllOut zs (l.map val) 0 0 from .inl ⟨rfl, rfl, q, hRd, by omega⟩)
      have HB := hidden hL.2.2.2
      clear hck hL hRd
      go_wp2
      go_ret3
      exact ⟨_, _, _, l, 0, 0, rfl, HCK.out, HO.out, HB.out⟩
theorem vals_step {ps qs : List Ck} {k : Nat} {p q : Ck} (hp : ps[k]? = some p) (hq : qs[k]? = some q) (h : (ps.take k).map val = (qs.take k).map val) (e : val p = val q) : (ps.take (k + 1)).map val = (qs.take (k + 1)).map val := by
  rw [List.take_add_one, List.take_add_one, hp, hq, List.map_append, List.map_append, h]
  simp [e]
theorem vals_at {ps qs : List Ck} {k : Nat} {p q : Ck} (hp : ps[k]? = some p) (hq : qs[k]? = some q) (h : ps.map val = qs.map val) : val p = val q := by
  have e := congrArg (fun l => l[k]?) h
  simp only [List.getElem?_map, hp, hq, Option.map_some, Option.some.injEq] at e
  exact e
set_option maxRecDepth 20000 in
set_option maxHeartbeats 1000000 in
theorem rAllSame (base base' : Nat) (w : World) (pa qa : Option Addr) (n m pcap qcap : Nat) (ps qs : List Ck) (hp : Cks base w pa n ps) (hq : Cks base' w qa m qs) :
    Calls Try.prog 6 #[.slice pa n pcap, .slice qa m qcap] w fun e w' => ∃ t : Bool, e = .returned (.bool t) ∧ (t = true ↔ ps.map val = qs.map val) ∧ Below w.heap.size w w' := by
  have HP := hidden hp
  have HQ := hidden hq
  have hpl := hp.1
  have hql := hq.1
  have hnl := hp.2.1
  have hml := hq.2.1
  clear hp hq
  by_cases hm : n = m
  · subst hm
    go_enter Try.func6, Try.ntmps6
    go_wp2_with fail
    go_loopw [5] (fun i wr => ∃ k : Nat, k ≤ n ∧ i = .int .i64 k ∧ (ps.take k).map val = (qs.take k).map val ∧ Below w.heap.size w wr) (fun i _ => n - (intOf i).toNat)
    case atStart => exact ⟨0, Nat.zero_le _, rfl, rfl, Below.refl _ _⟩
    case round =>
      obtain ⟨k, hk, rfl, hsame, hbl⟩ := hrel
      rcases Nat.lt_or_ge k n with hlt | hge
      · obtain ⟨b, off, c, rfl, hpk, hl1, hc1⟩ := (HP.out.later hbl).get hlt
        obtain ⟨b', off', d, rfl, hqk, hl2, hc2⟩ := (HQ.out.later hbl).get hlt
        have HPK := hidden hpk
        have HQK := hidden hqk
        have HSA := hidden hsame
        have HB := hidden hbl
        have HK := hidden (show ∀ x, Below w.heap.size w x → ((ld (.pointer (some ⟨b, off + k * 15, none⟩))).run Try.prog x = .ok (cv c) x ∧ (ld (.pointer (some ⟨b', off' + k * 15, none⟩))).run Try.prog x = .ok (cv d) x ∧ Below w.heap.size w x) from fun x hx => by
          obtain ⟨b0, o0, c0, e0, hp0, h0, _⟩ := (HP.out.later hx).get hlt
          obtain ⟨b1, o1, c1, e1, hp1, h1, _⟩ := (HQ.out.later hx).get hlt
          cases e0
          cases e1
          rw [hpk] at hp0
          rw [hqk] at hp1
          cases hp0
          cases hp1
          exact ⟨h0, h1, hx⟩)
        have SM := hidden (show ∀ x, Below w.heap.size w x → Calls Try.prog 11 #[cv c, cv d] x fun e w' => ∃ t : Bool, e = .returned (.bool t) ∧ (t = true ↔ val c = val d) ∧ Below w.heap.size w w' from fun x hx => by
          obtain ⟨b0, o0, c0, e0, hp0, h0, k0⟩ := (HP.out.later hx).get hlt
          obtain ⟨b1, o1, c1, e1, hp1, h1, k1⟩ := (HQ.out.later hx).get hlt
          cases e0
          cases e1
          rw [hpk] at hp0
          rw [hqk] at hp1
          cases hp0
          cases hp1
          refine (rSame base base' x c d k0.2 k1.2).mono ?_
          rintro e w' ⟨t, rfl, h, b⟩
          exact ⟨t, rfl, h, hx.trans (b.mono hx.size)⟩)
        have HB0 := hidden (show Below w.heap.size w wr.drew from Par.below_drewN hbl 1)
        clear hpk hqk hsame hbl hc1 hc2 hl1 hl2
        go_wp2_with fail
        go_region_held3 (fun x => (ld (.pointer (some ⟨b, off + k * 15, none⟩))).run Try.prog x = .ok (cv c) x ∧ (ld (.pointer (some ⟨b', off' + k * 15, none⟩))).run Try.prog x = .ok (cv d) x ∧ Below w.heap.size w x)
          (first | (exact HK.out _ HB0.out) | (exact HK.out _ (by assumption)))
          (first
            | (go_at_call 11; refine Calls.mono (SM.out _ (by assumption)) ?_; rintro e w2 ⟨tt, rfl, h1, B2⟩))
        have H1 := hidden h1
        clear h1
        cases tt with
        | true =>
          go_wp2
          go_roundw
          case rel => exact ⟨k + 1, by omega, by go_num, vals_step HPK.out HQK.out HSA.out (H1.out.1 (by simp)), B2⟩
          case measure => simp [intOf]; omega
        | false =>
          go_wp2
          go_ret
          exact ⟨false, rfl, ⟨fun h => (by cases h), fun h => (by simpa using H1.out.2 (vals_at HPK.out HQK.out h))⟩, B2⟩
      · obtain rfl : n = k := by omega
        rw [List.take_of_length_le (by omega), List.take_of_length_le (by omega)] at hsame
        have HSA := hidden hsame
        clear hsame
        go_wp2
        go_ret
        exact ⟨true, rfl, ⟨fun _ => HSA.out, fun _ => rfl⟩, hbl⟩
  · have hne : ¬ (n : Int) = (m : Int) := by omega
    go_enter Try.func6, Try.ntmps6
    go_wp2
    go_ret
    refine ⟨false, rfl, ⟨fun h => (by cases h), fun h => ?_⟩, Below.refl _ _⟩
    have := congrArg List.length h
    simp only [List.length_map] at this
    omega
/-- the bytes from a chunk on -/
theorem encA_drop {vs : List Ch} {i : Nat} {v : Ch} (h : ∀ u ∈ vs, chk u = 0) (hv : vs[i]? = some v) : (encA vs).drop (tot (vs.take i)) = encC v ++ encA (vs.drop (i + 1)) := by
  have hl := encA_len (vs := vs.take i) (fun u hu => h u (List.mem_of_mem_take hu))
  have hi := (List.getElem?_eq_some_iff.1 hv)
  have e : vs = vs.take i ++ (v :: vs.drop (i + 1)) := by
    obtain ⟨h1, h2⟩ := hi
    rw [← h2, List.getElem_cons_drop, List.take_append_drop]
  have e2 : encA vs = encA (vs.take i) ++ (encC v ++ encA (vs.drop (i + 1))) := by
    rw [show encA vs = encA (vs.take i ++ (v :: vs.drop (i + 1))) from congrArg encA e]
    simp [encA]
  rw [e2, ← hl, List.drop_left]
theorem tot_lt {vs : List Ch} {i : Nat} {v : Ch} (hv : vs[i]? = some v) : tot (vs.take i) + clen v ≤ tot vs := by
  rw [← tot_snoc hv]
  exact tot_take vs (i + 1)
end Go.Proofs.Ytifdkpifambhaab.Chu
