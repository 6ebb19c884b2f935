/-
  What NetWhole says is true for every number of paths, every run of acts, all bytes and every time: a packet that nobody spoils is delivered as it was sent (P9.8). Conditions: none.
-/
import Derived.Test.YtmogacccffkkbaaRows
import Derived.WalkKit
import Derived.ProofKit
import Derived.OpenShut
import Derived.ShutString
import Derived.ChangeOld
import Derived.Below
import Derived.SizedLaws
import Derived.Deep.DeepHandedRow
import Derived.LaidLaws
import Derived.ChangeMaps5
import Derived.Test.YtmogacccffkkbaaNtAl
import Derived.Test.YtmogacccffkkbaaNtArg
namespace Go.Proofs.Ytmogacccffkkbaa.netWhole
open Go.ChangeShapes Go.WideShapes Go.ChangeAt Go.RowKit
open Go.ChangeMaps (open_string shut_string)
set_option linter.unusedVariables false

theorem own : ownKnob Try.prog.godebug = none := by kernel_rfl
theorem laidOut : laidOutB Try.prog = true := by kernel_rfl

open Ba (hidden Has Only In)
/-- bytes of any length laid in a row of their own -/
theorem own_bytes {w : World} {base B0 : Nat} (hE : w.ownsRow base 5 1 (.slice (some ⟨B0, 0, none⟩) 0 0) 0 []) (hbase : base ≤ w.heap.size) {a : Option Addr} {n cap : Nat} {bs : List Int} (hby : Nt.By base w a n bs) (hnil : a = none → cap = 0) (hn : n ≤ 140737488351232) (ty : TypeId) :
    ∃ g' c' w', (Builtin.append_ #[32, 32] ty #[.slice (some ⟨B0, 0, none⟩) 0 0, .slice a n cap]).run Try.prog w = .ok (.slice (some ⟨g', 0, none⟩) n c') w' ∧ w'.ownsRow base 5 1 (.slice (some ⟨g', 0, none⟩) n c') n (bs.map (.int .u8)) ∧ w.grownBy w' (some B0) := by
  cases ha : a with
  | none =>
    subst ha
    have hn0 : n = 0 := by
      rcases hby.2.2 with h | ⟨b, off, h, _⟩
      · exact h
      · cases h
    subst hn0
    obtain rfl := List.eq_nil_of_length_eq_zero hby.1
    rw [hnil rfl]
    obtain ⟨i, hi, _, hz, _⟩ := info_parts Nt.info_u8
    exact ⟨B0, 0, w, run_append_owned_none (P := Try.prog) (w := w) base 32 ty 5 i 1 Try.underlying32 hi _ 0 [] hE, hE, ⟨rfl, rfl, rfl, Nat.le_refl _, fun _ _ _ => rfl⟩⟩
  | some ad =>
    subst ha
    obtain ⟨v', w', hr, g1, g2, g3⟩ := Ba.append_at (P := Try.prog) (ty := ty) (m := n) (c := cap) (ad := ad) (news := bs.map (.int .u8)) Try.underlying32 Nt.info_u8 rfl (by decide) hE (by rw [List.length_map, hby.1, Nat.mul_one])
      (fun j u hj => by
        have hjl : j < n := by have := (List.getElem?_eq_some_iff.1 hj).1; rw [List.length_map, hby.1] at this; exact this
        rcases hby.2.2 with h | ⟨b, off, h, _, _, hc⟩
        · omega
        · cases h
          rw [Go.WideShapes.add_plain, hc j hjl, List.getD_eq_getElem?_getD]
          rw [List.getElem?_map] at hj
          rw [List.getElem?_eq_getElem (by rw [hby.1]; exact hjl)] at hj ⊢
          exact hj) (by intro u hu; obtain ⟨z, _, rfl⟩ := List.mem_map.1 hu; rfl) (.inr (by simp [Value.ownBlock])) (by unfold maxLen; omega) (by omega) hbase
    rw [Nat.zero_add, List.nil_append] at g1
    obtain ⟨a', c', rfl⟩ := Ba.own_len g1
    have g3' : (Value.slice a' n c').ownBlock = some B0 ∨ (Value.slice a' n c').ownBlock = some w.heap.size := g3
    have hform : ∃ g', a' = some ⟨g', 0, none⟩ := by
      rcases g1.2 with ⟨h1, h2⟩ | ⟨g, cap2, cur, h1, _⟩
      · cases h1
        rcases g3' with h | h <;> cases h
      · cases h1; exact ⟨g, rfl⟩
    obtain ⟨g', rfl⟩ := hform
    exact ⟨g', c', w', hr, g1, g2⟩
theorem own_has {w : World} {base g n c : Nat} {xs : List Value} (h : w.ownsRow base 5 1 (.slice (some ⟨g, 0, none⟩) n c) n xs) : base ≤ g ∧ ∃ cur, Has w g cur 5 := by
  rcases h.2 with ⟨hh, _⟩ | ⟨g', cap', cur, hh, hb, hg, _⟩
  · cases hh
  · cases hh; exact ⟨hb, cur, hg⟩
theorem by_own {w : World} {base g n c : Nat} {bs : List Int} (h : w.ownsRow base 5 1 (.slice (some ⟨g, 0, none⟩) n c) n (bs.map (.int .u8))) (hl : bs.length = n) (hb : Nt.Bytes bs) : Nt.By base w (some ⟨g, 0, none⟩) n bs := by
  obtain ⟨_, cur, hc⟩ := own_has h
  refine ⟨hl, hb, .inr ⟨g, 0, rfl, hc.lt, .inr ⟨_, _, hc⟩, fun j hj => ?_⟩⟩
  rw [Nat.zero_add, h.cellAt j (by omega), List.getElem?_map, List.getD_eq_getElem?_getD, List.getElem?_eq_getElem (by omega)]
  rfl
/-- acts on other paths leave the first one -/
theorem act_other (o : Nt.Op) (S : Nt.St) (h : o.path ≠ 0) : (Nt.act_ o S).R 0 0 = S.R 0 0 := by
  have key : ∀ {i e : Nat} {r : Nt.Rw}, i ≠ 0 → Nt.up2 S.R i e r 0 0 = S.R 0 0 := fun {i e r} hi => Nt.up2_ne _ _ (fun hh => hi hh.1.symm)
  have kok : ∀ {en : Int}, Nt.ok S en o.path = true → o.path.toNat ≠ 0 := fun {en} hk => by have := (Nt.ok_iff.1 hk).2; omega
  have ktr : ∀ {i : Int}, Nt.trE S o.en o.path i = 0 → o.path.toNat ≠ 0 := fun {i} hk => kok (Nt.trE_iff.1 hk).1
  have klo : ∀ {e e2 : Nat}, o.path.toNat ≠ 0 → (Nt.loseS (Nt.loseS S o.path.toNat e) o.path.toNat e2).R 0 0 = S.R 0 0 := fun {e e2} hk => by
    show Nt.up2 (Nt.up2 S.R o.path.toNat e _) o.path.toNat e2 _ 0 0 = _
    rw [Nt.up2_ne _ _ (fun hh => hk hh.1.symm), key hk]
  have kpt : ∀ {e : Nat} {f : Bool} {pk : Nt.Pk}, o.path.toNat ≠ 0 → (Nt.putS (Nt.cnt S o.path.toNat e f) o.path.toNat e pk).R 0 0 = S.R 0 0 := fun {e f pk} hk => by
    show Nt.up2 (Nt.up2 S.R o.path.toNat e _) o.path.toNat e _ 0 0 = _
    rw [Nt.up2_ne _ _ (fun hh => hk hh.1.symm), key hk]
  have kla : ∀ {f : Bool}, (Nt.laS S o.en o.path o.now o.bs f).R 0 0 = S.R 0 0 := fun {f} => by
    unfold Nt.laS
    split
    · next h0 => exact kpt (kok (Nt.laE_zero h0).1)
    · rfl
  have kta : ∀ {g : Nt.Tr → Nt.Tr}, (Nt.takeS S o.en o.path o.i g).R 0 0 = S.R 0 0 := fun {g} => by
    unfold Nt.takeS
    split
    · next h0 => exact key (ktr h0)
    · rfl
  unfold Nt.act_
  split
  · exact kla
  split
  · exact kla
  split
  · exact kta
  split
  · exact kta
  split
  · unfold Nt.twS
    split
    · next h0 => exact kpt (ktr h0)
    · rfl
  split
  · unfold Nt.spS
    split
    · next h0 =>
      have h1 : Nt.trE S o.en o.path o.i = 0 := by
        unfold Nt.spE at h0
        split at h0
        · assumption
        · exact h0
      exact key (ktr h1)
    · rfl
  split
  · unfold Nt.dnS
    split
    · next h0 => exact klo (by have : 0 ≤ o.path ∧ o.path < (S.p : Int) := of_decide_eq_true h0; omega)
    · rfl
  split
  · unfold Nt.upS
    split <;> rfl
  · rfl
theorem act_p (o : Nt.Op) (S : Nt.St) : (Nt.act_ o S).p = S.p := by
  unfold Nt.act_ Nt.laS Nt.takeS Nt.twS Nt.spS Nt.dnS Nt.upS
  repeat' split
  all_goals rfl
/-- the network whose first path has one packet on its way -/
structure Wh (base : Nat) (w0 w : World) (t p : Nat) (bs : List Int) (now : Int) (S : Nt.St) (k : Int) : Prop where
  net : ∃ b vs, Nt.No base w t b vs S
  bel : Below base w0 w
  inv : Nt.Inv S
  few : S.next ≤ k
  pp : S.p = p
  one : (S.R 0 0).L = [⟨0, now, bs.length, false, bs⟩]
set_option maxHeartbeats 8000000 in
set_option maxRecDepth 20000 in

theorem walk (a0 : Int) (a1 : Option Addr) (len1 cap1 : Nat) (z1 : List Nt.Oq) (a2 : Option Addr) (len2 cap2 : Nat) (z2 : List (Int)) (a3 : Int) (w : World) (w0 : (Lit.int .i64 a0).wf = true) (w1 : Nt.OpsR w a1 len1 z1) (w2 : Ag.Rows (fun n : Int => [.int .u8 n]) (fun n => (Lit.int .u8 n).wf = true) 1 w a2 len2 z2) (s2 : len2 ≤ cap2 ∧ cap2 * Try.prog.bytesOf 5 ≤ 140737488351232 ∧ (a2 = none → len2 = 0 ∧ cap2 = 0)) (w3 : (Lit.int .i64 a3).wf = true) :
    Calls Try.prog 5 #[.int .i64 a0, .slice a1 len1 cap1, .slice a2 len2 cap2, .int .i64 a3] w fun e w' => e = .returned (.bool true) ∧ Below w.heap.size w w' := by
  have AW := hidden Nt.awake
  have HZ := hidden w1
  have hlen : len1 ≤ 140737488355328 := w1.2.2.1
  by_cases hp : 1 ≤ a0 ∧ a0 ≤ 8
  · obtain ⟨p, rfl⟩ : ∃ p : Nat, a0 = (p : Int) := ⟨a0.toNat, by omega⟩
    have hpn : 1 ≤ p ∧ p ≤ 8 := by omega
    have NW := hidden (Nt.new p hpn w)
    have hI0 : Nt.Inv (Nt.fresh p) := Nt.inv_fresh hpn.2
    have HI0 := hidden hI0
    have HI0' : Hid (Nt.Inv (Nt.fresh 0)) := Nt.inv_fresh (by decide)
    have hby0 : Nt.By w.heap.size w a2 len2 z2 := Nt.InB.by w2
    have HBY := hidden hby0
    have hcap : len2 ≤ 140737488351232 := by
      have h1 := s2.1
      have h2 := s2.2.1
      have h3 : Try.prog.bytesOf 5 = 1 := by kernel_rfl
      rw [h3] at h2
      omega
    have HNIL : Hid (a2 = none → cap2 = 0) := fun e => (s2.2.2 e).2
    have hzl : z2.length = len2 := hby0.1
    have ACT : Hid (∀ (x : World) (t r p : Nat) (S : Nt.St) (k : Int) (o : Nt.Op) (a : Option Addr) (n cap : Nat), r = x.heap.size → Wh w.heap.size w x t p z2 a3 S k → k ≤ 999 → o.path ≠ 0 → Nt.By w.heap.size x a n o.bs → (a = none → cap = 0) → 0 ≤ o.bits ∧ o.bits < 256 → Calls Try.prog 10 #[.pointer (some ⟨t, 0, none⟩), .pointer (some ⟨r, 0, none⟩), .agg #[.int .i64 o.kind, .int .i64 o.en, .int .i64 o.path, .int .i64 o.i, .int .i64 o.at_, .int .i64 o.now, .int .u8 o.bits, .slice a n cap]] (x.alloc (.cells #[.slice none 0 0, .slice none 0 0, .int .i64 0] 40)) fun e' w' => ∃ β, e' = .returned (.bool β) ∧ Wh w.heap.size w w' t p z2 a3 (Nt.act_ o S) (k + 1)) := fun x t r p S k o a n cap hr hW hk hop hb hnil hbi => by
      subst hr
      obtain ⟨b, vs, hN⟩ := hW.net
      have hB := hW.bel
      have hBx : Below x.heap.size x (x.alloc (.cells #[.slice none 0 0, .slice none 0 0, .int .i64 0] 40)) := (Below.refl _ x).alloc (Nat.le_refl _) _
      have hP : Nt.Pn w.heap.size w (x.alloc (.cells #[.slice none 0 0, .slice none 0 0, .int .i64 0] 40)) t x.heap.size S (Nt.fresh 0) := ⟨⟨b, vs, hN.later hBx⟩, ⟨_, _, fun _ => 0, fun _ _ => .slice none 0 0, fun _ _ => [], ⟨hB.size, Has.new x _ _, World.ownsRow_nil _ _ _ _, World.ownsRow_nil _ _ _ _, fun i hi => absurd hi (Nat.not_lt_zero _), fun i hi => absurd hi (Nat.not_lt_zero _), fun i j hi => absurd hi (Nat.not_lt_zero _), fun i e => rfl, fun i e => World.ownsRow_nil _ _ _ _, fun i e i' e' k hk => (by cases hk), fun i e x hx => (by cases hx), fun i e => List.nodup_nil, fun i e i' e' x y hx => (by cases hx)⟩⟩, hB.trans (hBx.mono hB.size), Nat.le_refl _⟩
      refine Calls.mono (Nt.act hP hW.inv (by have := hW.few; omega) HI0'.out (by decide) o (hb.later hBx) hnil hbi) ?_
      rintro e' w' ⟨β, rfl, _, hP2⟩
      have hA := Nt.act_inv hW.inv o hb.2.1 hbi
      exact ⟨β, rfl, ⟨hP2.c, hP2.b, hA.1, by have := hA.2; have := hW.few; omega, (act_p o S).trans hW.pp, by rw [act_other o S hop]; exact hW.one⟩⟩
    have SND : Hid (∀ (x : World) (t b : Nat) (g c : Nat), Nt.No w.heap.size x t b (fun _ _ => .slice none 0 0) (Nt.fresh p) → Below w.heap.size w x → x.ownsRow w.heap.size 5 1 (.slice (some ⟨g, 0, none⟩) len2 c) len2 (z2.map (.int .u8)) → Calls Try.prog 14 #[.pointer (some ⟨t, 0, none⟩), .int .i64 0, .int .i64 0, .slice (some ⟨g, 0, none⟩) len2 c, .int .i64 a3] x fun e' w' => e' = .returned (.tuple #[.int .i64 0, .int .i64 (Nt.laE (Nt.fresh p) 0 0 a3 z2.length)]) ∧ Below w.heap.size w w' ∧ w'.ownsRow w.heap.size 5 1 (.slice (some ⟨g, 0, none⟩) len2 c) len2 (z2.map (.int .u8)) ∧ (Nt.laE (Nt.fresh p) 0 0 a3 z2.length = 0 → Wh w.heap.size w w' t p z2 a3 (Nt.laS (Nt.fresh p) 0 0 a3 z2 false) 1)) := fun x t b g c hN hB ho => by
      refine Calls.mono (Nt.send hN HI0.out (show (0 : Int) ≤ 1000 by decide) hB.size 0 0 a3 (cap := c) (by_own ho hzl HBY.out.2.1)) ?_
      rintro e' w' ⟨rfl, hE, hK⟩
      have hB2 := hB.trans (hK.below hB.size)
      refine ⟨by unfold Nt.laI; split <;> rfl, hB2, hK.own ho rfl, fun h0 => ⟨⟨b, hE⟩, hB2, HI0.out.la 0 0 a3 false HBY.out.2.1, (Nt.laS_next 0 0 a3 false).2, ?_, ?_⟩⟩
      · unfold Nt.laS; split <;> rfl
      · unfold Nt.laS
        rw [if_pos h0]
        rfl
    have hbits : ∀ (z : Int), (binOp .xor 5 (.int .u8 z) (.int .u8 255)) = (binOp .xor 5 (.int .u8 z) (.int .u8 255)) := fun _ => rfl
    clear w0 w1 w2 s2 hI0 hby0 hbits
    go_enter Try.func5, Try.ntmps5
    go_wp2_with fail
    refine Calls.mono NW.out ?_
    rintro e x1 ⟨t, b, rfl, hN, hB1⟩
    have hB1' : Below w.heap.size w (x1.alloc (.cells #[] 5)) := hB1.alloc hB1.size _
    have hEm : (x1.alloc (.cells #[] 5)).ownsRow w.heap.size 5 1 (.slice (some ⟨x1.heap.size, 0, none⟩) 0 0) 0 [] := World.ownsRow_made x1 #[] 0 hB1.size (by unfold maxLen; omega) rfl
    obtain ⟨g, c, x3, hrun, hown, hgr⟩ := own_bytes hEm hB1'.size (HBY.out.later hB1') HNIL.out hcap 32
    have hO3 : Only [x1.heap.size] (x1.alloc (.cells #[] 5)) x3 := Only.grown hgr (by intro k hk; simp at hk; simp [hk])
    have hK3 : Nt.Kept (fun t => t == 5) w.heap.size (x1.alloc (.cells #[] 5)) x3 := Nt.Kept.grown hEm rfl hgr
    have hN3 : Nt.No w.heap.size x3 t b (fun _ _ => .slice none 0 0) (Nt.fresh p) := (hN.later ((Below.refl _ x1).alloc (Nat.le_refl _) _)).stay hK3 rfl rfl rfl
    have hB3 : Below w.heap.size w x3 := hB1'.trans (hK3.below hB1'.size)
    have SE := hidden (SND.out x3 t b g c hN3 hB3 hown)
    have HRN := hidden hrun
    clear hN hB1 hB1' hEm hrun hown hgr hO3 hK3 hN3 hB3 NW SND
    go_wp2_with (at_builtin; refine Rg.wpList_app rfl _ _ 32 rfl rfl rfl HRN.out ?_)
    refine Calls.mono SE.out ?_
    rintro e x4 ⟨rfl, hB4, hown4, hWh⟩
    by_cases hE : Nt.laE (Nt.fresh p) 0 0 a3 z2.length = 0
    · have HWh := hidden (hWh hE)
      have HO4 := hidden hown4
      rw [hE]
      obtain ⟨S0, hS0⟩ : ∃ S0, S0 = Nt.laS (Nt.fresh p) 0 0 a3 z2 false := ⟨_, rfl⟩
      rw [← hS0] at HWh
      have HGB := hidden (own_has hown4).1
      have hl6 : len2 ≤ 65536 := by rw [← hzl]; exact (Nt.laE_zero hE).2.2
      clear hB4 hown4 hWh hE SE HRN hS0
      go_wp2_with fail
      go_loopw [52] (fun iv wr => ∃ (q : Int) (zs : List Int), iv = .int .i64 q ∧ Hid (Wh w.heap.size w wr t p z2 a3 S0 1 ∧ wr.ownsRow w.heap.size 5 1 (.slice (some ⟨g, 0, none⟩) len2 c) len2 (zs.map (.int .u8)) ∧ zs.length = len2) ∧ 0 ≤ q ∧ q ≤ (len2 : Int)) (fun iv _ => len2 - (intOf iv).toNat)
      case atStart => exact ⟨0, z2, rfl, ⟨HWh.out, HO4.out, hzl⟩, by omega, by omega⟩
      case round =>
        obtain ⟨q, zs, rfl, HQ, j1, j2⟩ := hrel
        by_cases hq : q < (len2 : Int)
        · obtain ⟨hW, ho, hzl2⟩ := HQ.out
          have hqn : q.toNat < zs.length := by omega
          have cq : wr.cell? ⟨g, q.toNat, none⟩ = some (.int .u8 (zs.getD q.toNat 0)) := by
            rw [ho.cellAt q.toNat (by omega), List.getElem?_map, List.getD_eq_getElem?_getD, List.getElem?_eq_getElem hqn]
            rfl
          have fq := ho.frozenAt q.toNat
          have NX : Hid (∀ y, Wh w.heap.size w (wr.setCell ⟨g, q.toNat, none⟩ (.int .u8 y)) t p z2 a3 S0 1 ∧ (wr.setCell ⟨g, q.toNat, none⟩ (.int .u8 y)).ownsRow w.heap.size 5 1 (.slice (some ⟨g, 0, none⟩) len2 c) len2 ((zs.set q.toNat y).map (.int .u8)) ∧ (zs.set q.toNat y).length = len2) := fun y => by
            obtain ⟨hgb, cur, hcur⟩ := own_has ho
            have hK : Nt.Kept (fun t => t == 5) w.heap.size wr (wr.setCell ⟨g, q.toNat, none⟩ (.int .u8 y)) := (Nt.Kept.refl _ _ _).set (p := ⟨g, q.toNat, none⟩) hcur rfl hgb _
            obtain ⟨b2, vs2, hN2⟩ := hW.net
            refine ⟨⟨⟨b2, vs2, hN2.stay hK rfl rfl rfl⟩, hW.bel.trans (hK.below hW.bel.size), hW.inv, hW.few, hW.pp, hW.one⟩, ?_, by rw [List.length_set]; exact hzl2⟩
            have := (ho.stored q.toNat (.int .u8 y)).1
            rw [List.map_set]
            exact this
          generalize zs.getD q.toNat 0 = yy at cq
          clear hW ho hzl2 hqn HQ
          go_wp2
          go_roundw
          case rel => exact ⟨_, _, rfl, NX.out _, by omega, by omega⟩
          case measure => simp [intOf]; omega
        · have HW0 := hidden HQ.out.1
          clear HQ
          go_wp2_with fail
          go_loopw [15] (fun iv wr => ∃ (q : Int) (S : Nt.St), iv = .int .i64 q ∧ Hid (Wh w.heap.size w wr t p z2 a3 S (q + 1)) ∧ 0 ≤ q ∧ q ≤ 400 ∧ q ≤ (len1 : Int)) (fun iv _ => 400 - (intOf iv).toNat)
          case atStart => exact ⟨0, S0, rfl, HW0.out, by omega, by omega, by omega⟩
          case round =>
            obtain ⟨q2, S, rfl, HQ2, k1, k2, k3⟩ := hrel
            by_cases hgo : q2 < (len1 : Int) ∧ q2 < 400
            · obtain ⟨hq1, hq2⟩ := hgo
              obtain ⟨b', off, z, rfl, _, c0, c1, c2, c3, c4, c5, c6, c7, hby, hnil, hbi⟩ := HZ.out.at HQ2.out.bel (j := q2.toNat) (by omega)
              have hbl : b' < wr.heap.size := Ba.cell_lt c0
              by_cases hpz : z.1.path = 0
              · have HL : Hid (∀ o, Wh w.heap.size w (wr.alloc o) t p z2 a3 S (q2 + 1 + 1)) := fun o => by
                  obtain ⟨b2, vs2, hN2⟩ := HQ2.out.net
                  have hBo : Below wr.heap.size wr (wr.alloc o) := (Below.refl _ _).alloc (Nat.le_refl _) o
                  exact ⟨⟨b2, vs2, hN2.later hBo⟩, HQ2.out.bel.alloc HQ2.out.bel.size o, HQ2.out.inv, by have := HQ2.out.few; omega, HQ2.out.pp, HQ2.out.one⟩
                rw [hpz] at c2
                generalize z.1 = o at *
                generalize z.2.1 = za at *
                generalize z.2.2.1 = zn at *
                generalize z.2.2.2 = zc at *
                clear hby hnil hbi HQ2 hpz
                go_wp2
                go_roundw
                case rel => exact ⟨_, _, rfl, HL.out _, by omega, by omega, by omega⟩
                case measure => simp [intOf]; omega
              · have AC : Hid (∀ o r, r = (wr.alloc o).heap.size → Calls Try.prog 10 #[.pointer (some ⟨t, 0, none⟩), .pointer (some ⟨r, 0, none⟩), .agg #[.int .i64 z.1.kind, .int .i64 z.1.en, .int .i64 z.1.path, .int .i64 z.1.i, .int .i64 z.1.at_, .int .i64 z.1.now, .int .u8 z.1.bits, .slice z.2.1 z.2.2.1 z.2.2.2]] ((wr.alloc o).alloc (.cells #[.slice none 0 0, .slice none 0 0, .int .i64 0] 40)) fun e' w' => ∃ β, e' = .returned (.bool β) ∧ ∃ S', Wh w.heap.size w w' t p z2 a3 S' (q2 + 1 + 1)) := fun o r hr => by
                  obtain ⟨b2, vs2, hN2⟩ := HQ2.out.net
                  have hBo : Below wr.heap.size wr (wr.alloc o) := (Below.refl _ _).alloc (Nat.le_refl _) o
                  refine Calls.mono (ACT.out (wr.alloc o) t r p S (q2 + 1) z.1 z.2.1 z.2.2.1 z.2.2.2 hr ⟨⟨b2, vs2, hN2.later hBo⟩, HQ2.out.bel.alloc HQ2.out.bel.size o, HQ2.out.inv, HQ2.out.few, HQ2.out.pp, HQ2.out.one⟩ (by omega) hpz (hby.later hBo) hnil hbi) ?_
                  rintro e' w' ⟨β, rfl, hW⟩
                  exact ⟨β, rfl, _, hW⟩
                have hpz' : (z.1.path == 0) = false := beq_eq_false_iff_ne.2 hpz
                generalize z.1 = o at *
                generalize z.2.1 = za at *
                generalize z.2.2.1 = zn at *
                generalize z.2.2.2 = zc at *
                clear hby hnil hbi HQ2
                go_wp2_with fail
                refine Calls.mono (AC.out _ _ (by simp)) ?_
                rintro e x5 ⟨β, rfl, S', hW5⟩
                have HW5 := hidden hW5
                clear hW5 AC c0 c1 c2 c3 c4 c5 c6 c7
                go_wp2
                go_roundw
                case rel => exact ⟨_, S', rfl, HW5.out, by omega, by omega, by omega⟩
                case measure => simp [intOf]; omega
            · obtain ⟨b2, vs2, hN2⟩ := HQ2.out.net
              have hok : Nt.ok S 0 0 = true := Nt.ok_iff.2 ⟨⟨by decide, by decide⟩, by decide, by rw [HQ2.out.pp]; omega⟩
              have hone : (S.R 0 0).L = [⟨0, a3, z2.length, false, z2⟩] := HQ2.out.one
              have hnx : S.next ≤ 1000 := by have := HQ2.out.few; omega
              have FL := hidden (Nt.flying_ok hN2 hok HQ2.out.inv.p (by show (S.R 0 0).L.length ≤ 1000; rw [hone]; simp))
              have DE : Hid (∀ x, Below wr.heap.size wr x → Calls Try.prog 15 #[.pointer (some ⟨t, 0, none⟩), .int .i64 0, .int .i64 0, .int .i64 0] x fun e' w' => ∃ a k, e' = .returned (.tuple #[.slice a len2 k, .int .i64 0]) ∧ Nt.By w.heap.size w' a len2 z2 ∧ Below w.heap.size w w') := fun x hB => by
                have hBx := HQ2.out.bel.trans (hB.mono HQ2.out.bel.size)
                have htr : Nt.trE S 0 0 0 = 0 := Nt.trE_iff.2 ⟨hok, by decide, by show (0 : Int) < ((S.R 0 0).L.length : Int); rw [hone]; simp⟩
                have hdl : Nt.dlB S 0 0 0 = z2 := by
                  unfold Nt.dlB Nt.pkAt
                  rw [if_pos htr]
                  show ((S.R 0 0).L.getD 0 Nt.zpk).bs = z2
                  rw [hone]
                  rfl
                refine Calls.mono (Nt.deliver_ (hN2.later hB) HQ2.out.inv hnx 0 0 0) ?_
                rintro e' w' ⟨a, k, rfl, hb, _, hK⟩
                rw [hdl, hzl] at hb ⊢
                exact ⟨a, k, by rw [htr], hb, hBx.trans (hK.below hBx.size)⟩
              have HBW := hidden HQ2.out.bel
              have HON := hidden hone
              clear HQ2 hN2 hok hone hnx
              rcases (show (len1 : Int) ≤ q2 ∨ (q2 < (len1 : Int) ∧ 400 ≤ q2) by omega) with hge | ⟨hge0, hge⟩
              · go_wp2_with fail
                refine Calls.mono FL.out ?_
                rintro e y1 ⟨fv, rfl, hF, hC1⟩
                obtain ⟨fg, fcap, rfl, d0, d1, d2, d3⟩ := hF.one HON.out
                have DE' := hidden (DE.out y1 hC1)
                clear hF hC1 FL
                go_wp2_with fail
                refine Calls.mono DE'.out ?_
                rintro e y2 ⟨da, dk, rfl, hb2, hC2⟩
                have cv1 := hb2.conv dk
                have cv2 := (HBY.out.later hC2).conv cap2
                have HC2 := hidden hC2
                generalize strOfNums z2 = str at *
                clear hb2 hC2 DE' d0 d1 d2 d3
                go_wp2_with fail
                refine Calls.mono (AW.out _) ?_
                rintro e y3 ⟨rfl, hC3⟩
                have HF := hidden (HC2.out.trans (hC3.mono HC2.out.size))
                clear hC3
                go_wp2
                go_ret
                exact ⟨by simp, HF.out⟩
              · go_wp2_with fail
                refine Calls.mono FL.out ?_
                rintro e y1 ⟨fv, rfl, hF, hC1⟩
                obtain ⟨fg, fcap, rfl, d0, d1, d2, d3⟩ := hF.one HON.out
                have DE' := hidden (DE.out y1 hC1)
                clear hF hC1 FL
                go_wp2_with fail
                refine Calls.mono DE'.out ?_
                rintro e y2 ⟨da, dk, rfl, hb2, hC2⟩
                have cv1 := hb2.conv dk
                have cv2 := (HBY.out.later hC2).conv cap2
                have HC2 := hidden hC2
                generalize strOfNums z2 = str at *
                clear hb2 hC2 DE' d0 d1 d2 d3
                go_wp2_with fail
                refine Calls.mono (AW.out _) ?_
                rintro e y3 ⟨rfl, hC3⟩
                have HF := hidden (HC2.out.trans (hC3.mono HC2.out.size))
                clear hC3
                go_wp2
                go_ret
                exact ⟨by simp, HF.out⟩
    · have HB4 := hidden hB4
      generalize Nt.laE (Nt.fresh p) 0 0 a3 z2.length = cc at *
      have hcc : (cc == 0) = false := beq_eq_false_iff_ne.2 hE
      clear hB4 hown4 hWh SE HRN
      go_wp2_with fail
      refine Calls.mono (AW.out _) ?_
      rintro e x5 ⟨rfl, hB5⟩
      have HF := hidden (HB4.out.trans (hB5.mono HB4.out.size))
      clear hB5
      go_wp2
      go_ret
      exact ⟨rfl, HF.out⟩
  · have NW := hidden (Nt.new_no a0 hp w)
    clear w0 w1 w2 s2
    go_enter Try.func5, Try.ntmps5
    go_wp2_with fail
    refine Calls.mono NW.out ?_
    rintro e x1 ⟨rfl, rfl⟩
    go_wp2_with fail
    refine Calls.mono (AW.out _) ?_
    rintro e x3 ⟨rfl, hB3⟩
    have HF := hidden hB3
    clear hB3
    go_wp2
    go_ret
    exact ⟨rfl, HF.out⟩

set_option maxRecDepth 100000 in
theorem contract (H : Type) (enc : TypeId × Value → H) (W : World) (base : Nat) (args : Array Value) (ds gs : List (DataW H)) (before : List MemPlace)
    (hval : ∀ (j : Nat) t v, Try.f5.params[j]? = some t → args[j]? = some v → Value.okWide Try.prog W .any base t v)
    (hW : DataW.Whole enc Try.prog Try.f5.params.toList Rows.netWholeSpec.vars false W args.toList ds gs before)
    (hsz0 : (DataW.weightsEach Try.prog (Try.f5.params.toList ++ Rows.netWholeSpec.plain.varTypes Try.prog) (ds ++ gs)).all (· ≤ reachBytes) = true) :
    Calls Try.prog 5 args W fun e W' => ∃ v, e = .returned v ∧ Rows.netWholeSpec.post enc Try.prog Try.f5 false true false false W args v W' := by
  have hW' := hW
  obtain ⟨p, q, hA0, hV, rfl, hfz, hnd⟩ := hW
  have hA : DataW.TrodAll enc Try.prog W 0 (fun _ => true) true Try.f5.params.toList args.toList ds p := hA0
  have hsz := hsz0
  rw [Try.params5] at hA hval hsz
  obtain ⟨v0, vs0, d0, ds0, p0, q0, hargs, rfl, rfl, h0, r0⟩ := trodAll_cons hA
  obtain ⟨v1, vs1, d1, ds1, p1, q1, rfl, rfl, rfl, h1, r1⟩ := trodAll_cons r0
  obtain ⟨v2, vs2, d2, ds2, p2, q2, rfl, rfl, rfl, h2, r2⟩ := trodAll_cons r1
  obtain ⟨v3, vs3, d3, ds3, p3, q3, rfl, rfl, rfl, h3, r3⟩ := trodAll_cons r2
  obtain ⟨rfl, rfl, rfl⟩ := trodAll_nil r3
  obtain rfl : args = #[v0, v1, v2, v3] := by cases args; simp_all
  obtain ⟨rfl, rfl⟩ := trodVars_none hV
  obtain ⟨a0, rfl, rfl, rfl, w0⟩ := open_int Try.underlying3 (hval 0 3 v0 rfl rfl) h0
  obtain ⟨a1, len1, cap1, rfl⟩ := okWide_slice Try.underlying22 (hval 1 22 v1 rfl rfl)
  have k1 := h1
  have lt1 : ∀ x ∈ p1, x.block < W.heap.size := by obtain ⟨m, hm⟩ := k1; exact DataW.trod_lt m _ _ _ hm
  have sz1 : (d1.weights Try.prog 22).all (· ≤ reachBytes) = true := List.all_eq_true.2 fun m hm => List.all_eq_true.1 hsz m (DataW.weights_mem_each (j := 1) rfl rfl m hm)
  obtain ⟨z1, w1⟩ : ∃ zs, Nt.OpsR W a1 len1 zs := by
    obtain ⟨fuel, hf⟩ := h1
    exact Nt.ops_arg hf sz1
  obtain ⟨a2, len2, cap2, rfl⟩ := okWide_slice Try.underlying32 (hval 2 32 v2 rfl rfl)
  have k2 := h2
  have lt2 : ∀ x ∈ p2, x.block < W.heap.size := by obtain ⟨m, hm⟩ := k2; exact DataW.trod_lt m _ _ _ hm
  have sz2 : (d2.weights Try.prog 32).all (· ≤ reachBytes) = true := List.all_eq_true.2 fun m hm => List.all_eq_true.1 hsz m (DataW.weights_mem_each (j := 2) rfl rfl m hm)
  obtain ⟨z2, w2, s2⟩ : ∃ zs, Ag.Rows (fun n : Int => [.int .u8 n]) (fun n => (Lit.int .u8 n).wf = true) 1 W a2 len2 zs ∧ len2 ≤ cap2 ∧ cap2 * Try.prog.bytesOf 5 ≤ 140737488351232 ∧ (a2 = none → len2 = 0 ∧ cap2 = 0) := by
    obtain ⟨fuel, hf⟩ := h2
    exact Ag.rows_arg (Ag.kind_int Try.underlying5 (by kernel_rfl)) Try.underlying32 (Nat.le_of_ble_eq_true (by kernel_rfl)) hf sz2
  obtain ⟨a3, rfl, rfl, rfl, w3⟩ := open_int Try.underlying3 (hval 3 3 v3 rfl rfl) h3
  clear hA0 hsz0 hsz
  refine (walk a0 a1 len1 cap1 z1 a2 len2 cap2 z2 a3 W w0 w1 w2 s2 w3).mono fun e W' ⟨he, bel⟩ => ?_
  subst he
  exact ⟨_, rfl, _, _, _, [], _, [], hW', trodAll_mk1 (shut_bool Try.underlying4 _), (trodAll_cons_mk (shut_int Try.underlying3 w0) (trodAll_cons_mk (Below.trod laidOut (by kernel_rfl) (of_decide_eq_true (by kernel_rfl)) k1 bel lt1) (trodAll_cons_mk (Below.trod laidOut (by kernel_rfl) (of_decide_eq_true (by kernel_rfl)) k2 bel lt2) (trodAll_cons_mk (shut_int Try.underlying3 w3) trodAll_mk0)))), rfl, bel.frame _, fun h => by cases h⟩

noncomputable def laidWorld (os : Os) : World :=
  World.holding Try.prog os ⟨#[], #[], []⟩
theorem laid_met (os : Os) : laidMet Try.prog Rows.netWholeRow.laid ((laidWorld os).forCall (fun _ _ => 0) ⟨#[], #[.int .i64 0, .slice none 0 0, .slice none 0 0, .int .i64 0], []⟩).memory :=
  laidMet_of_run' 8 (by kernel_rfl) (by kernel_rfl)
theorem reads (os : Os) {H : Type} (enc : TypeId × Value → H) : ∃ places, DataW.whole enc Try.prog ((laidWorld os).forCall (fun _ _ => 0) ⟨#[], #[.int .i64 0, .slice none 0 0, .slice none 0 0, .int .i64 0], []⟩).memory Try.f5.params.toList Rows.netWholeSpec.vars false #[Value.int .i64 0, Value.slice none 0 0, Value.slice none 0 0, Value.int .i64 0].toList 8 = some ([.lit (.int .i64 0), .nil, .nil, .lit (.int .i64 0)], [], places) :=
  ⟨[], by kernel_rfl⟩

set_option maxRecDepth 100000 in
theorem lifted (os : Os) (started : os.Started) (H : Type) (enc : TypeId × Value → H) (F : Stop.Interp) :
    ReturnsInHanded {} Try.checked os 5 .any ((OpenSpec.ofChange Rows.netWholeSpec).preRow enc Try.prog Try.f5 Rows.netWholeRow.domain false Rows.netWholeRow.laid) (((OpenSpec.ofChange Rows.netWholeSpec).at F).post enc Try.prog Try.f5 false true false false) := by
  obtain ⟨places, hx⟩ := reads os enc
  refine returnsInHanded_of_row (C := Try.checked) (s := OpenSpec.ofChange Rows.netWholeSpec) own started (by kernel_rfl) Try.func5
    (witness_row_at (enc := enc) (C := Try.checked) false (laidWorld os) #[.int .i64 0, .slice none 0 0, .slice none 0 0, .int .i64 0] rfl (by kernel_rfl) (by kernel_rfl) (by kernel_rfl)
      (OpenSpec.preRow_of_cond 8 hx (by kernel_rfl) (fun k hk => by cases hk) (by kernel_rfl) (laid_met os))) ?_
  intro W base args ds gs before hval hW _ hcond hsz hL _ _
  exact contract H enc W base args ds gs before hval hW hsz

theorem said : Rows.NetWholeSaid :=
  OpenClaim.holds_of_cond 5 Try.f5 rfl rfl rfl rfl rfl rfl rfl ⟨rfl, rfl, rfl, rfl, rfl⟩ rfl rfl rfl rfl rfl (by kernel_rfl) Try.func5 (by kernel_rfl)
    (of_decide_eq_true (by kernel_rfl)) (by unfold Func.isWrapper; first | (rw [if_pos (by decide +kernel)]; kernel_rfl) | (rw [if_neg (by decide +kernel)]; exact ⟨rfl, rfl⟩))
    (fun os started H enc _ F => by rw [OpenClaim.pre_eq_preRow]; exact lifted os started H enc F)

/-- THE STATEMENT -/
theorem proved : Rows.NetWholeSaid := said
#print axioms proved
end Go.Proofs.Ytmogacccffkkbaa.netWhole
