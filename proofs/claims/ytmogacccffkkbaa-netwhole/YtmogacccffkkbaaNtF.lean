/-
  A packet is put on its way.
  Conditions: the network lies in memory.
-/
import Derived.Test.YtmogacccffkkbaaNtE
namespace Go.Proofs.Ytmogacccffkkbaa.Nt
open Go.ChangeShapes Go.WideShapes Go.ChangeAt Go.RowKit
open Ba (hidden Only In Has own_ne own_stay own_len own_some own_mono cell_lt heap_lt)
set_option linter.unusedVariables false
theorem info_pkt : (Try.prog.info? 88).map (fun i => (i.zero, i.size, i.bytes)) = some (some (.agg #[.int .i64 0, .int .i64 0, .int .i64 0, .bool false, .string ByteArray.empty]), 5, 48) := by kernel_rfl
def pa (q : Pk) : Array Value := #[.int .i64 q.id, .int .i64 q.sent, .int .i64 q.len, .bool q.forged, .string (strOfNums q.bs)]
theorem run_bsP (q : Pk) (w : World) : (Instr.buildSlice 83 1 #[(0, pv q)]).run Try.prog w = .ok (.slice (some ⟨w.heap.size, 0, none⟩) 1 1) (w.alloc (.cells (pa q) 88)) := by
  unfold pv pa
  generalize strOfNums q.bs = s
  kernel_rfl
theorem addr_add (g j : Nat) : (⟨g, 0, none⟩ : Addr).add j = ⟨g, j, none⟩ := by unfold Addr.add; split <;> simp_all
theorem pc_one (q : Pk) : ∀ u ∈ pc q, u.oneCell' = true := by
  intro u hu
  simp only [pc, List.mem_cons, List.not_mem_nil, or_false] at hu
  rcases hu with rfl | rfl | rfl | rfl | rfl <;> rfl
/-- a packet is appended to a row -/
theorem app_pk {w : World} {base : Nat} {v : Value} {L : List Pk} {q : Pk} {g : Nat} (h : w.ownsRow base 88 5 v L.length (pcs L)) (hb : base ≤ w.heap.size) (hL : L.length ≤ 100000) (hN : Has w g (pa q) 88) (ty : TypeId) :
    ∃ v' w2, (Builtin.append_ #[83, 83] ty #[v, .slice (some ⟨g, 0, none⟩) 1 1]).run Try.prog w = .ok v' w2 ∧ w2.ownsRow base 88 5 v' (L ++ [q]).length (pcs (L ++ [q])) ∧ w.grownBy w2 v.ownBlock ∧ (v'.ownBlock = v.ownBlock ∨ v'.ownBlock = some w.heap.size) := by
  obtain ⟨v', w2, hr, g1, g2, g3⟩ := Ba.append_at (P := Try.prog) (ty := ty) (m := 1) (c := 1) (ad := ⟨g, 0, none⟩) (news := pc q) Try.underlying83 info_pkt rfl (by decide) h rfl
    (fun j u hj => by rw [addr_add]; exact hN.cell j (by rw [← hj]; exact (List.getElem?_toArray (xs := pc q) (i := j)))) (pc_one q) (.inl (by decide)) (by unfold maxLen; omega) (by omega) hb
  refine ⟨v', w2, hr, ?_, g2, g3⟩
  rw [List.length_append, show pcs (L ++ [q]) = pcs L ++ pc q by unfold pcs; rw [List.flatMap_append]; simp]
  exact g1
/-- worlds while a packet is appended -/
structure PuA (base : Nat) (W1 : World) (t b : Nat) (vs : Nat → Nat → Value) (S : St) (i e : Nat) (q : Pk) (bx k : Nat) (x : Value) (w' : World) : Prop where
  h0 : k = 0 → w' = W1.drew
  h1 : k = 1 → w' = W1.drew.alloc (.cells (pa q) 88)
  h2 : k = 2 → w'.ownsRow base 88 5 x ((S.R i e).L ++ [q]).length (pcs ((S.R i e).L ++ [q])) ∧ (W1.drew.alloc (.cells (pa q) 88)).grownBy w' (vs i e).ownBlock ∧ (x.ownBlock = (vs i e).ownBlock ∨ x.ownBlock = some (W1.heap.size + 1))
  h3 : k = 3 → No base w' t b (up2 vs i e x) (S.row i e ⟨(S.R i e).T, (S.R i e).L ++ [q]⟩) ∧ Has w' bx (pa q) 88 ∧ Kept TYc base W1 w'
section
variable {base : Nat} {w w' w1 W1 : World} {t b bx : Nat} {vs : Nat → Nat → Value} {S : St} {i e : Nat} {q : Pk} {x : Value}
theorem PuA.cell {k : Nat} (h : PuA base W1 t b vs S i e q bx k x w') (hN : No base W1 t b vs S) (hi : i < S.p) (he : e < 2) (hk : k ≤ 1) : w'.cell? ⟨b, i * 11 + e * 5 + 4, none⟩ = some (vs i e) := by
  have hc := hN.ln.cell hi he 4 rfl
  have hb : b < W1.heap.size := by obtain ⟨cs, hc⟩ := hN.ln.has; exact hc.lt
  rcases (show k = 0 ∨ k = 1 by omega) with e1 | e1
  · rw [h.h0 e1]; exact hc
  · rw [h.h1 e1]; exact (((Below.refl _ W1.drew).alloc (Nat.le_refl _) _).cell (p := ⟨b, i * 11 + e * 5 + 4, none⟩) hb).trans hc
theorem PuA.two (h : PuA base W1 t b vs S i e q bx 1 x w') (hN : No base W1 t b vs S) (hL : (S.R i e).L.length ≤ 100000) (hbase : base ≤ W1.heap.size) (ty : TypeId) :
    ∃ v' w2, (Builtin.append_ #[83, 83] ty #[vs i e, .slice (some ⟨W1.heap.size, 0, none⟩) 1 1]).run Try.prog w' = .ok v' w2 ∧ PuA base W1 t b vs S i e q bx (1 + 1) v' w2 := by
  have hw := h.h1 rfl
  subst hw
  have hB : Below W1.heap.size W1 (W1.drew.alloc (.cells (pa q) 88)) := (Below.refl _ W1).drew.alloc (Nat.le_refl _) _
  have hNw : Has (W1.drew.alloc (.cells (pa q) 88)) W1.heap.size (pa q) 88 := Has.new W1.drew _ _
  obtain ⟨v', w2, hr, g1, g2, g3⟩ := app_pk ((hN.later hB).own i e) (Nat.le_trans hbase hB.size) hL hNw ty
  refine ⟨v', w2, hr, fun e => absurd e (by decide), fun e => absurd e (by decide), fun _ => ⟨g1, g2, g3.imp id (fun e => by rw [e]; simp)⟩, fun e => absurd e (by decide)⟩
theorem PuA.three (h : PuA base W1 t b vs S i e q bx 2 x w') (hN : No base W1 t b vs S) (hi : i < S.p) (he : e < 2) (hbx : Has W1 bx (pa q) 88) (hne : ∀ k, (vs i e).ownBlock = some k → k ≠ bx) :
    (Instr.storeAt 83 (.pointer (some ⟨b, i * 11 + e * 5 + 4, none⟩)) x).run Try.prog w' = .ok () (w'.setCell ⟨b, i * 11 + e * 5 + 4, none⟩ x) ∧ PuA base W1 t b vs S i e q bx (2 + 1) x (w'.setCell ⟨b, i * 11 + e * 5 + 4, none⟩ x) := by
  obtain ⟨g1, g2, g3⟩ := h.h2 rfl
  have hB : Below W1.heap.size W1 (W1.drew.alloc (.cells (pa q) 88)) := (Below.refl _ W1).drew.alloc (Nat.le_refl _) _
  have hN2 := hN.later hB
  have hO : Only ((vs i e).ownBlock.toList) (W1.drew.alloc (.cells (pa q) 88)) w' := Only.grown g2 (by intro k hk; simp [hk])
  have hN3 := hN2.turn hi he hO g1 (fun k hk => by
    rcases g3 with e | e
    · exact .inl (by rw [← e]; exact hk)
    · rw [e] at hk
      cases hk
      exact .inr (by simp))
  obtain ⟨cs, hcs⟩ := hN2.ln.has
  have hcs1 : Has w' b cs 101 := hcs.stay hO (by intro hh; exact hN2.nb b (by simpa using hh) rfl)
  have hb1 : Has w' bx (pa q) 88 := (hbx.later hB).stay hO (by intro hh; exact hne bx (by simpa using hh) rfl)
  have c4 : ∃ u, w'.cell? ⟨b, i * 11 + e * 5 + 4, none⟩ = some u := ⟨_, (hN2.ln.move (w' := w') (fun cs hc => hc.stay hO (by intro hh; exact hN2.nb b (by simpa using hh) rfl))).cell hi he 4 rfl⟩
  obtain ⟨u, c4⟩ := c4
  have f4 := hcs1.frozen (i * 11 + e * 5 + 4)
  obtain ⟨a, cap, rfl⟩ := own_len g1
  refine ⟨by simp [go_sem, c4, f4], fun e => absurd e (by decide), fun e => absurd e (by decide), fun e => absurd e (by decide), fun _ => ⟨hN3, hb1.set_other (fun ee => ?_) _, ?_⟩⟩
  · subst ee; exact hb1.ne hcs1 (by decide) rfl
  · exact ((Kept.of_below hB).trans (Kept.only (hN2.own i e) rfl hO)).set (p := ⟨b, _, none⟩) hcs1 rfl hN.bb _
end
section
variable {base : Nat} {w w' w1 : World} {t b : Nat} {vs : Nat → Nat → Value} {S : St} {i e : Nat}
set_option maxHeartbeats 2000000 in
theorem put (h : No base w t b vs S) {en path : Int} (hp : ok S en path = true) (hi : i = path.toNat) (he : e = en.toNat) (hbase : base ≤ w.heap.size) (hS : S.p ≤ 8) (hn : 0 ≤ S.next ∧ S.next ≤ 1000) (hl : 0 ≤ (S.R i e).T.l ∧ (S.R i e).T.l ≤ 1000) (hL : (S.R i e).L.length ≤ 1000) (pk : Pk) :
    Calls Try.prog 41 #[.pointer (some ⟨t, 0, none⟩), .int .i64 en, .int .i64 path, pv pk] w fun e' w' => e' = .returned (.int .i64 S.next) ∧ (∃ vs', No base w' t b vs' (putS S i e pk)) ∧ Kept TYc base w w' := by
  obtain ⟨⟨p1, p2⟩, p3, p4⟩ := ok_iff.1 hp
  have hi' : i < S.p := by omega
  have he' : e < 2 := by omega
  have c0 := h.net.cell 0 rfl
  have c1 := h.net.cell 1 rfl
  have f1 := h.net.frozen 1
  have ht := h.net.lt
  have htb := h.tb
  have hb : b < w.heap.size := by obtain ⟨cs, hc⟩ := h.ln.has; exact hc.lt
  have cd := h.ln.down hi'
  have cl := h.ln.cell hi' he' 2 rfl
  have fl := h.ln.frozen (i * 11 + e * 5 + 2)
  unfold pv
  cases ho : S.off i with
  | true =>
    have FIN : Hid (∀ o, (∃ vs', No base (((w.setCell ⟨t, 1, none⟩ (.int .i64 (S.next + 1))).setCell ⟨b, i * 11 + e * 5 + 2, none⟩ (.int .i64 ((S.R i e).T.l + 1))).alloc o) t b vs' (putS S i e pk)) ∧ Kept TYc base w (((w.setCell ⟨t, 1, none⟩ (.int .i64 (S.next + 1))).setCell ⟨b, i * 11 + e * 5 + 2, none⟩ (.int .i64 ((S.R i e).T.l + 1))).alloc o)) := fun o => by
      have h1 := h.setNext (S.next + 1)
      obtain ⟨cs, hcs⟩ := h1.ln.has
      have h2 := h1.setT (i := i) (e := e) hi' he' (k := 2) (by decide) (u := .int .i64 ((S.R i e).T.l + 1)) (T' := { (S.R i e).T with l := (S.R i e).T.l + 1 }) rfl
      refine ⟨⟨vs, ?_⟩, ((((Kept.refl _ _ _).set (p := ⟨t, 1, none⟩) h.net rfl h.bt _).set (p := ⟨b, _, none⟩) hcs rfl h.bb _).alloc o)⟩
      have h3 := h2.later ((Below.refl _ _).alloc (Nat.le_refl _) o)
      unfold putS putR
      rw [ho]
      exact h3
    rw [ho] at cd
    subst hi he
    generalize (S.R path.toNat en.toNat).T.l = l at cl hl FIN
    clear h hp
    go_enter Try.func41, Try.ntmps41
    go_wp2
    go_ret
    exact ⟨by simp, FIN.out _⟩
  | false =>
    obtain ⟨q, hq⟩ : ∃ q : Pk, q = { pk with id := S.next } := ⟨_, rfl⟩
    obtain ⟨W1, hW1⟩ : ∃ W1, W1 = (w.setCell ⟨t, 1, none⟩ (.int .i64 (S.next + 1))).alloc (.cells (pa q) 88) := ⟨_, rfl⟩
    obtain ⟨S1, hS1⟩ : ∃ S1 : St, S1 = ⟨S.p, S.next + 1, S.R, S.off⟩ := ⟨_, rfl⟩
    have hB : Below (w.setCell ⟨t, 1, none⟩ (.int .i64 (S.next + 1))).heap.size (w.setCell ⟨t, 1, none⟩ (.int .i64 (S.next + 1))) W1 := by rw [hW1]; exact (Below.refl _ _).alloc (Nat.le_refl _) _
    have hsz : (w.setCell ⟨t, 1, none⟩ (.int .i64 (S.next + 1))).heap.size = w.heap.size := by simp [World.setCell]
    have hN1 : No base W1 t b vs S1 := by rw [hS1]; exact (h.setNext (S.next + 1)).later hB
    have hK1 : Kept TYc base w W1 := by
      rw [hW1]; exact ((Kept.refl _ _ _).set (p := ⟨t, 1, none⟩) h.net rfl h.bt _).alloc _
    have hbx : Has W1 w.heap.size (pa q) 88 := by
      have := Has.new (w.setCell ⟨t, 1, none⟩ (.int .i64 (S.next + 1))) (pa q) 88
      rw [hsz, ← hW1] at this
      exact this
    have hne : ∀ k, (vs i e).ownBlock = some k → k ≠ w.heap.size := fun k hk => by have := ((h.own i e).lt k hk).2; omega
    obtain ⟨va, vcap, hv⟩ := own_len (h.own i e)
    obtain ⟨n, hn'⟩ : ∃ n, n = (S.R i e).L.length := ⟨_, rfl⟩
    rw [← hn'] at hv
    have FIN : Hid (∀ x w', No base w' t b (up2 vs i e x) (S1.row i e ⟨(S1.R i e).T, (S1.R i e).L ++ [q]⟩) → ∃ vs', No base w' t b vs' (putS S i e pk)) := fun x w' hh => by
      refine ⟨up2 vs i e x, ?_⟩
      unfold putS putR
      rw [ho]
      subst hS1 hq
      exact hh
    have HN1 := hidden hN1
    have HK1 := hidden hK1
    have HBX := hidden hbx
    have HNE := hidden hne
    have HV := hidden hv
    have HI : Hid (i < S1.p) := by rw [hS1]; exact hi'
    have HE := hidden he'
    have HL : Hid ((S1.R i e).L.length ≤ 100000) := by rw [hS1]; show (S.R i e).L.length ≤ 100000; omega
    have HBS : Hid (base ≤ W1.heap.size) := Nat.le_trans hbase hK1.size
    have HW1 : Hid (W1 = (w.setCell ⟨t, 1, none⟩ (.int .i64 (S.next + 1))).alloc (.cells #[.int .i64 S.next, .int .i64 pk.sent, .int .i64 pk.len, .bool pk.forged, .string (strOfNums pk.bs)] 88)) := by rw [hW1, hq]; rfl
    have HQ := hidden hq
    rw [ho] at cd
    have HIE : Hid (i = path.toNat ∧ e = en.toNat) := ⟨hi, he⟩
    rw [hi] at cd
    clear h hp hB hN1 hK1 hbx hne hv hS1 hq hi' he' hW1 hn'
    go_enter Try.func41, Try.ntmps41
    go_upto_region 7 with fail
    rw [← HIE.out.1, ← HIE.out.2, ← HW1.out]
    refine Ord.wp_region_ex0 (X := Value) (by kernel_rfl) 61 (fun x => [(some 48, .pointer (some ⟨b, i * 11 + e * 5, none⟩)), (some 49, .pointer (some ⟨b, i * 11 + e * 5, none⟩)), (some 50, .pointer (some ⟨b, i * 11 + e * 5, none⟩)), (some 51, .pointer (some ⟨b, i * 11 + e * 5 + 4, none⟩)), (some 52, .slice va n vcap), (some 53, pv q), (some 54, .slice (some ⟨W1.heap.size, 0, none⟩) 1 1), (some 55, x), (some 56, .pointer (some ⟨b, i * 11 + e * 5, none⟩)), (some 57, .pointer (some ⟨b, i * 11 + e * 5 + 4, none⟩)), (none, undef)]) [some 48, some 49, some 50, some 51, some 52, some 53, some 54, some 55, some 56, some 57, none] rfl (fun listed hsz hr => Ord.all_listedC (rank := [0, 1, 2, 3, 4, 5, 6, 7, 8, 9, 10]) (by kernel_rfl) hsz hr) (by rfl) (fun _ => rfl) (by kernel_rfl) (Rg.StM [6, 7, 10] (fun k x w' => PuA base W1 t b vs S1 i e q w.heap.size k x w')) (fun _ _ _ _ hL h => h.ext (n := 11) (by decide) hL) ?_ ?_ undef ?_
    case refine_1 =>
      intro x Lq iq oq ac w' ho hi hcl hdep hF hW
      have f1 : ac.tmps.size = 61 := hF.1
      match iq, ho, hi, hdep with
      | 0, ho, hi, hdep =>
        cases ho
        have da0 : ac.eval (.tmp 10) = .pointer (some ⟨b, i * 11 + e * 5, none⟩) := hF.old 10 rfl
        exact Ord.ex_value x rfl rfl (Rg.mv da0 rfl) rfl (hW.keep (by decide))
      | 1, ho, hi, hdep =>
        cases ho
        have da0 : ac.eval (.tmp 10) = .pointer (some ⟨b, i * 11 + e * 5, none⟩) := hF.old 10 rfl
        exact Ord.ex_value x rfl rfl (Rg.mv da0 rfl) rfl (hW.keep (by decide))
      | 2, ho, hi, hdep =>
        cases ho
        have da0 : ac.eval (.tmp 49) = .pointer (some ⟨b, i * 11 + e * 5, none⟩) := hF.2.2.2 1 49 _ rfl (hdep ⟨1, .data⟩ (by simp) rfl)
        exact Ord.ex_value x rfl rfl (Rg.nilc da0 rfl) rfl (hW.keep (by decide))
      | 3, ho, hi, hdep =>
        cases ho
        have da0 : ac.eval (.tmp 50) = .pointer (some ⟨b, i * 11 + e * 5, none⟩) := hF.2.2.2 2 50 _ rfl (hdep ⟨2, .data⟩ (by simp) rfl)
        exact Ord.ex_value x rfl rfl (Rg.fa da0 rfl (by simp [go_sem])) rfl (hW.keep (by decide))
      | 4, ho, hi, hdep =>
        cases ho
        have da0 : ac.eval (.tmp 51) = .pointer (some ⟨b, i * 11 + e * 5 + 4, none⟩) := hF.2.2.2 3 51 _ rfl (hdep ⟨3, .data⟩ (by simp) rfl)
        obtain ⟨kq, hlo, hhi, hA⟩ := hW.range 0 1 (.inl rfl) (.inr ⟨7, rfl, (Rg.no_of (fun h => hcl 7 _ rfl (h) ⟨4, .data⟩ (by simp) rfl) hi)⟩)
        exact Ord.ex_value x rfl rfl (Rg.load da0 rfl (by have := hA.cell HN1.out HI.out HE.out hhi; rw [HV.out] at this; simp [go_sem, this])) rfl (hW.keep (by decide))
      | 5, ho, hi, hdep =>
        cases ho
        have da0 : ac.eval (.tmp 7) = .pointer (some ⟨w.heap.size, 0, none⟩) := hF.old 7 rfl
        obtain ⟨kq, hlo, hhi, hA⟩ := hW.range 0 0 (.inl rfl) (.inr ⟨6, rfl, (Rg.no_of (fun h => hcl 6 _ rfl (h) ⟨5, .data⟩ (by simp) rfl) hi)⟩)
        exact Ord.ex_value x rfl rfl (Rg.load da0 rfl (by rw [hA.h0 (by omega)]; unfold pv; simp [go_sem, HBX.out.cell 0 rfl, HBX.out.cell 1 rfl, HBX.out.cell 2 rfl, HBX.out.cell 3 rfl, HBX.out.cell 4 rfl, pa])) rfl (hW.keep (by decide))
      | 6, ho, hi, hdep =>
        cases ho
        have da0 : ac.eval (.tmp 53) = pv q := hF.2.2.2 5 53 _ rfl (hdep ⟨5, .data⟩ (by simp) rfl)
        have hA := hW.at (k := 0) rfl hi (.inl rfl)
        have hw := hA.h0 rfl
        subst hw
        exact Ord.ex_value x rfl rfl (Rg.bsl rfl (by simp [da0]) (run_bsP q _)) rfl (hW.next (k := 0) rfl (by decide) hi (.inl rfl) ⟨fun e => absurd e (by decide), fun _ => rfl, fun e => absurd e (by decide), fun e => absurd e (by decide)⟩)
      | 7, ho, hi, hdep =>
        cases ho
        have da0 : ac.eval (.tmp 52) = .slice va n vcap := hF.2.2.2 4 52 _ rfl (hdep ⟨4, .data⟩ (by simp) rfl)
        have da1 : ac.eval (.tmp 54) = .slice (some ⟨W1.heap.size, 0, none⟩) 1 1 := hF.2.2.2 6 54 _ rfl (hdep ⟨6, .data⟩ (by simp) rfl)
        have hA := hW.at (k := 1) rfl hi (.inr ⟨6, rfl, (hdep ⟨6, .data⟩ (by simp) rfl)⟩)
        obtain ⟨v', w2, hr, hA2⟩ := hA.two HN1.out HL.out HBS.out 83
        rw [HV.out] at hr
        exact Ord.ex_letter x v' rfl rfl (Rg.app da0 da1 rfl hr) rfl (fun j hj => match j, hj with | 0, _ => rfl | 1, _ => rfl | 2, _ => rfl | 3, _ => rfl | 4, _ => rfl | 5, _ => rfl | 6, _ => rfl | 7, hj => absurd hj (by rw [hi]; decide) | 8, _ => rfl | 9, _ => rfl | 10, _ => rfl | _ + 11, _ => rfl) (hW.next (k := 1) rfl (by decide) hi (.inr ⟨6, rfl, (hdep ⟨6, .data⟩ (by simp) rfl)⟩) hA2)
      | 8, ho, hi, hdep =>
        cases ho
        have da0 : ac.eval (.tmp 48) = .pointer (some ⟨b, i * 11 + e * 5, none⟩) := hF.2.2.2 0 48 _ rfl (hdep ⟨0, .data⟩ (by simp) rfl)
        exact Ord.ex_value x rfl rfl (Rg.nilc da0 rfl) rfl (hW.keep (by decide))
      | 9, ho, hi, hdep =>
        cases ho
        have da0 : ac.eval (.tmp 56) = .pointer (some ⟨b, i * 11 + e * 5, none⟩) := hF.2.2.2 8 56 _ rfl (hdep ⟨8, .data⟩ (by simp) rfl)
        exact Ord.ex_value x rfl rfl (Rg.fa da0 rfl (by simp [go_sem])) rfl (hW.keep (by decide))
      | 10, ho, hi, hdep =>
        cases ho
        have da0 : ac.eval (.tmp 57) = .pointer (some ⟨b, i * 11 + e * 5 + 4, none⟩) := hF.2.2.2 9 57 _ rfl (hdep ⟨9, .data⟩ (by simp) rfl)
        have da1 : ac.eval (.tmp 55) = x := hF.2.2.2 7 55 _ rfl (hdep ⟨7, .data⟩ (by simp) rfl)
        have hA := hW.at (k := 2) rfl hi (.inr ⟨7, rfl, (hdep ⟨7, .data⟩ (by simp) rfl)⟩)
        obtain ⟨hr, hA2⟩ := hA.three HN1.out HI.out HE.out HBX.out HNE.out
        exact Rg.ex_skip x rfl rfl (Rg.sto da0 da1 rfl hr) rfl (hW.next (k := 2) rfl (by decide) hi (.inr ⟨7, rfl, (hdep ⟨7, .data⟩ (by simp) rfl)⟩) hA2)
    case refine_3 => exact Rg.StM.first ⟨fun _ => rfl, fun e => absurd e (by decide), fun e => absurd e (by decide), fun e => absurd e (by decide)⟩
    case refine_2 =>
      intro v' w2 hW
      obtain ⟨g1, g2, g3⟩ := hW.last.h3 rfl
      have G1 := hidden (FIN.out _ _ g1)
      have G3 := hidden (HK1.out.trans g3)
      have cb := g2.cell 0 rfl
      rw [HQ.out] at cb
      clear hW g1 g2 g3
      simp only [Ord.puts, Ord.prs]
      go_simp
      go_wp2
      go_ret
      exact ⟨rfl, G1.out, G3.out⟩
end
end Go.Proofs.Ytmogacccffkkbaa.Nt
