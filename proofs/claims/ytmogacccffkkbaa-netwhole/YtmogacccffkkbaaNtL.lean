/-
  Twice.
  Conditions: the network lies in memory.
-/
import Derived.Test.YtmogacccffkkbaaNtK
namespace Go.Proofs.Ytmogacccffkkbaa.Nt
open Go.ChangeShapes Go.WideShapes Go.ChangeAt Go.RowKit
open Ba (hidden Only In Has own_ne own_stay own_len own_some own_mono cell_lt heap_lt)
set_option linter.unusedVariables false
theorem store_pkt {w : World} {r : Nat} {x0 x1 x2 x3 x4 : Value} (h : Has w r #[x0, x1, x2, x3, x4] 88) (q : Pk) : (Instr.storeAt 88 (.pointer (some ⟨r, 0, none⟩)) (pv q)).run Try.prog w = .ok () (set5 w r q) := by
  have a0 := h.cell 0 rfl
  have a1 := h.cell 1 rfl
  have a2 := h.cell 2 rfl
  have a3 := h.cell 3 rfl
  have a4 := h.cell 4 rfl
  unfold pv set5
  simp [go_sem, a0, a1, a2, a3, a4, h.frozen 0, h.frozen 1, h.frozen 2, h.frozen 3, h.frozen 4]
theorem ix_pkt (g n cap : Nat) (j : Int) (h0 : 0 ≤ j) (h1 : j < n) (w : World) : (Instr.indexAt 83 (.slice (some ⟨g, 0, none⟩) n cap) (.int .i64 j)).run Try.prog w = .ok (.pointer (some ⟨g, j.toNat * 5, none⟩)) w := by
  simp [go_sem]
  intro hx
  exact absurd (hx h0) (by omega)
section
variable {base : Nat} {w w' w1 : World} {t b : Nat} {vs : Nat → Nat → Value} {S : St} {i e : Nat}
set_option maxHeartbeats 2000000 in
theorem double (h : No base w t b vs S) {o : Nat} (ha : At S i e o) (hr : Rok S.next (S.R i e)) (hn : S.next ≤ 1000) {j : Int} (h0 : 0 ≤ j) (hj : j < ((S.R i e).L.length : Int)) (en path at_ bits : Int) :
    Calls Try.prog 40 #[.pointer (some ⟨b, o, none⟩), .agg #[.int .i64 en, .int .i64 path, .int .i64 j, .int .i64 at_, .int .u8 bits]] w fun e' w' => DoO base w t b vs (cnt S i e false) (pv ((S.R i e).L.getD j.toNat zpk)) 0 e' w' := by
  have hl := hr.len
  have := hr.s; have := hr.d; have := hr.l; have := hr.f; have := hr.sum; have := hr.few
  obtain ⟨hlt, hlb, hlv⟩ := h.lts
  have cd := h.ln.cell ha.li ha.le 0 rfl
  have fd := h.ln.frozen o
  rw [← ha.lo, Nat.add_zero] at cd
  obtain ⟨cs, hcs⟩ := h.ln.has
  have h1 := h.setT ha.li ha.le (k := 0) (by decide) (u := .int .i64 ((S.R i e).T.s + 1)) (T' := { (S.R i e).T with s := (S.R i e).T.s + 1 }) rfl
  rw [← ha.lo, Nat.add_zero] at h1
  have hK1 : Kept TYc base w (w.setCell ⟨b, o, none⟩ (.int .i64 ((S.R i e).T.s + 1))) := (Kept.refl _ _ _).set (p := ⟨b, o, none⟩) hcs rfl h.bb _
  obtain ⟨W1, hW1⟩ : ∃ W1, W1 = spotW (w.setCell ⟨b, o, none⟩ (.int .i64 ((S.R i e).T.s + 1))) en path j at_ bits := ⟨_, rfl⟩
  have hsz : (w.setCell ⟨b, o, none⟩ (.int .i64 ((S.R i e).T.s + 1))).heap.size = w.heap.size := by simp [World.setCell]
  have hB := spotW_below (w.setCell ⟨b, o, none⟩ (.int .i64 ((S.R i e).T.s + 1))) en path j at_ bits
  have hrs := spotW_res (w.setCell ⟨b, o, none⟩ (.int .i64 ((S.R i e).T.s + 1))) en path j at_ bits
  rw [hsz] at hrs
  have FU := hidden (full (h.later (spotW_below w en path j at_ bits)) ha (by omega))
  rw [← hW1] at hB hrs
  have h2 := h1.later hB
  have hsp : Has W1 w.heap.size #[.int .i64 en, .int .i64 path, .int .i64 j, .int .i64 at_, .int .u8 bits] 92 := by
    rw [hW1]
    unfold spotW
    have := (Has.new (w.setCell ⟨b, o, none⟩ (.int .i64 ((S.R i e).T.s + 1))) #[.int .i64 en, .int .i64 path, .int .i64 j, .int .i64 at_, .int .u8 bits] 92).later ((Below.refl _ _).alloc (Nat.le_refl _) (.cells #[.int .i64 0, .int .i64 0, .int .i64 0, .bool false, .string ByteArray.empty] 88))
    rw [hsz] at this
    exact this
  obtain ⟨q, hq⟩ : ∃ q, q = (S.R i e).L.getD j.toNat zpk := ⟨_, rfl⟩
  have hrow : W1.ownsRow base 88 5 (vs i e) (S.R i e).L.length (pcs (S.R i e).L) := by
    have := h2.own i e
    have er : ((S.row i e ⟨{ (S.R i e).T with s := (S.R i e).T.s + 1 }, (S.R i e).L⟩).R i e) = ⟨{ (S.R i e).T with s := (S.R i e).T.s + 1 }, (S.R i e).L⟩ := up2_same _ _ _ _
    rw [er] at this
    exact this
  obtain ⟨g, cap, ev, hg, hcap, hmax, k0, k1, k2, k3, k4⟩ := pk_cells hrow (j := j.toNat) (by omega) hq
  have c4 := h2.ln.cell ha.li ha.le 4 rfl
  rw [← ha.lo, ev] at c4
  rw [← hq]
  have FIN : Hid (DoO base w t b vs (cnt S i e false) (pv q) 0 (.returned (.tuple #[pv q, .int .i64 0])) (set5 W1.drew (w.heap.size + 1) q) ∧ Has (set5 W1.drew (w.heap.size + 1) q) (w.heap.size + 1) (pa q) 88) := by
    refine ⟨⟨rfl, ⟨vs, ?_, fun i e k hk => .inl hk⟩, set5_kept ((hK1.later hB).drew) (by omega) q, fun r cs2 hrr hne => ?_⟩, set5_has (w := W1.drew) hrs q⟩
    · have h3 : No base W1.drew t b vs (cnt S i e false) := h2.later (Below.refl _ _).drew
      exact h3.set5 (fun i e k hk => by have := hlv _ _ _ hk; omega) (by omega) (by omega) q
    · have hlr := hrr.lt
      have h5 : Has W1 r cs2 88 := (hrr.set_other (p := ⟨b, o, none⟩) (fun ee => by subst ee; exact hrr.ne hcs (by decide) rfl) _).later hB
      exact set5_other (w := W1.drew) h5 (by omega) q
  have HRS := hidden hrs
  have HSP := hidden hsp
  have HK : Hid (W1.cell? ⟨g, j.toNat * 5, none⟩ = some (.int .i64 q.id) ∧ W1.cell? ⟨g, j.toNat * 5 + 1, none⟩ = some (.int .i64 q.sent) ∧ W1.cell? ⟨g, j.toNat * 5 + 2, none⟩ = some (.int .i64 q.len) ∧ W1.cell? ⟨g, j.toNat * 5 + 3, none⟩ = some (.bool q.forged) ∧ W1.cell? ⟨g, j.toNat * 5 + 4, none⟩ = some (.string (strOfNums q.bs))) := ⟨k0, k1, k2, k3, k4⟩
  have HC4 := hidden c4
  have HIX := hidden (ix_pkt g (S.R i e).L.length cap j h0 hj)
  have HW1 : Hid (W1 = spotW (w.setCell ⟨b, o, none⟩ (.int .i64 ((S.R i e).T.s + 1))) en path j at_ bits) := hW1
  unfold spotW at FU HW1
  have hq1 : 0 ≤ (S.R i e).T.s := hr.s
  have hq2 : (S.R i e).T.s ≤ 1000 := by omega
  generalize (S.R i e).T.s = ss at *
  generalize (S.R i e).L.length = n at *
  clear h h1 h2 hrs ha hq hB hK1 hW1 hcs hr hlv hrow ev k0 k1 k2 k3 k4 c4 hsp
  go_enter Try.func40, Try.ntmps40
  go_wp2_with fail
  refine Calls.mono FU.out ?_
  rintro e' w2 ⟨rfl, rfl⟩
  go_upto_region 4 with fail
  rw [← HW1.out]
  refine Ord.wp_region_ex0 (X := Unit) (by kernel_rfl) 26 (fun x => [(some 18, .pointer (some ⟨b, o, none⟩)), (some 19, .pointer (some ⟨b, o, none⟩)), (some 20, .pointer (some ⟨b, o + 4, none⟩)), (some 21, .slice (some ⟨g, 0, none⟩) n cap), (some 22, .pointer (some ⟨w.heap.size, 2, none⟩)), (some 23, .int .i64 j), (some 24, .pointer (some ⟨g, j.toNat * 5, none⟩)), (some 25, pv q), (none, undef), (some 5, .int .i64 0)]) [some 18, some 19, some 20, some 21, some 22, some 23, some 24, some 25, none, some 5] rfl (fun listed hsz hr => Ord.all_listedC (rank := [0, 1, 2, 3, 4, 5, 6, 7, 8, 9]) (by kernel_rfl) hsz hr) (by rfl) (fun _ => rfl) (by kernel_rfl) (Rg.StM [8] (fun k _ w' => (k = 0 → w' = W1.drew) ∧ (k = 1 → w' = set5 W1.drew (w.heap.size + 1) q))) (fun _ _ _ _ hL h => h.ext (n := 10) (by decide) hL) ?_ ?_ () ?_
  case refine_1 =>
    intro x Lq iq oq ac w' ho hi hcl hdep hF hW
    have f1 : ac.tmps.size = 26 := hF.1
    match iq, ho, hi, hdep with
    | 0, ho, hi, hdep =>
      cases ho
      have da0 : ac.eval (.tmp 0) = .pointer (some ⟨b, o, none⟩) := hF.old 0 rfl
      exact Ord.ex_value x rfl rfl (Rg.mv da0 rfl) rfl (hW.keep (by decide))
    | 1, ho, hi, hdep =>
      cases ho
      have da0 : ac.eval (.tmp 18) = .pointer (some ⟨b, o, none⟩) := hF.2.2.2 0 18 _ rfl (hdep ⟨0, .data⟩ (by simp) rfl)
      exact Ord.ex_value x rfl rfl (Rg.nilc da0 rfl) rfl (hW.keep (by decide))
    | 2, ho, hi, hdep =>
      cases ho
      have da0 : ac.eval (.tmp 19) = .pointer (some ⟨b, o, none⟩) := hF.2.2.2 1 19 _ rfl (hdep ⟨1, .data⟩ (by simp) rfl)
      exact Ord.ex_value x rfl rfl (Rg.fa da0 rfl (by simp [go_sem])) rfl (hW.keep (by decide))
    | 3, ho, hi, hdep =>
      cases ho
      have da0 : ac.eval (.tmp 20) = .pointer (some ⟨b, o + 4, none⟩) := hF.2.2.2 2 20 _ rfl (hdep ⟨2, .data⟩ (by simp) rfl)
      obtain ⟨kq, hlo, hhi, hA⟩ := hW.range 0 0 (.inl rfl) (.inr ⟨8, rfl, (Rg.no_of (fun h => hcl 8 _ rfl (h) ⟨3, .phase⟩ (by simp) rfl) hi)⟩)
      exact Ord.ex_value x rfl rfl (Rg.load da0 rfl (by rw [hA.1 (by omega)]; simp [go_sem, HC4.out])) rfl (hW.keep (by decide))
    | 4, ho, hi, hdep =>
      cases ho
      have da0 : ac.eval (.tmp 3) = .pointer (some ⟨w.heap.size, 0, none⟩) := hF.old 3 rfl
      exact Ord.ex_value x rfl rfl (Rg.fa da0 rfl (by simp [go_sem])) rfl (hW.keep (by decide))
    | 5, ho, hi, hdep =>
      cases ho
      have da0 : ac.eval (.tmp 22) = .pointer (some ⟨w.heap.size, 2, none⟩) := hF.2.2.2 4 22 _ rfl (hdep ⟨4, .data⟩ (by simp) rfl)
      obtain ⟨kq, hlo, hhi, hA⟩ := hW.range 0 0 (.inl rfl) (.inr ⟨8, rfl, (Rg.no_of (fun h => hcl 8 _ rfl (h) ⟨5, .phase⟩ (by simp) rfl) hi)⟩)
      exact Ord.ex_value x rfl rfl (Rg.load da0 rfl (by rw [hA.1 (by omega)]; simp [go_sem, HSP.out.cell 2 rfl])) rfl (hW.keep (by decide))
    | 6, ho, hi, hdep =>
      cases ho
      have da0 : ac.eval (.tmp 21) = .slice (some ⟨g, 0, none⟩) n cap := hF.2.2.2 3 21 _ rfl (hdep ⟨3, .data⟩ (by simp) rfl)
      have da1 : ac.eval (.tmp 23) = .int .i64 j := hF.2.2.2 5 23 _ rfl (hdep ⟨5, .data⟩ (by simp) rfl)
      exact Ord.ex_value x rfl rfl (Rg.ix da0 da1 rfl (HIX.out _)) rfl (hW.keep (by decide))
    | 7, ho, hi, hdep =>
      cases ho
      have da0 : ac.eval (.tmp 24) = .pointer (some ⟨g, j.toNat * 5, none⟩) := hF.2.2.2 6 24 _ rfl (hdep ⟨6, .data⟩ (by simp) rfl)
      obtain ⟨kq, hlo, hhi, hA⟩ := hW.range 0 0 (.inl rfl) (.inr ⟨8, rfl, (Rg.no_of (fun h => hcl 8 _ rfl (h) ⟨7, .data⟩ (by simp) rfl) hi)⟩)
      exact Ord.ex_value x rfl rfl (Rg.load da0 rfl (by rw [hA.1 (by omega)]; unfold pv; simp [go_sem, HK.out.1, HK.out.2.1, HK.out.2.2.1, HK.out.2.2.2.1, HK.out.2.2.2.2])) rfl (hW.keep (by decide))
    | 8, ho, hi, hdep =>
      cases ho
      have da0 : ac.eval (.tmp 4) = .pointer (some ⟨w.heap.size + 1, 0, none⟩) := hF.old 4 rfl
      have da1 : ac.eval (.tmp 25) = pv q := hF.2.2.2 7 25 _ rfl (hdep ⟨7, .data⟩ (by simp) rfl)
      have hA := hW.at (k := 0) rfl hi (.inl rfl)
      have hw := hA.1 rfl
      subst hw
      exact Rg.ex_skip x rfl rfl (Rg.sto da0 da1 rfl (store_pkt (w := W1.drew) HRS.out q)) rfl (hW.next (k := 0) rfl (by decide) hi (.inl rfl) ⟨fun e => absurd e (by decide), fun _ => rfl⟩)
    | 9, ho, hi, hdep =>
      cases ho
      exact Ord.ex_value x rfl rfl (Rg.asg rfl rfl) rfl (hW.keep (by decide))
  case refine_3 => exact Rg.StM.first ⟨fun _ => rfl, fun e => absurd e (by decide)⟩
  case refine_2 =>
    intro x w2 hW
    have hw := hW.last.2 rfl
    subst hw
    simp only [Ord.puts, Ord.prs]
    go_simp
    go_wp2
    exact bodyPost_ret (v := .tuple #[pv q, .int .i64 0]) (by exact res_pkt (p := 4) (u := 5) rfl _ q rfl FIN.out.2) rfl FIN.out.1
/-- what Twice leaves -/
def TwO (base : Nat) (w : World) (t b : Nat) (S : St) (en path j : Int) (e' : Ending) (w' : World) : Prop :=
  e' = .returned (.tuple #[.int .i64 (twI S en path j), .int .i64 (trE S en path j)]) ∧ (∃ vs', No base w' t b vs' (twS S en path j)) ∧ Kept TYc base w w'
set_option maxHeartbeats 2000000 in
theorem twice_ (h : No base w t b vs S) (hI : Inv S) (hn : S.next ≤ 1000) (hbase : base ≤ w.heap.size) (en path j : Int) :
    Calls Try.prog 17 #[.pointer (some ⟨t, 0, none⟩), .int .i64 en, .int .i64 path, .int .i64 j] w fun e' w' => TwO base w t b S en path j e' w' := by
  by_cases hE : trE S en path j = 0
  · obtain ⟨hp, h0, hj⟩ := trE_iff.1 hE
    have hr := hI.rows path.toNat en.toNat
    have TR := hidden (treat_ok_double h hI hn hE (at_ := 0) (bits := 0) (fun h1 => double h1 (At.of hp) hr hn h0 hj en path 0 0))
    unfold sv at TR
    obtain ⟨q, hq⟩ : ∃ q, q = (S.R path.toNat en.toNat).L.getD j.toNat zpk := ⟨_, rfl⟩
    rw [← hq] at TR
    have PU : Hid (∀ (w2 : World) (e' : Ending), DoO base w t b vs (cnt S path.toNat en.toNat false) (pv q) 0 e' w2 → ∀ o, Calls Try.prog 41 #[.pointer (some ⟨t, 0, none⟩), .int .i64 en, .int .i64 path, pv q] (w2.alloc o) fun e' w' => e' = .returned (.int .i64 S.next) ∧ TwO base w t b S en path j (.returned (.tuple #[.int .i64 S.next, .int .i64 0])) w') := fun w2 e' hD o => by
      obtain ⟨_, ⟨vs', hN, _⟩, hK, _⟩ := hD
      have hokc : ok (cnt S path.toNat en.toNat false) en path = true := hp
      have hN2 := hN.later ((Below.refl _ _).alloc (Nat.le_refl _) o)
      have hK2 := hK.alloc o
      have := hr.s; have := hr.d; have := hr.l; have := hr.f; have := hr.sum; have := hr.few; have := hr.len
      refine Calls.mono (put hN2 hokc rfl rfl (Nat.le_trans hbase hK2.size) hI.p ⟨hI.next, hn⟩ (by rw [cnt_at]; show 0 ≤ (S.R path.toNat en.toNat).T.l ∧ (S.R path.toNat en.toNat).T.l ≤ 1000; omega) (by rw [cnt_at]; show (S.R path.toNat en.toNat).L.length ≤ 1000; omega) q) ?_
      rintro e2 w3 ⟨rfl, hE2, hK3⟩
      refine ⟨rfl, ?_, ?_, hK2.trans hK3⟩
      · unfold twI; rw [hE]; rfl
      · unfold twS pkAt; rw [if_pos hE, ← hq]; exact hE2
    unfold pv at TR PU
    clear h hE hp h0 hj hr hq
    go_enter Try.func17, Try.ntmps17
    go_wp2_with fail
    refine Calls.mono TR.out ?_
    intro e' w2 hD
    have HD := hidden (PU.out _ _ hD)
    obtain rfl := hD.1
    clear hD
    go_wp2_with fail
    refine Calls.mono (HD.out _) ?_
    rintro e' w3 ⟨rfl, hT⟩
    have HT := hidden hT
    clear hT
    go_wp2
    go_ret2
    exact HT.out
  · have TR := hidden (treat_no_double h hI hn hE (at_ := 0) (bits := 0))
    unfold sv zv at TR
    have FIN : Hid (∀ (w2 : World), Below w.heap.size w w2 → ∀ o, TwO base w t b S en path j (.returned (.tuple #[.int .i64 0, .int .i64 (trE S en path j)])) (w2.alloc o)) := fun w2 hB o => by
      have hB2 : Below w.heap.size w (w2.alloc o) := hB.alloc hB.size o
      refine ⟨by unfold twI; rw [if_neg hE], ⟨vs, ?_⟩, Kept.of_below hB2⟩
      unfold twS
      rw [if_neg hE]
      exact h.later hB2
    generalize trE S en path j = c at *
    clear h
    go_enter Try.func17, Try.ntmps17
    go_wp2_with fail
    refine Calls.mono TR.out ?_
    rintro e' w2 ⟨rfl, hB⟩
    have HD := hidden (FIN.out _ hB)
    clear hB
    go_wp2
    go_ret2
    exact HD.out _
end
end Go.Proofs.Ytmogacccffkkbaa.Nt
