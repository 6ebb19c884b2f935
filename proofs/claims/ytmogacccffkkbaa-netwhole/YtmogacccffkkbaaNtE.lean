/-
  A path is cut: what is on its way is lost.
  Conditions: the network lies in memory.
-/
import Derived.Test.YtmogacccffkkbaaNtD
import Derived.Deep.Cut
namespace Go.Proofs.Ytmogacccffkkbaa.Nt
open Go.ChangeShapes Go.WideShapes Go.ChangeAt Go.RowKit
open Ba (hidden Only In Has own_ne own_stay own_len own_some own_mono cell_lt heap_lt)
set_option linter.unusedVariables false
theorem add_run {a b : Int} (h1 : -9223372036854775808 ≤ a + b) (h2 : a + b ≤ 9223372036854775807) (x y : Operand) (w : World) : (do eqGuard .add 3 x y (.int .i64 a) (.int .i64 b); binOp .add 3 (.int .i64 a) (.int .i64 b) : Sem Value).run Try.prog w = .ok (.int .i64 (a + b)) w := by
  have hw : IntKind.i64.wrap (a + b) = a + b := by rw [IntKind.wrap_i64]; omega
  simp [go_sem, hw]
section
variable {base : Nat} {w w' w1 : World} {t b : Nat} {vs : Nat → Nat → Value} {S : St} {i e : Nat}
theorem No.lose (h : No base w t b vs S) (hi : i < S.p) (he : e < 2) : No base ((w.setCell ⟨b, i * 11 + e * 5 + 2, none⟩ (.int .i64 ((S.R i e).T.l + (S.R i e).L.length))).setCell ⟨b, i * 11 + e * 5 + 4, none⟩ (.slice none 0 0)) t b (up2 vs i e (.slice none 0 0)) (loseS S i e) := by
  have h1 := h.setT hi he (k := 2) (by decide) (u := .int .i64 ((S.R i e).T.l + (S.R i e).L.length)) (T' := { (S.R i e).T with l := (S.R i e).T.l + (S.R i e).L.length }) rfl
  have h2 := h1.turn (i := i) (e := e) hi he (w1 := w.setCell ⟨b, i * 11 + e * 5 + 2, none⟩ (.int .i64 ((S.R i e).T.l + (S.R i e).L.length))) (Only.refl _ _) (v' := .slice none 0 0) (L' := []) (World.ownsRow_nil _ _ _ _) (fun k hk => by cases hk)
  unfold loseS loseR
  unfold St.row at h2 ⊢
  simp only [up2_same, up2_up2] at h2
  exact h2
set_option maxHeartbeats 1000000 in
theorem lose (h : No base w t b vs S) {o : Nat} (ha : At S i e o) (hr : Rok S.next (S.R i e)) (hn : S.next ≤ 1000) : Calls Try.prog 55 #[.pointer (some ⟨b, o, none⟩)] w fun e' w' => e' = .returned (.tuple #[]) ∧ No base w' t b (up2 vs i e (.slice none 0 0)) (loseS S i e) ∧ Kept TYc base w w' := by
  have hl := hr.len
  have := hr.s; have := hr.d; have := hr.l; have := hr.f; have := hr.sum; have := hr.few
  have c2 := h.ln.cell ha.li ha.le 2 rfl
  have c4 := h.ln.cell ha.li ha.le 4 rfl
  have f2 := h.ln.frozen (o + 2)
  have f4 := h.ln.frozen (o + 4)
  have hb : b < w.heap.size := by obtain ⟨cs, hc⟩ := h.ln.has; exact hc.lt
  obtain ⟨va, vcap, hv⟩ := own_len (h.own i e)
  rw [← ha.lo] at c2 c4
  rw [hv] at c4
  have FIN : Hid (No base ((w.setCell ⟨b, o + 2, none⟩ (.int .i64 ((S.R i e).T.l + (S.R i e).L.length))).setCell ⟨b, o + 4, none⟩ (.slice none 0 0)) t b (up2 vs i e (.slice none 0 0)) (loseS S i e) ∧ Kept TYc base w ((w.setCell ⟨b, o + 2, none⟩ (.int .i64 ((S.R i e).T.l + (S.R i e).L.length))).setCell ⟨b, o + 4, none⟩ (.slice none 0 0))) := by
    obtain ⟨cs, hcs⟩ := h.ln.has
    have h1 := h.lose ha.li ha.le
    rw [← ha.lo] at h1
    exact ⟨h1, ((Kept.refl _ _ _).set (p := ⟨b, o + 2, none⟩) hcs rfl h.bb _).set (p := ⟨b, o + 4, none⟩) (hcs.set _ _) rfl h.bb _⟩
  have hq1 : 0 ≤ (S.R i e).T.l := hr.l
  have hq2 : (S.R i e).T.l + (S.R i e).L.length ≤ 1000 := by omega
  generalize (S.R i e).L.length = n at c4 hl FIN hq2
  generalize (S.R i e).T.l = l at c2 FIN hq1 hq2
  have AD := hidden (add_run (a := l) (b := (n : Int)) (by omega) (by omega))
  clear h ha hr hv
  go_enter Try.func55, Try.ntmps55
  go_upto_region 0 with fail
  refine Ord.wp_region_ex0 (X := Unit) (by kernel_rfl) 19 (fun x => [(some 2, .pointer (some ⟨b, o, none⟩)), (some 3, .pointer (some ⟨b, o, none⟩)), (some 4, .pointer (some ⟨b, o, none⟩)), (some 5, .pointer (some ⟨b, o + 2, none⟩)), (some 6, .int .i64 l), (some 7, .pointer (some ⟨b, o, none⟩)), (some 8, .pointer (some ⟨b, o, none⟩)), (some 9, .pointer (some ⟨b, o + 4, none⟩)), (some 10, .slice va n vcap), (some 11, .int .i64 (n : Int)), (some 12, .int .i64 (l + n)), (some 13, .pointer (some ⟨b, o, none⟩)), (some 14, .pointer (some ⟨b, o, none⟩)), (some 15, .pointer (some ⟨b, o + 2, none⟩)), (none, undef)]) [some 2, some 3, some 4, some 5, some 6, some 7, some 8, some 9, some 10, some 11, some 12, some 13, some 14, some 15, none] rfl (fun listed hsz hr => Ord.all_listedC (rank := [0, 1, 2, 3, 4, 5, 6, 7, 8, 9, 10, 11, 12, 13, 14]) (by kernel_rfl) hsz hr) (by rfl) (fun _ => rfl) (by kernel_rfl) (Rg.StM [14] (fun k _ w' => (k = 0 → w' = w.drew) ∧ (k = 1 → w' = w.drew.setCell ⟨b, o + 2, none⟩ (.int .i64 (l + n))))) (fun _ _ _ _ hL h => h.ext (n := 15) (by decide) hL) ?_ ?_ () ?_
  case refine_1 =>
    intro x Lq iq oq ac w' ho hi hcl hdep hF hW
    have f1 : ac.tmps.size = 19 := hF.1
    match iq, ho, hi, hdep with
    | 0, ho, hi, hdep =>
      cases ho
      have da0 : ac.eval (.tmp 0) = .pointer (some ⟨b, o, none⟩) := hF.old 0 rfl
      exact Ord.ex_value x rfl rfl (Rg.mv da0 rfl) rfl (hW.keep (by decide))
    | 1, ho, hi, hdep =>
      cases ho
      have da0 : ac.eval (.tmp 2) = .pointer (some ⟨b, o, none⟩) := hF.2.2.2 0 2 _ rfl (hdep ⟨0, .data⟩ (by simp) rfl)
      exact Ord.ex_value x rfl rfl (Rg.nilc da0 rfl) rfl (hW.keep (by decide))
    | 2, ho, hi, hdep =>
      cases ho
      have da0 : ac.eval (.tmp 3) = .pointer (some ⟨b, o, none⟩) := hF.2.2.2 1 3 _ rfl (hdep ⟨1, .data⟩ (by simp) rfl)
      exact Ord.ex_value x rfl rfl (Rg.fa da0 rfl (by simp [go_sem])) rfl (hW.keep (by decide))
    | 3, ho, hi, hdep =>
      cases ho
      have da0 : ac.eval (.tmp 4) = .pointer (some ⟨b, o, none⟩) := hF.2.2.2 2 4 _ rfl (hdep ⟨2, .data⟩ (by simp) rfl)
      exact Ord.ex_value x rfl rfl (Rg.fa da0 rfl (by simp [go_sem])) rfl (hW.keep (by decide))
    | 4, ho, hi, hdep =>
      cases ho
      have da0 : ac.eval (.tmp 5) = .pointer (some ⟨b, o + 2, none⟩) := hF.2.2.2 3 5 _ rfl (hdep ⟨3, .data⟩ (by simp) rfl)
      obtain ⟨kq, hlo, hhi, hA⟩ := hW.range 0 0 (.inl rfl) (.inr ⟨14, rfl, (Rg.no_of (fun h => hcl 14 _ rfl (h) ⟨4, .phase⟩ (by simp) rfl) hi)⟩)
      exact Ord.ex_value x rfl rfl (Rg.load da0 rfl (by rw [hA.1 (by omega)]; simp [go_sem, c2])) rfl (hW.keep (by decide))
    | 5, ho, hi, hdep =>
      cases ho
      have da0 : ac.eval (.tmp 0) = .pointer (some ⟨b, o, none⟩) := hF.old 0 rfl
      exact Ord.ex_value x rfl rfl (Rg.mv da0 rfl) rfl (hW.keep (by decide))
    | 6, ho, hi, hdep =>
      cases ho
      have da0 : ac.eval (.tmp 7) = .pointer (some ⟨b, o, none⟩) := hF.2.2.2 5 7 _ rfl (hdep ⟨5, .data⟩ (by simp) rfl)
      exact Ord.ex_value x rfl rfl (Rg.nilc da0 rfl) rfl (hW.keep (by decide))
    | 7, ho, hi, hdep =>
      cases ho
      have da0 : ac.eval (.tmp 8) = .pointer (some ⟨b, o, none⟩) := hF.2.2.2 6 8 _ rfl (hdep ⟨6, .data⟩ (by simp) rfl)
      exact Ord.ex_value x rfl rfl (Rg.fa da0 rfl (by simp [go_sem])) rfl (hW.keep (by decide))
    | 8, ho, hi, hdep =>
      cases ho
      have da0 : ac.eval (.tmp 9) = .pointer (some ⟨b, o + 4, none⟩) := hF.2.2.2 7 9 _ rfl (hdep ⟨7, .data⟩ (by simp) rfl)
      obtain ⟨kq, hlo, hhi, hA⟩ := hW.range 0 0 (.inl rfl) (.inr ⟨14, rfl, (Rg.no_of (fun h => hcl 14 _ rfl (h) ⟨8, .phase⟩ (by simp) rfl) hi)⟩)
      exact Ord.ex_value x rfl rfl (Rg.load da0 rfl (by rw [hA.1 (by omega)]; simp [go_sem, c4])) rfl (hW.keep (by decide))
    | 9, ho, hi, hdep =>
      cases ho
      have da0 : ac.eval (.tmp 10) = .slice va n vcap := hF.2.2.2 8 10 _ rfl (hdep ⟨8, .data⟩ (by simp) rfl)
      exact Ord.ex_value x rfl rfl (Rg.len_ da0 rfl (by simp [go_sem])) rfl (hW.keep (by decide))
    | 10, ho, hi, hdep =>
      cases ho
      have da0 : ac.eval (.tmp 6) = .int .i64 l := hF.2.2.2 4 6 _ rfl (hdep ⟨4, .data⟩ (by simp) rfl)
      have da1 : ac.eval (.tmp 11) = .int .i64 (n : Int) := hF.2.2.2 9 11 _ rfl (hdep ⟨9, .data⟩ (by simp) rfl)
      exact Ord.ex_value x rfl rfl (Rg.bin da0 da1 rfl (AD.out _ _ _)) rfl (hW.keep (by decide))
    | 11, ho, hi, hdep =>
      cases ho
      have da0 : ac.eval (.tmp 2) = .pointer (some ⟨b, o, none⟩) := hF.2.2.2 0 2 _ rfl (hdep ⟨0, .data⟩ (by simp) rfl)
      exact Ord.ex_value x rfl rfl (Rg.nilc da0 rfl) rfl (hW.keep (by decide))
    | 12, ho, hi, hdep =>
      cases ho
      have da0 : ac.eval (.tmp 13) = .pointer (some ⟨b, o, none⟩) := hF.2.2.2 11 13 _ rfl (hdep ⟨11, .data⟩ (by simp) rfl)
      exact Ord.ex_value x rfl rfl (Rg.fa da0 rfl (by simp [go_sem])) rfl (hW.keep (by decide))
    | 13, ho, hi, hdep =>
      cases ho
      have da0 : ac.eval (.tmp 14) = .pointer (some ⟨b, o, none⟩) := hF.2.2.2 12 14 _ rfl (hdep ⟨12, .data⟩ (by simp) rfl)
      exact Ord.ex_value x rfl rfl (Rg.fa da0 rfl (by simp [go_sem])) rfl (hW.keep (by decide))
    | 14, ho, hi, hdep =>
      cases ho
      have da0 : ac.eval (.tmp 15) = .pointer (some ⟨b, o + 2, none⟩) := hF.2.2.2 13 15 _ rfl (hdep ⟨13, .data⟩ (by simp) rfl)
      have da1 : ac.eval (.tmp 12) = .int .i64 (l + n) := hF.2.2.2 10 12 _ rfl (hdep ⟨10, .data⟩ (by simp) rfl)
      have hA := hW.at (k := 0) rfl hi (.inl rfl)
      have hw := hA.1 rfl
      subst hw
      exact Rg.ex_skip x rfl rfl (Rg.sto da0 da1 rfl (by simp [go_sem, c2, f2])) rfl (hW.next (k := 0) rfl (by decide) hi (.inl rfl) ⟨fun e => absurd e (by decide), fun _ => rfl⟩)
  case refine_3 => exact Rg.StM.first ⟨fun _ => rfl, fun e => absurd e (by decide)⟩
  case refine_2 =>
    intro x w2 hW
    have hw := hW.last.2 rfl
    subst hw
    simp only [Ord.puts, Ord.prs]
    go_simp
    go_wp2
    go_end0
    exact ⟨rfl, FIN.out.1.later (Below.refl _ _).drew, FIN.out.2.drew⟩
/-- while a path's rows are lost, one behind the other -/
def LS (S : St) (i : Nat) : Nat → St
  | 0 => S
  | 1 => loseS S i 0
  | _ => loseS (loseS S i 0) i 1
def VS (vs : Nat → Nat → Value) (i : Nat) : Nat → Nat → Nat → Value
  | 0 => vs
  | 1 => up2 vs i 0 (.slice none 0 0)
  | _ => up2 (up2 vs i 0 (.slice none 0 0)) i 1 (.slice none 0 0)
theorem lose_at (h : Inv S) (hn : S.next ≤ 1000) (hi : i < S.p) {q : Int} {qn : Nat} (hq : q = qn) (hq2 : qn < 2) (hN : No base w t b (VS vs i qn) (LS S i qn)) : Calls Try.prog 55 #[.pointer (some ⟨b, i * 11 + q.toNat * 5, none⟩)] w fun e' w' => e' = .returned (.tuple #[]) ∧ No base w' t b (VS vs i (qn + 1)) (LS S i (qn + 1)) ∧ Kept TYc base w w' := by
  subst hq
  rw [Int.toNat_natCast]
  rcases (show qn = 0 ∨ qn = 1 by omega) with rfl | rfl
  · exact lose hN ⟨hi, by decide, rfl⟩ (h.rows i 0) hn
  · exact lose hN ⟨hi, by decide, rfl⟩ ((h.lose i 0).rows i 1) hn
set_option maxHeartbeats 1000000 in
theorem cut (h : No base w t b vs S) (hI : Inv S) (hn : S.next ≤ 1000) (hi : i < S.p) : Calls Try.prog 45 #[.pointer (some ⟨b, i * 11, none⟩)] w fun e' w' => e' = .returned (.tuple #[]) ∧ (∃ vs', No base w' t b vs' (offS (LS S i 2) i true)) ∧ Kept TYc base w w' := by
  have LO : Hid (∀ (wr : World) (q : Int) (qn : Nat), q = qn → qn < 2 → No base wr t b (VS vs i qn) (LS S i qn) → Calls Try.prog 55 #[.pointer (some ⟨b, i * 11 + q.toNat * 5, none⟩)] wr fun e' w' => e' = .returned (.tuple #[]) ∧ No base w' t b (VS vs i (qn + 1)) (LS S i (qn + 1)) ∧ Kept TYc base wr w') := fun wr q qn hq hq2 hN => lose_at hI hn hi hq hq2 hN
  have H := hidden h
  have FIN : Hid (∀ wr, No base wr t b (VS vs i 2) (LS S i 2) → Kept TYc base w wr → No base (wr.setCell ⟨b, i * 11 + 10, none⟩ (.bool true)) t b (VS vs i 2) (offS (LS S i 2) i true) ∧ Kept TYc base w (wr.setCell ⟨b, i * 11 + 10, none⟩ (.bool true)) ∧ (∃ x, wr.cell? ⟨b, i * 11 + 10, none⟩ = some (.bool x)) ∧ wr.frozen? ⟨b, i * 11 + 10, none⟩ = false) := fun wr hN hK => by
    obtain ⟨cs, hcs⟩ := hN.ln.has
    exact ⟨hN.setOff hi true, hK.set (p := ⟨b, i * 11 + 10, none⟩) hcs rfl hN.bb _, ⟨_, hN.ln.down hi⟩, hN.ln.frozen _⟩
  clear h hI hn hi
  go_enter Try.func45, Try.ntmps45
  go_wp2_with fail
  go_loopw [3] (fun iv wr => ∃ (q : Int) (qn : Nat), iv = .int .i64 q ∧ Hid (q = qn ∧ No base wr t b (VS vs i qn) (LS S i qn) ∧ Kept TYc base w wr) ∧ 0 ≤ q ∧ q ≤ 2) (fun iv _ => 2 - (intOf iv).toNat)
  case atStart => exact ⟨0, 0, rfl, ⟨rfl, H.out, Kept.refl _ _ _⟩, by omega, by omega⟩
  case round =>
    obtain ⟨q, qn, rfl, HR, j1, j2⟩ := hrel
    by_cases hq : q < 2
    · go_wp2_with fail
      refine Calls.mono (LO.out _ q qn HR.out.1 (by have := HR.out.1; omega) HR.out.2.1) ?_
      rintro e w' ⟨rfl, hN, hK⟩
      have HN : Hid ((q + 1 : Int) = (qn + 1 : Nat) ∧ No base w' t b (VS vs i (qn + 1)) (LS S i (qn + 1)) ∧ Kept TYc base w w') := ⟨by have := HR.out.1; omega, hN, HR.out.2.2.trans hK⟩
      clear hN hK HR
      go_wp2
      go_roundw
      case rel => exact ⟨_, qn + 1, rfl, HN.out, by omega, by omega⟩
      case measure => simp [intOf]; omega
    · have hqn : qn = 2 := by have := HR.out.1; omega
      subst hqn
      obtain ⟨g1, g2, ⟨x, g3⟩, g4⟩ := FIN.out wr HR.out.2.1 HR.out.2.2
      have G1 := hidden g1
      have G2 := hidden g2
      clear HR g1 g2
      go_wp2
      go_end0
      exact ⟨rfl, ⟨_, G1.out⟩, G2.out⟩
theorem down_ (h : No base w t b vs S) (hI : Inv S) (hn : S.next ≤ 1000) (path : Int) : Calls Try.prog 20 #[.pointer (some ⟨t, 0, none⟩), .int .i64 path] w fun e w' => e = .returned (.int .i64 (pE S path)) ∧ (∃ vs', No base w' t b vs' (dnS S path)) ∧ Kept TYc base w w' := by
  unfold pE dnS
  cases hp : okP S path with
  | false =>
    have LA := hidden (lane_no h hp hI.p)
    have H := hidden h
    clear h hp
    go_enter Try.func20, Try.ntmps20
    go_wp2_with fail
    refine Calls.mono LA.out ?_
    rintro e w' ⟨rfl, rfl⟩
    go_wp2
    go_ret
    exact ⟨rfl, ⟨_, H.out⟩, Kept.refl _ _ _⟩
  | true =>
    have LA := hidden (lane_ok h hp hI.p)
    have hi : path.toNat < S.p := by have := of_decide_eq_true hp; omega
    have CU := hidden (cut h hI hn hi)
    clear h hp
    go_enter Try.func20, Try.ntmps20
    go_wp2_with fail
    refine Calls.mono LA.out ?_
    rintro e w' ⟨rfl, rfl⟩
    go_wp2_with fail
    refine Calls.mono CU.out ?_
    rintro e w' ⟨rfl, hE, hK⟩
    have HE := hidden hE
    have HK := hidden hK
    clear hE hK
    go_wp2
    go_ret
    exact ⟨rfl, HE.out, HK.out⟩
end
end Go.Proofs.Ytmogacccffkkbaa.Nt
