/-
  The document's Down; the document's network is made.
  Conditions: the network lies in memory.
-/
import Derived.Test.YtmogacccffkkbaaNtU
namespace Go.Proofs.Ytmogacccffkkbaa.Nt
open Go.ChangeShapes Go.WideShapes Go.ChangeAt Go.RowKit
open Ba (hidden Only In Has own_ne own_stay own_len own_some own_mono cell_lt heap_lt)
set_option linter.unusedVariables false
section
variable {base : Nat} {w w' w1 : World} {r : Nat} {rv ov : Value} {rb : Nat → Nat} {vs : Nat → Nat → Value} {X : Nat → Nat → List Pq} {S : St} {i e : Nat}
theorem Ro.lose (h : Ro base w r rv ov rb vs X S) (hi : i < S.p) (he : e < 2) : Ro base ((w.setCell ⟨rb i, e * 5 + 3, none⟩ (.int .i64 ((S.R i e).T.l + (S.R i e).L.length))).setCell ⟨rb i, e * 5, none⟩ (.slice none 0 0)) r rv ov rb (up2 vs i e (.slice none 0 0)) (up2 X i e []) (loseS S i e) ∧ Kept TYr base w ((w.setCell ⟨rb i, e * 5 + 3, none⟩ (.int .i64 ((S.R i e).T.l + (S.R i e).L.length))).setCell ⟨rb i, e * 5, none⟩ (.slice none 0 0)) := by
  obtain ⟨cs, hcs⟩ := (h.row i hi).has
  have h1 := h.setT hi he (k := 3) (by decide) (u := .int .i64 ((S.R i e).T.l + (S.R i e).L.length)) (T' := { (S.R i e).T with l := (S.R i e).T.l + (S.R i e).L.length }) rfl
  have hK := (Kept.refl TYr base w).set (p := ⟨rb i, e * 5 + 3, none⟩) hcs rfl (h.rbb i hi) (.int .i64 ((S.R i e).T.l + (S.R i e).L.length))
  obtain ⟨h2, hK2⟩ := h1.turn (i := i) (e := e) hi he (w1 := w.setCell ⟨rb i, e * 5 + 3, none⟩ (.int .i64 ((S.R i e).T.l + (S.R i e).L.length))) (Only.refl _ _) (v' := .slice none 0 0) (X' := []) (n0 := (w.setCell ⟨rb i, e * 5 + 3, none⟩ (.int .i64 ((S.R i e).T.l + (S.R i e).L.length))).heap.size) (World.ownsRow_nil _ _ _ _) (fun k hk => by cases hk) h1.blt (by simp) (by simp) (by simp)
  refine ⟨?_, hK.trans hK2⟩
  unfold loseS loseR
  unfold St.row at h2 ⊢
  simp only [up2_same, up2_up2, List.map_nil] at h2
  exact h2
def XS (X : Nat → Nat → List Pq) (i : Nat) : Nat → Nat → Nat → List Pq
  | 0 => X
  | 1 => up2 X i 0 []
  | _ => up2 (up2 X i 0 []) i 1 []
/-- what is read of a row that is about to be lost, and what is left behind it -/
theorem lose_ref (hI : Inv S) (hn : S.next ≤ 1000) {path q : Int} {qn : Nat} (hp : okP S path = true) (hq : q = qn) (hq2 : qn < 2) (hN : Ro base w r rv ov rb (VS vs path.toNat qn) (XS X path.toNat qn) (LS (offS S path.toNat true) path.toNat qn)) :
    ∃ g cap gr a n c l, w.cell? ⟨r, 0, none⟩ = some (.slice (some ⟨g, 0, none⟩) S.p cap) ∧ w.cell? ⟨g, path.toNat, none⟩ = some (.slice (some ⟨gr, 0, none⟩) 2 2) ∧ w.cell? ⟨gr, q.toNat * 5, none⟩ = some (.slice a n c) ∧ w.cell? ⟨gr, q.toNat * 5 + 3, none⟩ = some (.int .i64 l) ∧ (∀ k, w.frozen? ⟨gr, k, none⟩ = false) ∧ 0 ≤ l ∧ l + n ≤ 1000 ∧
      Ro base ((w.setCell ⟨gr, q.toNat * 5 + 3, none⟩ (.int .i64 (l + n))).setCell ⟨gr, q.toNat * 5, none⟩ (.slice none 0 0)) r rv ov rb (VS vs path.toNat (qn + 1)) (XS X path.toNat (qn + 1)) (LS (offS S path.toNat true) path.toNat (qn + 1)) ∧ Kept TYr base w ((w.setCell ⟨gr, q.toNat * 5 + 3, none⟩ (.int .i64 (l + n))).setCell ⟨gr, q.toNat * 5, none⟩ (.slice none 0 0)) := by
  obtain ⟨p3, p4⟩ : 0 ≤ path ∧ path < (S.p : Int) := of_decide_eq_true hp
  subst hq
  have hpp : (LS (offS S path.toNat true) path.toNat qn).p = S.p := by unfold LS; split <;> rfl
  have hok : ok (LS (offS S path.toNat true) path.toNat qn) (qn : Int) path = true := ok_iff.2 ⟨by omega, by rw [hpp]; omega⟩
  obtain ⟨g, cap, gr, n, a, c, c0, c1, hgr, l1, l2, l3, hvs, hnn, d0, d1, d2, d3, d4, hf⟩ := hN.at hok
  rw [Int.toNat_natCast] at *
  rw [hpp] at c0
  have hL := hN.lose (i := path.toNat) (e := qn) (by rw [hpp]; omega) hq2
  have hrow : (LS (offS S path.toNat true) path.toNat qn).R path.toNat qn = S.R path.toNat qn := by
    rcases (show qn = 0 ∨ qn = 1 by omega) with rfl | rfl
    · rfl
    · show up2 S.R path.toNat 0 _ path.toNat 1 = _
      exact up2_ne _ _ (by simp)
  have hr := hI.rows path.toNat qn
  have := hr.s; have := hr.d; have := hr.l; have := hr.f; have := hr.sum; have := hr.few
  rw [hrow] at hL hnn d3
  refine ⟨g, cap, gr, a, n, c, _, c0, c1, d0, d3, hf, hr.l, by omega, ?_⟩
  rw [hgr, hnn]
  rcases (show qn = 0 ∨ qn = 1 by omega) with rfl | rfl
  · exact hL
  · exact hL
/-- the document's network behind a call -/
def Ros (base : Nat) (w : World) (r : Nat) (S' : St) (w' : World) : Prop := (∃ rv ov rb vs X, Ro base w' r rv ov rb vs X S') ∧ Kept TYr base w w'
set_option maxHeartbeats 4000000 in
theorem rDown (h : Ro base w r rv ov rb vs X S) (hI : Inv S) (hn : S.next ≤ 1000) (path : Int) : Calls Try.prog 30 #[.pointer (some ⟨r, 0, none⟩), .int .i64 path] w fun e w' => e = .returned (.int .i64 (pE S path)) ∧ Ros base w r (dnS S path) w' := by
  have HS := hidden (rHas h hI.p 0 path)
  rw [ok0] at HS
  unfold pE dnS
  cases hp : okP S path with
  | false =>
    rw [hp] at HS
    have H := hidden h
    clear h hp
    go_enter Try.func30, Try.ntmps30
    go_wp2_with fail
    refine Calls.mono HS.out ?_
    rintro e w' ⟨rfl, rfl⟩
    go_wp2
    go_ret
    exact ⟨rfl, ⟨_, _, _, _, _, H.out⟩, Kept.refl _ _ _⟩
  | true =>
    rw [hp] at HS
    obtain ⟨h3, h4⟩ : 0 ≤ path ∧ path < (S.p : Int) := of_decide_eq_true hp
    obtain ⟨go, ocap, hv, c1, c2, c3, _⟩ := h.cutAt (i := path.toNat) (by omega)
    obtain ⟨H1, HK1⟩ := h.setOff hv (i := path.toNat) (by omega) true
    obtain ⟨W1, hW1⟩ : ∃ W1, W1 = w.setCell ⟨go, path.toNat, none⟩ (.bool true) := ⟨_, rfl⟩
    rw [← hW1] at H1 HK1
    have HA := hidden H1
    have HK := hidden HK1
    have HW1 := hidden hW1
    have LO : Hid (∀ (wr : World) (q : Int) (qn : Nat), q = qn → qn < 2 → Ro base wr r rv ov rb (VS vs path.toNat qn) (XS X path.toNat qn) (LS (offS S path.toNat true) path.toNat qn) → ∃ g cap gr a n c l, wr.cell? ⟨r, 0, none⟩ = some (.slice (some ⟨g, 0, none⟩) S.p cap) ∧ wr.cell? ⟨g, path.toNat, none⟩ = some (.slice (some ⟨gr, 0, none⟩) 2 2) ∧ wr.cell? ⟨gr, q.toNat * 5, none⟩ = some (.slice a n c) ∧ wr.cell? ⟨gr, q.toNat * 5 + 3, none⟩ = some (.int .i64 l) ∧ (∀ k, wr.frozen? ⟨gr, k, none⟩ = false) ∧ 0 ≤ l ∧ l + n ≤ 1000 ∧
      Ro base ((wr.setCell ⟨gr, q.toNat * 5 + 3, none⟩ (.int .i64 (l + n))).setCell ⟨gr, q.toNat * 5, none⟩ (.slice none 0 0)) r rv ov rb (VS vs path.toNat (qn + 1)) (XS X path.toNat (qn + 1)) (LS (offS S path.toNat true) path.toNat (qn + 1)) ∧ Kept TYr base wr ((wr.setCell ⟨gr, q.toNat * 5 + 3, none⟩ (.int .i64 (l + n))).setCell ⟨gr, q.toNat * 5, none⟩ (.slice none 0 0))) := fun wr q qn hq hq2 hN => lose_ref hI hn hp hq hq2 hN
    have FIN : Hid (∀ wr, Ro base wr r rv ov rb (VS vs path.toNat 2) (XS X path.toNat 2) (LS (offS S path.toNat true) path.toNat 2) → Kept TYr base w wr → Ros base w r (offS (loseS (loseS S path.toNat 0) path.toNat 1) path.toNat true) wr) := fun wr hR hK => ⟨⟨_, _, _, _, _, hR⟩, hK⟩
    have hp8 := hI.p
    clear h hp hv H1 HK1 hW1 hI
    go_enter Try.func30, Try.ntmps30
    go_wp2_with fail
    refine Calls.mono HS.out ?_
    rintro e w' ⟨rfl, rfl⟩
    go_wp2_with fail
    rw [← HW1.out]
    go_loopw [5] (fun iv wr => ∃ (q : Int) (qn : Nat), iv = .int .i64 q ∧ Hid (q = qn ∧ Ro base wr r rv ov rb (VS vs path.toNat qn) (XS X path.toNat qn) (LS (offS S path.toNat true) path.toNat qn) ∧ Kept TYr base w wr) ∧ 0 ≤ q ∧ q ≤ 2) (fun iv _ => 2 - (intOf iv).toNat)
    case atStart => exact ⟨0, 0, rfl, ⟨rfl, HA.out, HK.out⟩, by omega, by omega⟩
    case round =>
      obtain ⟨q, qn, rfl, HR, j1, j2⟩ := hrel
      by_cases hq : q < 2
      · obtain ⟨g, cap, gr, va, n, vcap, l, e0, e1, d0, d3, hf, hl0, hl1, hRo, hKo⟩ := LO.out wr q qn HR.out.1 (by have := HR.out.1; omega) HR.out.2.1
        have f3 := hf (q.toNat * 5 + 3)
        have f0 := hf (q.toNat * 5)
        have AD := hidden (add_run (a := l) (b := (n : Int)) (by omega) (by omega))
        have HN : Hid (∀ w2, w2 = ((wr.setCell ⟨gr, q.toNat * 5 + 3, none⟩ (.int .i64 (l + n))).setCell ⟨gr, q.toNat * 5, none⟩ (.slice none 0 0)).drew → (q + 1 : Int) = (qn + 1 : Nat) ∧ Ro base w2 r rv ov rb (VS vs path.toNat (qn + 1)) (XS X path.toNat (qn + 1)) (LS (offS S path.toNat true) path.toNat (qn + 1)) ∧ Kept TYr base w w2) := fun w2 hw2 => by
          subst hw2
          exact ⟨by have := HR.out.1; omega, hRo.later (Below.refl _ _).drew, (HR.out.2.2.trans hKo).drew⟩
        clear hRo hKo HR hf
        go_upto_region 8 with fail
        refine Ord.wp_region_ex0 (X := Unit) (by kernel_rfl) 48 (fun x => [(some 30, .pointer (some ⟨gr, q.toNat * 5, none⟩)), (some 31, .pointer (some ⟨gr, q.toNat * 5, none⟩)), (some 32, .pointer (some ⟨gr, q.toNat * 5, none⟩)), (some 33, .pointer (some ⟨gr, q.toNat * 5 + 1, none⟩)), (some 34, .pointer (some ⟨gr, q.toNat * 5 + 3, none⟩)), (some 35, .int .i64 l), (some 36, .pointer (some ⟨gr, q.toNat * 5, none⟩)), (some 37, .pointer (some ⟨gr, q.toNat * 5, none⟩)), (some 38, .pointer (some ⟨gr, q.toNat * 5, none⟩)), (some 39, .slice va n vcap), (some 40, .int .i64 (n : Int)), (some 41, .int .i64 (l + n)), (some 42, .pointer (some ⟨gr, q.toNat * 5, none⟩)), (some 43, .pointer (some ⟨gr, q.toNat * 5 + 1, none⟩)), (some 44, .pointer (some ⟨gr, q.toNat * 5 + 3, none⟩)), (none, undef)]) [some 30, some 31, some 32, some 33, some 34, some 35, some 36, some 37, some 38, some 39, some 40, some 41, some 42, some 43, some 44, none] rfl (fun listed hsz hr => Ord.all_listedC (rank := [0, 1, 2, 3, 4, 5, 6, 7, 8, 9, 10, 11, 12, 13, 14, 15]) (by kernel_rfl) hsz hr) (by rfl) (fun _ => rfl) (by kernel_rfl) (Rg.StM [15] (fun k _ w' => (k = 0 → w' = wr.drew) ∧ (k = 1 → w' = wr.drew.setCell ⟨gr, q.toNat * 5 + 3, none⟩ (.int .i64 (l + n))))) (fun _ _ _ _ hL h => h.ext (n := 16) (by decide) hL) ?_ ?_ () ?_
        case refine_1 =>
          intro x Lq iq oq ac w' ho hi hcl hdep hF hW
          have f1 : ac.tmps.size = 48 := hF.1
          match iq, ho, hi, hdep with
          | 0, ho, hi, hdep =>
            cases ho
            have da0 : ac.eval (.tmp 6) = .pointer (some ⟨gr, q.toNat * 5, none⟩) := hF.old 6 rfl
            exact Ord.ex_value x rfl rfl (Rg.mv da0 rfl) rfl (hW.keep (by decide))
          | 1, ho, hi, hdep =>
            cases ho
            have da0 : ac.eval (.tmp 6) = .pointer (some ⟨gr, q.toNat * 5, none⟩) := hF.old 6 rfl
            exact Ord.ex_value x rfl rfl (Rg.mv da0 rfl) rfl (hW.keep (by decide))
          | 2, ho, hi, hdep =>
            cases ho
            have da0 : ac.eval (.tmp 31) = .pointer (some ⟨gr, q.toNat * 5, none⟩) := hF.2.2.2 1 31 _ rfl (hdep ⟨1, .data⟩ (by simp) rfl)
            exact Ord.ex_value x rfl rfl (Rg.nilc da0 rfl) rfl (hW.keep (by decide))
          | 3, ho, hi, hdep =>
            cases ho
            have da0 : ac.eval (.tmp 32) = .pointer (some ⟨gr, q.toNat * 5, none⟩) := hF.2.2.2 2 32 _ rfl (hdep ⟨2, .data⟩ (by simp) rfl)
            exact Ord.ex_value x rfl rfl (Rg.fa da0 rfl (by simp [go_sem])) rfl (hW.keep (by decide))
          | 4, ho, hi, hdep =>
            cases ho
            have da0 : ac.eval (.tmp 33) = .pointer (some ⟨gr, q.toNat * 5 + 1, none⟩) := hF.2.2.2 3 33 _ rfl (hdep ⟨3, .data⟩ (by simp) rfl)
            exact Ord.ex_value x rfl rfl (Rg.fa da0 rfl (by simp [go_sem])) rfl (hW.keep (by decide))
          | 5, ho, hi, hdep =>
            cases ho
            have da0 : ac.eval (.tmp 34) = .pointer (some ⟨gr, q.toNat * 5 + 3, none⟩) := hF.2.2.2 4 34 _ rfl (hdep ⟨4, .data⟩ (by simp) rfl)
            obtain ⟨kq, hlo, hhi, hA⟩ := hW.range 0 0 (.inl rfl) (.inr ⟨15, rfl, (Rg.no_of (fun h => hcl 15 _ rfl (h) ⟨5, .phase⟩ (by simp) rfl) hi)⟩)
            exact Ord.ex_value x rfl rfl (Rg.load da0 rfl (by rw [hA.1 (by omega)]; simp [go_sem, d3])) rfl (hW.keep (by decide))
          | 6, ho, hi, hdep =>
            cases ho
            have da0 : ac.eval (.tmp 6) = .pointer (some ⟨gr, q.toNat * 5, none⟩) := hF.old 6 rfl
            exact Ord.ex_value x rfl rfl (Rg.mv da0 rfl) rfl (hW.keep (by decide))
          | 7, ho, hi, hdep =>
            cases ho
            have da0 : ac.eval (.tmp 36) = .pointer (some ⟨gr, q.toNat * 5, none⟩) := hF.2.2.2 6 36 _ rfl (hdep ⟨6, .data⟩ (by simp) rfl)
            exact Ord.ex_value x rfl rfl (Rg.nilc da0 rfl) rfl (hW.keep (by decide))
          | 8, ho, hi, hdep =>
            cases ho
            have da0 : ac.eval (.tmp 37) = .pointer (some ⟨gr, q.toNat * 5, none⟩) := hF.2.2.2 7 37 _ rfl (hdep ⟨7, .data⟩ (by simp) rfl)
            exact Ord.ex_value x rfl rfl (Rg.fa da0 rfl (by simp [go_sem])) rfl (hW.keep (by decide))
          | 9, ho, hi, hdep =>
            cases ho
            have da0 : ac.eval (.tmp 38) = .pointer (some ⟨gr, q.toNat * 5, none⟩) := hF.2.2.2 8 38 _ rfl (hdep ⟨8, .data⟩ (by simp) rfl)
            obtain ⟨kq, hlo, hhi, hA⟩ := hW.range 0 0 (.inl rfl) (.inr ⟨15, rfl, (Rg.no_of (fun h => hcl 15 _ rfl (h) ⟨9, .phase⟩ (by simp) rfl) hi)⟩)
            exact Ord.ex_value x rfl rfl (Rg.load da0 rfl (by rw [hA.1 (by omega)]; simp [go_sem, d0])) rfl (hW.keep (by decide))
          | 10, ho, hi, hdep =>
            cases ho
            have da0 : ac.eval (.tmp 39) = .slice va n vcap := hF.2.2.2 9 39 _ rfl (hdep ⟨9, .data⟩ (by simp) rfl)
            exact Ord.ex_value x rfl rfl (Rg.len_ da0 rfl (by simp [go_sem])) rfl (hW.keep (by decide))
          | 11, ho, hi, hdep =>
            cases ho
            have da0 : ac.eval (.tmp 35) = .int .i64 l := hF.2.2.2 5 35 _ rfl (hdep ⟨5, .data⟩ (by simp) rfl)
            have da1 : ac.eval (.tmp 40) = .int .i64 (n : Int) := hF.2.2.2 10 40 _ rfl (hdep ⟨10, .data⟩ (by simp) rfl)
            exact Ord.ex_value x rfl rfl (Rg.bin da0 da1 rfl (AD.out _ _ _)) rfl (hW.keep (by decide))
          | 12, ho, hi, hdep =>
            cases ho
            have da0 : ac.eval (.tmp 30) = .pointer (some ⟨gr, q.toNat * 5, none⟩) := hF.2.2.2 0 30 _ rfl (hdep ⟨0, .data⟩ (by simp) rfl)
            exact Ord.ex_value x rfl rfl (Rg.nilc da0 rfl) rfl (hW.keep (by decide))
          | 13, ho, hi, hdep =>
            cases ho
            have da0 : ac.eval (.tmp 42) = .pointer (some ⟨gr, q.toNat * 5, none⟩) := hF.2.2.2 12 42 _ rfl (hdep ⟨12, .data⟩ (by simp) rfl)
            exact Ord.ex_value x rfl rfl (Rg.fa da0 rfl (by simp [go_sem])) rfl (hW.keep (by decide))
          | 14, ho, hi, hdep =>
            cases ho
            have da0 : ac.eval (.tmp 43) = .pointer (some ⟨gr, q.toNat * 5 + 1, none⟩) := hF.2.2.2 13 43 _ rfl (hdep ⟨13, .data⟩ (by simp) rfl)
            exact Ord.ex_value x rfl rfl (Rg.fa da0 rfl (by simp [go_sem])) rfl (hW.keep (by decide))
          | 15, ho, hi, hdep =>
            cases ho
            have da0 : ac.eval (.tmp 44) = .pointer (some ⟨gr, q.toNat * 5 + 3, none⟩) := hF.2.2.2 14 44 _ rfl (hdep ⟨14, .data⟩ (by simp) rfl)
            have da1 : ac.eval (.tmp 41) = .int .i64 (l + n) := hF.2.2.2 11 41 _ rfl (hdep ⟨11, .data⟩ (by simp) rfl)
            have hA := hW.at (k := 0) rfl hi (.inl rfl)
            have hw := hA.1 rfl
            subst hw
            exact Rg.ex_skip x rfl rfl (Rg.sto da0 da1 rfl (by simp [go_sem, d3, f3])) rfl (hW.next (k := 0) rfl (by decide) hi (.inl rfl) ⟨fun e => absurd e (by decide), fun _ => rfl⟩)
        case refine_3 => exact Rg.StM.first ⟨fun _ => rfl, fun e => absurd e (by decide)⟩
        case refine_2 =>
          intro x w2 hW
          have hw := hW.last.2 rfl
          subst hw
          simp only [Ord.puts, Ord.prs]
          go_simp
          go_wp2
          go_roundw
          case rel => exact ⟨_, qn + 1, rfl, HN.out _ rfl, by omega, by omega⟩
          case measure => simp [intOf]; omega
      · have hqn : qn = 2 := by have := HR.out.1; omega
        subst hqn
        have HF := hidden (FIN.out wr HR.out.2.1 HR.out.2.2)
        clear HR
        go_wp2
        go_ret
        exact ⟨rfl, HF.out⟩
end
end Go.Proofs.Ytmogacccffkkbaa.Nt
