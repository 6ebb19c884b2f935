/-
  The document's box: a path's chunks are given up.
  Conditions: the box lies in memory.
-/
import Derived.Test.YtjceeckcfjjkkaaOdD
namespace Go.Proofs.Ytjceeckcfjjkkaa.Ob
open Go.ChangeShapes Go.WideShapes Go.ChangeAt Go.RowKit
open Ba (hidden Has cell_lt heap_lt)
set_option linter.unusedVariables false
section
variable {D F G Q : Nat → Prop} {w w' : World} {r : Nat} {v : Value} {P : List CV} {n : Nat} {c : Int} {q : Rq} {L : List Ch} {i g o : Nat} {x y : Ch} {gs : List (Int × Int)}
set_option maxRecDepth 8000 in
set_option maxHeartbeats 2000000 in
theorem r_timeout (h : Ro D w r v P n c L) (hk : Lk n L) (s : Int) (hs : 0 ≤ s ∧ s < (n : Int)) :
    Calls Try.prog 34 #[.pointer (some ⟨r, 0, none⟩), .int .i64 s] w fun e w' => e = .returned (.tuple #[.int .i64 (fl L s), .int .i64 0]) ∧ (∃ P', Ro D w' r v P' n c (up L.length (tmF s) L)) ∧ Mod (FD r v) w w' := by
  have HAS := hidden (r_has h s)
  have HP := hidden (hk.part s)
  have HH := hidden h
  obtain ⟨aa, ca, hv, _⟩ := h.rw_.slice
  rw [h.len] at hv
  obtain ⟨z, hz⟩ : ∃ z, z = L.length := ⟨_, rfl⟩
  have HZ := hidden hz
  rw [← hz] at hv
  have hz1 : z ≤ 1001 := by rw [hz]; exact hk.1
  have HV := hidden hv
  have HS := hidden hs
  have hdt : decide (0 ≤ s ∧ s < (n : Int)) = true := decide_eq_true hs
  rw [hdt] at HAS
  clear h hk hv hz hs hdt
  go_enter Try.func34, Try.ntmps34
  go_wp2_with fail
  refine Calls.mono HAS.out ?_
  rintro e w' ⟨rfl, rfl⟩
  go_wp2_with fail
  go_loopw [6, 7] (fun d d' X => ∃ k : Nat, d = .int .i64 (sm (flF s) (L.take k)) ∧ d' = .int .i64 (k : Int) ∧ k ≤ z ∧ Hid (∃ P', Ro D X r v P' n c (up k (tmF s) L) ∧ Mod (FD r v) w X)) (fun d d' X => z - (intOf d').toNat)
  case atStart => exact ⟨0, rfl, rfl, Nat.zero_le _, ⟨P, by rw [up_zero]; exact HH.out, Mod.refl _ _⟩⟩
  case round =>
    obtain ⟨k, rfl, rfl, hkz, HI⟩ := hrel
    obtain ⟨P', hR, hM⟩ := HI.out
    have c2 := hR.q.cell 2 rfl
    rw [HV.out] at c2
    have hwk : IntKind.i64.wrap ((k : Int) + 1) = (k : Int) + 1 := by rw [IntKind.wrap_i64]; omega
    by_cases hlt : (k : Int) < (z : Int)
    · obtain ⟨x, hx⟩ : ∃ x, L[k]? = some x := ⟨_, List.getElem?_eq_getElem (by rw [← HZ.out]; omega)⟩
      obtain ⟨g, oo, cap, a1, c1, e, hc, hb, hf⟩ := hR.open (up_here hx)
      have hpl : Pl v k g (oo + k * 14) := ⟨oo, _, _, e, rfl⟩
      rw [up_len, HV.out, ← HZ.out] at e
      cases e
      obtain ⟨m0, m1, m2, m3, m4, m5, m6, m7, m8, m9, m10, m11, m12, m13⟩ := hc.all14
      have hs := sm_take (f := flF s) hx
      have hb1 := HP.out k
      have hb2 := HP.out (k + 1)
      rw [hs] at hb2
      have HSM := hidden hs
      have HR := hidden (And.intro hR (And.intro hM (And.intro hpl hx)))
      clear hc hb hR hM hx hs hpl
      generalize sm (flF s) (L.take k) = A at *
      by_cases h1 : x.st = 1
      · have h1b : (x.st == 1) = true := by simp [h1]
        by_cases h2 : x.pa = s
        · have h2b : (x.pa == s) = true := by simp [h2]
          have HF : flF s x = sz x := by unfold flF; rw [if_pos ⟨h1, h2⟩]
          rw [HF] at hb2 HSM
          have hwa : IntKind.i64.wrap (A + sz x) = A + sz x := by rw [IntKind.wrap_i64]; omega
          have HTM : Hid (tmF s k x = { x with st := 2, mi := 0 }) := by show _ = _; unfold tmF; rw [if_pos ⟨h1, h2⟩]
          clear HF h1 h2
          obtain ⟨X2, hX2⟩ : ∃ X2, X2 = (wr.setCell ⟨g, oo + k * 14 + 6, none⟩ (.int .i64 2)).setCell ⟨g, oo + k * 14 + 4, none⟩ (.int .i64 0) := ⟨_, rfl⟩
          obtain ⟨P2, hR2⟩ := HR.out.1.setC HR.out.2.2.1 (up_here HR.out.2.2.2) (cc_ := 6) (u := .int .i64 2) (y := { x with st := 2 }) (by decide) (fun v => rfl) rfl
          obtain ⟨P3, hR3⟩ := hR2.setC HR.out.2.2.1 (List.getElem?_set_self (by rw [up_len]; exact (List.getElem?_eq_some_iff.1 HR.out.2.2.2).1)) (cc_ := 4) (u := .int .i64 0) (y := { x with st := 2, mi := 0 }) (by decide) (fun v => rfl) rfl
          rw [List.set_set, ← HTM.out, up_set HR.out.2.2.2, ← hX2] at hR3
          have hm2 : Mod (FD r v) wr X2 := by
            rw [hX2]
            exact (Mod.setCell wr (p := ⟨g, oo + k * 14 + 6, none⟩) (.inr HR.out.2.2.1.own) _).trans (Mod.setCell _ (p := ⟨g, oo + k * 14 + 4, none⟩) (.inr HR.out.2.2.1.own) _) (fun j hj => .inl hj)
          have HX2 := hidden hX2
          have HR3 := hidden (And.intro hR3 (HR.out.2.1.trans hm2 (fun j hj => .inl hj)))
          clear hX2 hR2 hR3 hm2
          go_upto_region 10 with fail
          rw [← HX2.out]
          clear m0 m1 m2 m3 m4 m5 m6 m7 m8 m9 m10 m11 m12 m13 c2 hf
          obtain ⟨x', hx'⟩ : ∃ x', x' = tmF s k x := ⟨_, rfl⟩
          have hx3 : (up (k + 1) (tmF s) L)[k]? = some x' := by rw [up_at, HR.out.2.2.2, hx']; simp
          have hsz : sz x' = sz x := by rw [hx', HTM.out]; rfl
          obtain ⟨g3, o3, c3, a3, d3, e3, hc3, _, _⟩ := HR3.out.1.open hx3
          rw [up_len, HV.out, ← HZ.out] at e3
          cases e3
          obtain ⟨m0, m1, m2, m3, m4, m5, m6, m7, m8, m9, m10, m11, m12, m13⟩ := hc3.all14
          have SZ1 := r_size x' (u := .slice (some a3) x'.p.d.length d3) ⟨_, _, rfl⟩ X2
          rw [hsz] at SZ1
          have SZ := hidden SZ1
          clear hc3 hx3 hx' hsz SZ1
          go_wp2_with fail
          refine Calls.mono SZ.out ?_
          rintro e X3 ⟨rfl, hB⟩
          go_wp2
          go_roundw
          case rel => exact ⟨k + 1, by rw [HSM.out], by simp, by omega, ⟨P3, HR3.out.1.later hB, HR3.out.2.trans (Mod.of_below (F := fun _ => False) hB) (fun j hj => absurd hj id)⟩⟩
          case measure => simp only [intOf]; omega
        · have h2b : (x.pa == s) = false := by simp [h2]
          have HF : flF s x = 0 := by unfold flF; rw [if_neg (fun e => h2 e.2)]
          rw [HF] at hb2 HSM
          have HTM : Hid (tmF s k x = x) := by show _ = _; unfold tmF; rw [if_neg (fun e => h2 e.2)]
          clear HF h1 h2
          go_wp2
          go_roundw
          case rel => exact ⟨k + 1, by rw [HSM.out, Int.add_zero], by simp, by omega, ⟨P', by rw [up_same HR.out.2.2.2 HTM.out]; exact HR.out.1, HR.out.2.1⟩⟩
          case measure => simp only [intOf]; omega
      · have h1b : (x.st == 1) = false := by simp [h1]
        have HF : flF s x = 0 := by unfold flF; rw [if_neg (fun e => h1 e.1)]
        rw [HF] at hb2 HSM
        have HTM : Hid (tmF s k x = x) := by show _ = _; unfold tmF; rw [if_neg (fun e => h1 e.1)]
        clear HF h1
        go_wp2
        go_roundw
        case rel => exact ⟨k + 1, by rw [HSM.out, Int.add_zero], by simp, by omega, ⟨P', by rw [up_same HR.out.2.2.2 HTM.out]; exact HR.out.1, HR.out.2.1⟩⟩
        case measure => simp only [intOf]; omega
    · obtain rfl : k = z := by omega
      have hnl : ¬ ((k : Int) < (k : Int)) := by omega
      have HE : sm (flF s) (L.take k) = fl L s := by rw [HZ.out, List.take_length]; rfl
      rw [HE]
      have HR := hidden (And.intro hR hM)
      clear hR hM HE
      go_wp2
      go_ret2
      exact ⟨rfl, ⟨P', by rw [← HZ.out]; exact HR.out.1⟩, HR.out.2⟩
theorem r_timeout_path (h : Ro D w r v P n c L) (s : Int) (hs : ¬ (0 ≤ s ∧ s < (n : Int))) :
    Calls Try.prog 34 #[.pointer (some ⟨r, 0, none⟩), .int .i64 s] w fun e w' => e = .returned (.tuple #[.int .i64 0, .int .i64 90]) ∧ w = w' := by
  have HAS := hidden (r_has h s)
  have hdt : decide (0 ≤ s ∧ s < (n : Int)) = false := decide_eq_false hs
  rw [hdt] at HAS
  clear h hs hdt
  go_enter Try.func34, Try.ntmps34
  go_wp2_with fail
  refine Calls.mono HAS.out ?_
  rintro e w' ⟨rfl, rfl⟩
  go_wp2
  go_ret2
  exact ⟨rfl, rfl⟩
end
end Go.Proofs.Ytjceeckcfjjkkaa.Ob
