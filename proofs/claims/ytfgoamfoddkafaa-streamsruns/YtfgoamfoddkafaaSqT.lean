/-
  Which message the document's queue begins next; what it tells of it; what it frees.
  Conditions: the queue lies in memory.
-/
import Derived.Test.YtfgoamfoddkafaaSqS
namespace Go.Proofs.Ytfgoamfoddkafaa.Sq
open Go.ChangeShapes Go.WideShapes Go.ChangeAt Go.RowKit
open Ba (hidden Has Only cell_lt heap_lt)
set_option linter.unusedVariables false
section
variable {base : Nat} {w w' : World} {r bs : Nat} {vL : Value} {S : St} {Q : List Ent} {rl : Int}
/-- which message is next -/
def PlO (S : St) (Q : List Ent) (w : World) (e : Ending) (w' : World) : Prop := ∃ p, e = .returned (.int .i64 p) ∧ NextO S Q p ∧ Below w.heap.size w w'
theorem rplace (h : Ro base w r bs vL S Q rl) : Calls Try.prog 34 #[.pointer (some ⟨r, 0, none⟩)] w fun e w' => PlO S Q w e w' := by
  have hlen := h.len
  have H := hidden h
  obtain ⟨va, vc, hv⟩ := h.slice
  obtain ⟨L, hL⟩ : ∃ L, L = Q.length := ⟨_, rfl⟩
  have HV : Hid (vL = .slice va L vc) := by rw [hL]; exact hv
  rw [← hL] at hlen
  have HL := hidden hL
  have c2 := h.q.cell 2 rfl
  rw [HV.out] at c2
  clear h hv hL
  go_enter Try.func34, Try.ntmps34
  go_wp2_with fail
  go_loopg [3] L (fun g d wr => ∃ (k : Nat), d = .int .i64 (k : Int) ∧ g = L - k ∧ k ≤ L ∧ Hid ((∀ y ∈ Q.take k, y.at_ = 0) ∧ w = wr))
  case atStart => exact ⟨0, rfl, rfl, Nat.zero_le _, ⟨by simp, rfl⟩⟩
  case round =>
  obtain ⟨k, rfl, hgk, hk, HI⟩ := hrel
  have hww := HI.out.2
  subst hww
  have HG := hidden hgk
  clear hgk
  by_cases hkl : k = L
  · subst hkl
    have hcalm : Hid (S.bgn = false) := H.out.rel.calm H.out.gd (fun e he => HI.out.1 e (by rw [HL.out, List.take_length]; exact he))
    obtain ⟨n, hn⟩ : ∃ n, n = S.n := ⟨_, rfl⟩
    have hn1 : 1 ≤ n ∧ n ≤ 1024 := by rw [hn]; exact ⟨H.out.gd.n1, H.out.gd.n2⟩
    have HN := hidden hn
    clear hn
    go_wp2_with fail
    go_loopg [4] n (fun g d wr => ∃ (j : Nat), d = .int .i64 ((j : Int) + 1) ∧ g = n - j ∧ j ≤ n ∧ Hid ((∀ i, i < j → S.R (od S i) = []) ∧ Below w.heap.size w wr))
    case atStart => exact ⟨0, rfl, rfl, Nat.zero_le _, ⟨fun i hi => by omega, Below.refl _ _⟩⟩
    case round =>
    obtain ⟨j, rfl, hgj, hj, HK⟩ := hrel
    have HGJ := hidden hgj
    have hr := H.out.later HK.out.2
    have d0 := hr.q.cell 0 rfl
    have d4 := hr.q.cell 4 rfl
    rw [← HN.out] at d0
    clear hgj
    by_cases hjn : j = n
    · subst hjn
      have hno : ¬ ((j : Int) + 1 ≤ (j : Int)) := by omega
      clear hr
      go_wp2
      go_ret
      exact ⟨-1, rfl, .inl ⟨nxt_end (fun i hi => HK.out.1 i (by have := HN.out; omega)), rfl⟩, HK.out.2⟩
    · have hjlt : j < n := by omega
      have hle : (j : Int) + 1 ≤ (n : Int) := by omega
      obtain ⟨t1, t2, t3⟩ := hr.rel.turn hr.gd hcalm.out (k := j) (by have := HN.out; omega)
      rw [← HN.out] at t1
      obtain ⟨o, ho⟩ : ∃ o, o = od S j := ⟨_, rfl⟩
      rw [← ho] at t1
      have hnz : ¬ ((n : Int) = 0) := by omega
      have hw1 : IntKind.i64.wrap (rl + ((j : Int) + 1)) = rl + ((j : Int) + 1) := by rw [IntKind.wrap_i64]; omega
      have hw2 : IntKind.i64.wrap ((j : Int) + 1 + 1) = (j : Int) + 1 + 1 := by rw [IntKind.wrap_i64]; omega
      have HO := hidden ho
      have hol : o < n := by rw [ho, HN.out]; exact od_lt H.out.gd.n1 j
      obtain ⟨p, hp⟩ : ∃ p, p = fi Q (o : Int) := ⟨_, rfl⟩
      have CH : Hid (∀ v : World, v.heap = wr.heap → Calls Try.prog 39 #[.pointer (some ⟨r, 0, none⟩), .int .i64 (o : Int)] v fun e w' => e = .returned (.int .i64 p) ∧ w' = v) := fun v hv => (rfirst (hr.same hv) (o : Int)).mono (by
        rintro e w' ⟨rfl, rfl⟩
        exact ⟨by rw [hp], rfl⟩)
      clear t2 t3 ho
      rcases fi_cases Q (o : Int) with hno | ⟨A, e, B, hQ, hA, he⟩
      · have hp1 : p = -1 := by rw [hp, fi_no hno]
        have HNO := hidden hno
        clear hp hr hno hjn
        subst hp1
        go_wp2_with fail
        go_quiet (first | (go_at_call 39; exact Calls.quiet_of_same (CH.out _ rfl)))
        go_wp2
        go_roundg (n - (j + 1))
        case measure => rw [HGJ.out]; omega
        case rel =>
          refine ⟨j + 1, by simp, rfl, by omega, ⟨fun i hi => ?_, HK.out.2.trans ⟨rfl, rfl, rfl, Nat.le_refl _, fun _ _ => rfl⟩⟩⟩
          rcases Nat.lt_or_ge i j with h1 | h1
          · exact HK.out.1 i h1
          · obtain rfl : i = j := by omega
            rw [← HO.out]
            exact H.out.rel.empty (by have := HN.out; omega) HNO.out
      · have hp1 : p = (A.length : Int) := by rw [hp, hQ, fi_at he hA]
        obtain ⟨al, hal⟩ : ∃ al, al = A.length := ⟨_, rfl⟩
        rw [← hal] at hp1
        have hge : (0 : Int) ≤ (al : Int) := by omega
        have HQ := hidden (And.intro hQ (And.intro hA (And.intro he hal)))
        clear hp hr hQ hA he hal hjn
        subst hp1
        go_wp2_with fail
        go_quiet (first | (go_at_call 39; exact Calls.quiet_of_same (CH.out _ rfl)))
        go_wp2
        go_ret
        obtain ⟨q1, q2, q3, q4⟩ := HQ.out
        have hne : S.R (od S j) ≠ [] := by
          have hR := (q1 ▸ H.out.rel).at (i := o) (by have := HN.out; omega) (fun y hy => isE_no (q2 y hy)) (isE_self q3)
          rw [← HO.out, hR]
          simp
        have hx := nxt_at (S := S) (k := j) (by have := HN.out; omega) HK.out.1 hne
        exact ⟨(al : Int), rfl, .inr ⟨o, A, e, B, by rw [hx, HO.out], q1, fun y hy => isE_no (q2 y hy), isE_self q3, by rw [q4]⟩, HK.out.2.trans ⟨rfl, rfl, rfl, Nat.le_refl _, fun _ _ => rfl⟩⟩
  · have hklt : k < L := by omega
    have hlt : (k : Int) < (L : Int) := by omega
    obtain ⟨e, he⟩ : ∃ e, Q[k]? = some e := ⟨_, List.getElem?_eq_getElem (by have := HL.out; omega)⟩
    obtain ⟨g, cap, cur, hvL, hh, _, hec⟩ := H.out.at he
    obtain ⟨rfl, rfl⟩ : va = some ⟨g, 0, none⟩ ∧ vc = cap := by rw [HV.out] at hvL; cases hvL; exact ⟨rfl, rfl⟩
    have c5 := hh.cell (k * 6 + 5) (hec 5 _ rfl)
    obtain ⟨ea, hea⟩ : ∃ ea : Int, ea = (e.at_ : Int) := ⟨_, rfl⟩
    rw [← hea] at c5
    have hw3 : IntKind.i64.wrap ((k : Int) + 1) = (k : Int) + 1 := by rw [IntKind.wrap_i64]; omega
    have HE := hidden (And.intro he hea)
    clear hh hec hea he hvL hkl
    by_cases hei : 0 < ea
    · go_wp2
      go_ret
      obtain ⟨h1, h2⟩ := HE.out
      obtain ⟨q1, q2⟩ := split_at h1
      have hb := (q1 ▸ H.out.rel).begun H.out.gd (by omega)
      rw [← q1, q2] at hb
      exact ⟨(k : Int), rfl, hb, Below.refl _ _⟩
    · go_wp2
      go_roundg (L - (k + 1))
      case measure => rw [HG.out]; omega
      case rel =>
        obtain ⟨h1, h2⟩ := HE.out
        refine ⟨k + 1, by simp, rfl, by omega, ⟨fun y hy => ?_, rfl⟩⟩
        rw [take_next h1] at hy
        rcases List.mem_append.1 hy with h | h
        · exact HI.out.1 y h
        · rw [List.mem_singleton] at h; subst h; omega
theorem rNext (h : Ro base w r bs vL S Q rl) : Calls Try.prog 25 #[.pointer (some ⟨r, 0, none⟩)] w fun e w' => e = .returned (nextV S) ∧ Below w.heap.size w w' := by
  have PL := hidden (rplace h)
  have H := hidden h
  have hlen := h.len
  clear h
  go_enter Try.func25, Try.ntmps25
  go_wp2_with fail
  refine Calls.mono PL.out ?_
  rintro e w1 ⟨p, rfl, hp, hB⟩
  have HB := hidden hB
  rcases hp with ⟨hx, rfl⟩ | ⟨i, A, e, B, hx, hQ, hA, he, rfl⟩
  · have HX := hidden hx
    clear hB hx
    go_wp2
    refine bodyPost_ret (results_tmp3 rfl _ _ _) rfl ⟨?_, HB.out⟩
    unfold nextV
    rw [HX.out]
    rfl
  · have hr := H.out.later hB
    have hat : Q[A.length]? = some e := by rw [hQ, List.getElem?_append_right (Nat.le_refl _)]; simp
    obtain ⟨al, hal⟩ : ∃ al, al = A.length := ⟨_, rfl⟩
    rw [← hal] at hat ⊢
    obtain ⟨g, cap, cur, hvL, hh, _, hec⟩ := hr.at hat
    obtain ⟨dg, doff, dc, hdv, hdl⟩ := (hr.by_ e (List.mem_of_getElem? hat)).slice
    have hok := hr.rel.k e (List.mem_of_getElem? hat)
    have c2 := hr.q.cell 2 rfl
    rw [hvL] at c2
    obtain ⟨L, hL⟩ : ∃ L, L = Q.length := ⟨_, rfl⟩
    rw [← hL] at c2
    have hall : al < L := by rw [hL]; exact (List.getElem?_eq_some_iff.1 hat).1
    have hlt : (al : Int) < (L : Int) := by omega
    have hge : ¬ ((al : Int) < 0) := by omega
    have c0 : w1.cell? ⟨g, al * 6, none⟩ = some (.int .u16 e.st) := hh.cell (al * 6) (hec 0 _ rfl)
    have c4 := hh.cell (al * 6 + 4) (hec 4 _ rfl)
    have c5 := hh.cell (al * 6 + 5) (hec 5 _ rfl)
    rw [hdv] at c4
    obtain ⟨dl, hdl0⟩ : ∃ dl, dl = e.d.length := ⟨_, rfl⟩
    obtain ⟨ea, hea⟩ : ∃ ea : Int, ea = (e.at_ : Int) := ⟨_, rfl⟩
    obtain ⟨es, hes⟩ : ∃ es, es = e.st := ⟨_, rfl⟩
    rw [← hdl0] at c4
    rw [← hea] at c5
    rw [← hes] at c0
    have hw1 : IntKind.i64.wrap ((dl : Int) - ea) = dl - ea := by rw [IntKind.wrap_i64]; have := hok.a; omega
    obtain ⟨hin, _⟩ := nxt_some H.out.gd.n1 hx
    have hR := (hQ ▸ H.out.rel).at hin hA he
    have hv : Hid (nextV S = .tuple #[.int .u16 es, .int .i64 (dl - ea), .bool true]) := by
      show nextV S = _
      unfold nextV
      rw [hx]
      simp only [hR]
      rw [hes, hdl0, hea, isE_st he]
      have h1 : (rst e).d.length = e.d.length - e.at_ := List.length_drop
      have h2 := hok.a
      have h3 : (rst e).st = (i : Int) := isE_st he
      rw [h1, h3, show (((e.d.length - e.at_ : Nat) : Int)) = (e.d.length : Int) - (e.at_ : Int) by omega]
    clear hr hh hec hdv hdl hok hat hvL hL hx hQ hA he hdl0 hea hes hR hin hB hal
    go_wp2_with fail
    go_quiet (fail)
    go_wp2
    refine bodyPost_ret (results_tmp3 rfl _ _ _) rfl ⟨?_, HB.out.trans ⟨rfl, rfl, rfl, Nat.le_refl _, fun _ _ => rfl⟩⟩
    rw [hv.out]
    rfl
theorem rfree (h : Ro base w r bs vL S Q rl) (n : Int) : Calls Try.prog 24 #[.pointer (some ⟨r, 0, none⟩), .int .i64 n] w fun e w' => e = .returned (.int .i64 (freeE S n)) ∧ Ro base w' r bs vL (if freeE S n = 0 then freeS S n else S) Q rl ∧ Mod (Gr base w) w w' := by
  have c5 := h.q.cell 5 rfl
  have f5 := h.q.frozen 5
  have H := hidden h
  have b1 := h.gd.h
  have b2 := h.gd.w1
  have b4 := h.gd.l2
  unfold freeE
  by_cases h1 : n < 0
  · rw [if_pos (.inl h1), if_neg (by decide)]
    clear h b1 b2 b4
    go_enter Try.func24, Try.ntmps24
    go_wp2
    go_ret
    exact ⟨rfl, H.out, Mod.refl _ _⟩
  · by_cases h2 : S.tk < n
    · rw [if_pos (.inr h2), if_neg (by decide)]
      clear h b1 b2 b4
      go_enter Try.func24, Try.ntmps24
      go_wp2
      go_ret
      exact ⟨rfl, H.out, Mod.refl _ _⟩
    · have hno : ¬ (n < 0 ∨ S.tk < n) := by omega
      rw [if_neg hno, if_pos rfl]
      have hw : IntKind.i64.wrap (S.tk - n) = S.tk - n := by rw [IntKind.wrap_i64]; omega
      have HG := hidden (h.gd.free (n := n) (by omega) (by omega))
      clear h hno b1 b2 b4
      go_enter Try.func24, Try.ntmps24
      go_wp2
      go_ret
      have hm := gr_set H.out.q H.out.rb (.inl rfl) 5 (.int .i64 (S.tk - n))
      refine ⟨rfl, ?_, hm⟩
      have hs : Ro base (w.setCell ⟨r, 5, none⟩ (.int .i64 (S.tk - n))) r bs vL S Q rl → True := fun _ => trivial
      obtain ⟨cs, hc, hl⟩ := H.out.hs
      have hm1 : Mod (fun k => k = r) w (w.setCell ⟨r, 5, none⟩ (.int .i64 (S.tk - n))) := Mod.setCell (F := fun k => k = r) w (p := ⟨r, 5, none⟩) rfl _
      have hne : ∀ {k : Nat} {cs : Array Value} {ty : TypeId}, Has w k cs ty → ty ≠ 65 → ¬ k = r := fun hh ht e => by subst e; exact ht (has_type hh H.out.q)
      refine ⟨H.out.q.set 5 _, ⟨cs, hm1.has hc (hne hc (by decide)), hl⟩, ?_, fun e he => (H.out.by_ e he).stay hm1 (fun k cur _ hh => hne hh (by decide)), H.out.rb, H.out.sb, H.out.rel.free n, HG.out⟩
      refine ⟨H.out.om.1, ?_⟩
      rcases H.out.om.2 with h0 | ⟨g, cap, cur, rfl, hb, hg, rr⟩
      · exact .inl h0
      · exact .inr ⟨g, cap, cur, rfl, hb, hm1.has (b := g) hg (hne hg (by decide)), rr⟩
end
end Go.Proofs.Ytfgoamfoddkafaa.Sq
