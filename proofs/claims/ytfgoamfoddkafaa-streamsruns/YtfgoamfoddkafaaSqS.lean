/-
  What the document's queue tells: how much waits, the first message of a stream, the next one, how many there are; what is freed.
  Conditions: the queue lies in memory.
-/
import Derived.Test.YtfgoamfoddkafaaSqR
import Derived.Deep.LoopGhost
namespace Go.Proofs.Ytfgoamfoddkafaa.Sq
open Go.ChangeShapes Go.WideShapes Go.ChangeAt Go.RowKit
open Ba (hidden Has Only cell_lt heap_lt)
set_option linter.unusedVariables false

theorem split_at {X : Type} {Q : List X} {k : Nat} {e : X} (h : Q[k]? = some e) : Q = Q.take k ++ e :: Q.drop (k + 1) ∧ (Q.take k).length = k := by
  have hk := (List.getElem?_eq_some_iff.1 h).1
  refine ⟨?_, by rw [List.length_take]; omega⟩
  have h2 := List.drop_eq_getElem_cons hk
  rw [(List.getElem?_eq_some_iff.1 h).2] at h2
  rw [← h2, List.take_append_drop]
theorem take_next {X : Type} {Q : List X} {k : Nat} {e : X} (h : Q[k]? = some e) : Q.take (k + 1) = Q.take k ++ [e] := by
  rw [List.take_add_one, h]
  rfl
/-- the place of the first message of a stream -/
def fi : List Ent → Int → Int
  | [], _ => -1
  | e :: Q, i => if e.st = i then 0 else if fi Q i < 0 then -1 else fi Q i + 1
theorem fi_no {i : Int} : ∀ {Q : List Ent}, (∀ e ∈ Q, ¬ e.st = i) → fi Q i = -1
  | [], _ => rfl
  | e :: Q, h => by
    unfold fi
    rw [if_neg (h e (List.mem_cons_self ..)), fi_no (fun y hy => h y (List.mem_cons_of_mem _ hy))]
    rfl
theorem fi_at {i : Int} {e : Ent} {B : List Ent} (he : e.st = i) : ∀ {A : List Ent}, (∀ y ∈ A, ¬ y.st = i) → fi (A ++ e :: B) i = (A.length : Int)
  | [], _ => by show fi (e :: B) i = _; unfold fi; rw [if_pos he]; rfl
  | a :: A, h => by
    rw [List.cons_append]
    unfold fi
    rw [if_neg (h a (List.mem_cons_self ..)), fi_at he (fun y hy => h y (List.mem_cons_of_mem _ hy)), if_neg (by omega), List.length_cons]
    rfl
theorem fi_cases (Q : List Ent) (i : Int) : (∀ e ∈ Q, ¬ e.st = i) ∨ ∃ A e B, Q = A ++ e :: B ∧ (∀ y ∈ A, ¬ y.st = i) ∧ e.st = i := by
  induction Q with
  | nil => exact .inl (by simp)
  | cons a Q ih =>
    by_cases ha : a.st = i
    · exact .inr ⟨[], a, Q, rfl, by simp, ha⟩
    · rcases ih with h | ⟨A, e, B, rfl, h1, h2⟩
      · exact .inl (fun e he => by
          rcases List.mem_cons.1 he with rfl | he
          · exact ha
          · exact h e he)
      · exact .inr ⟨a :: A, e, B, rfl, (fun y hy => by
          rcases List.mem_cons.1 hy with rfl | hy
          · exact ha
          · exact h1 y hy), h2⟩
section
variable {base : Nat} {w w' : World} {r bs : Nat} {vL : Value} {S : St} {Q : List Ent} {rl : Int}
theorem By.slice {D : Nat → Prop} {w : World} {v : Value} {zs : List Int} (h : By D w v zs) : ∃ g off cap, v = .slice (some ⟨g, off, none⟩) zs.length cap ∧ zs.length ≤ 65536 := by
  obtain ⟨g, off, cap, cur, e, _, _, _, _, _, hm, _⟩ := h
  exact ⟨g, off, cap, e, hm⟩
theorem sE_take (Q : List Ent) (k : Nat) : sE (Q.take k) ≤ sE Q := by
  conv => rhs; rw [← List.take_append_drop k Q, sE_app]
  omega
theorem rwaiting (h : Ro base w r bs vL S Q rl) : Calls Try.prog 26 #[.pointer (some ⟨r, 0, none⟩)] w fun e w' => e = .returned (.int .i64 S.wt) ∧ ∃ m, w' = w.drewN m := by
  have hlen := h.len
  have H := hidden h
  obtain ⟨va, vc, hv⟩ := h.slice
  obtain ⟨L, hL⟩ : ∃ L, L = Q.length := ⟨_, rfl⟩
  have HV : Hid (vL = .slice va L vc) := by rw [hL]; exact hv
  rw [← hL] at hlen
  have HL := hidden hL
  clear h hv hL
  go_enter Try.func26, Try.ntmps26
  go_wp2_with fail
  go_loopg [3, 4] L (fun g nv d wr => ∃ (k : Nat) (N : Int), d = .int .i64 (k : Int) ∧ g = L - k ∧ k ≤ L ∧ nv = .int .i64 N ∧ Hid (N = sE (Q.take k) ∧ ∃ m, wr = w.drewN m))
  case atStart => exact ⟨0, 0, rfl, rfl, Nat.zero_le _, rfl, ⟨rfl, 0, rfl⟩⟩
  case round =>
  obtain ⟨k, N, rfl, hgk, hk, rfl, HI⟩ := hrel
  have HG := hidden hgk
  have hr := H.out.same (v := wr) (by obtain ⟨m, hm⟩ := HI.out.2; rw [hm]; rfl)
  have c2 := hr.q.cell 2 rfl
  rw [HV.out] at c2
  clear hgk
  by_cases hkl : k = L
  · subst hkl
    clear hr
    go_wp2
    go_ret
    refine ⟨?_, HI.out.2⟩
    rw [HI.out.1, H.out.rel.w, HL.out, List.take_length]
    rfl
  · have hklt : k < L := by omega
    have hlt : (k : Int) < (L : Int) := by omega
    obtain ⟨e, he⟩ : ∃ e, Q[k]? = some e := ⟨_, List.getElem?_eq_getElem (by have := HL.out; omega)⟩
    obtain ⟨g, cap, cur, hvL, hh, _, hec⟩ := hr.at he
    obtain ⟨rfl, rfl⟩ : va = some ⟨g, 0, none⟩ ∧ vc = cap := by rw [HV.out] at hvL; cases hvL; exact ⟨rfl, rfl⟩
    have hok := hr.rel.k e (List.mem_of_getElem? he)
    obtain ⟨dg, doff, dc, hdv, hdl⟩ := (hr.by_ e (List.mem_of_getElem? he)).slice
    have c4 := hh.cell (k * 6 + 4) (hec 4 _ rfl)
    have c5 := hh.cell (k * 6 + 5) (hec 5 _ rfl)
    rw [hdv] at c4
    obtain ⟨dl, hdl0⟩ : ∃ dl, dl = e.d.length := ⟨_, rfl⟩
    obtain ⟨ea, hea⟩ : ∃ ea : Int, ea = (e.at_ : Int) := ⟨_, rfl⟩
    rw [← hdl0] at c4
    rw [← hea] at c5
    have hb : 0 ≤ N ∧ N ≤ 1073741824 := by
      have h1 := HI.out.1
      have h2 := sE_take Q k
      have h3 := hr.rel.w
      have := hr.gd.h
      have := hr.gd.t0
      have := hr.gd.l2
      omega
    have hea2 : 0 ≤ ea ∧ ea < (dl : Int) := by have := hok.a; omega
    have hdl2 : (dl : Int) ≤ 65536 := by omega
    have hw1 : IntKind.i64.wrap (N + (dl : Int)) = N + dl := by rw [IntKind.wrap_i64]; omega
    have hw2 : IntKind.i64.wrap (N + (dl : Int) - ea) = N + dl - ea := by rw [IntKind.wrap_i64]; omega
    have hw3 : IntKind.i64.wrap ((k : Int) + 1) = (k : Int) + 1 := by rw [IntKind.wrap_i64]; omega
    have HE := hidden (And.intro he (And.intro hdl0 hea))
    have HOK := hidden hok
    clear hr hh hec hok hdv hdl hdl0 hea he hvL hb hea2 hdl2 hkl
    go_wp2_with fail
    go_quiet (fail)
    go_wp2
    go_roundg (L - (k + 1))
    case measure => rw [HG.out]; omega
    case rel =>
      refine ⟨k + 1, _, by simp, rfl, by omega, rfl, ⟨?_, by obtain ⟨m, hm⟩ := HI.out.2; exact ⟨m + nq, by rw [hm, World.drewN_drewN]⟩⟩⟩
      obtain ⟨h1, h2, h3⟩ := HE.out
      rw [take_next h1, sE_app, sE_one, HI.out.1, h2, h3]
      have := HOK.out.a
      unfold lE
      omega
theorem rfirst (h : Ro base w r bs vL S Q rl) (i : Int) : Calls Try.prog 39 #[.pointer (some ⟨r, 0, none⟩), .int .i64 i] w fun e w' => e = .returned (.int .i64 (fi Q i)) ∧ w = w' := by
  have hlen := h.len
  have H := hidden h
  obtain ⟨va, vc, hv⟩ := h.slice
  obtain ⟨L, hL⟩ : ∃ L, L = Q.length := ⟨_, rfl⟩
  have HV : Hid (vL = .slice va L vc) := by rw [hL]; exact hv
  rw [← hL] at hlen
  have HL := hidden hL
  have c2 := h.q.cell 2 rfl
  rw [HV.out] at c2
  clear h hv hL
  go_enter Try.func39, Try.ntmps39
  go_wp2_with fail
  go_loopg [5] L (fun g d wr => ∃ (k : Nat), d = .int .i64 (k : Int) ∧ g = L - k ∧ k ≤ L ∧ Hid ((∀ y ∈ Q.take k, ¬ y.st = i) ∧ w = wr))
  case atStart => exact ⟨0, rfl, rfl, Nat.zero_le _, ⟨by simp, rfl⟩⟩
  case round =>
  obtain ⟨k, rfl, hgk, hk, HI⟩ := hrel
  have hww := HI.out.2
  subst hww
  have HG := hidden hgk
  clear hgk
  by_cases hkl : k = L
  · subst hkl
    go_wp2
    go_ret
    exact ⟨by rw [fi_no (fun e he => HI.out.1 e (by rw [HL.out, List.take_length]; exact he))]; rfl, rfl⟩
  · have hklt : k < L := by omega
    have hlt : (k : Int) < (L : Int) := by omega
    obtain ⟨e, he⟩ : ∃ e, Q[k]? = some e := ⟨_, List.getElem?_eq_getElem (by have := HL.out; omega)⟩
    obtain ⟨g, cap, cur, hvL, hh, _, hec⟩ := H.out.at he
    obtain ⟨rfl, rfl⟩ : va = some ⟨g, 0, none⟩ ∧ vc = cap := by rw [HV.out] at hvL; cases hvL; exact ⟨rfl, rfl⟩
    have hok := H.out.rel.k e (List.mem_of_getElem? he)
    have c0 : w.cell? ⟨g, k * 6, none⟩ = some (.int .u16 e.st) := hh.cell (k * 6) (hec 0 _ rfl)
    obtain ⟨es, hes⟩ : ∃ es, es = e.st := ⟨_, rfl⟩
    have hwe : IntKind.i64.wrap es = es := by rw [IntKind.wrap_i64, hes]; have := hok.s0; have := hok.s1; have := H.out.gd.n2; omega
    have hw3 : IntKind.i64.wrap ((k : Int) + 1) = (k : Int) + 1 := by rw [IntKind.wrap_i64]; omega
    rw [← hes] at c0
    have HE := hidden (And.intro he hes)
    clear hh hec hok hes he hvL hkl
    by_cases hei : es = i
    · subst hei
      go_wp2
      go_ret
      obtain ⟨h1, h2⟩ := HE.out
      obtain ⟨q1, q2⟩ := split_at h1
      refine ⟨?_, rfl⟩
      have := fi_at (B := Q.drop (k + 1)) h2.symm HI.out.1
      rw [← q1, q2] at this
      rw [this]
      rfl
    · go_wp2
      go_roundg (L - (k + 1))
      case measure => rw [HG.out]; omega
      case rel =>
        obtain ⟨h1, h2⟩ := HE.out
        refine ⟨k + 1, by simp, rfl, by omega, ⟨fun y hy => ?_, rfl⟩⟩
        rw [take_next h1] at hy
        rcases List.mem_append.1 hy with h | h
        · exact HI.out.1 y h
        · rw [List.mem_singleton] at h; subst h; rw [← h2]; exact hei
theorem rcount (h : Ro base w r bs vL S Q rl) (s : Int) (hs : 0 ≤ s ∧ s < 65536) : Calls Try.prog 27 #[.pointer (some ⟨r, 0, none⟩), .int .u16 s] w fun e w' => e = .returned (.int .i64 (cntS S s)) ∧ w = w' := by
  have hlen := h.len
  have H := hidden h
  obtain ⟨va, vc, hv⟩ := h.slice
  obtain ⟨L, hL⟩ : ∃ L, L = Q.length := ⟨_, rfl⟩
  have HV : Hid (vL = .slice va L vc) := by rw [hL]; exact hv
  rw [← hL] at hlen
  have HL := hidden hL
  have c2 := h.q.cell 2 rfl
  rw [HV.out] at c2
  have hcnt : Hid (cntS S s = ((Q.filter (isE s.toNat)).length : Int)) := by
    unfold cntS
    by_cases hl : s < (S.n : Int)
    · rw [if_pos hl, h.rel.count (by omega)]; exact rfl
    · rw [if_neg hl, h.rel.none (by omega)]; rfl
  have HS := hidden hs
  clear h hv hL hs
  go_enter Try.func27, Try.ntmps27
  go_wp2_with fail
  go_loopg [5, 6] L (fun g nv d wr => ∃ (k : Nat) (N : Int), d = .int .i64 (k : Int) ∧ g = L - k ∧ k ≤ L ∧ nv = .int .i64 N ∧ Hid (N = (((Q.take k).filter (isE s.toNat)).length : Int) ∧ w = wr))
  case atStart => exact ⟨0, 0, rfl, rfl, Nat.zero_le _, rfl, ⟨rfl, rfl⟩⟩
  case round =>
  obtain ⟨k, N, rfl, hgk, hk, rfl, HI⟩ := hrel
  have hww := HI.out.2
  subst hww
  have HG := hidden hgk
  clear hgk
  by_cases hkl : k = L
  · subst hkl
    go_wp2
    go_ret
    refine ⟨?_, rfl⟩
    rw [HI.out.1, hcnt.out, HL.out, List.take_length]
    rfl
  · have hklt : k < L := by omega
    have hlt : (k : Int) < (L : Int) := by omega
    obtain ⟨e, he⟩ : ∃ e, Q[k]? = some e := ⟨_, List.getElem?_eq_getElem (by have := HL.out; omega)⟩
    obtain ⟨g, cap, cur, hvL, hh, _, hec⟩ := H.out.at he
    obtain ⟨rfl, rfl⟩ : va = some ⟨g, 0, none⟩ ∧ vc = cap := by rw [HV.out] at hvL; cases hvL; exact ⟨rfl, rfl⟩
    have c0 : w.cell? ⟨g, k * 6, none⟩ = some (.int .u16 e.st) := hh.cell (k * 6) (hec 0 _ rfl)
    obtain ⟨es, hes⟩ : ∃ es, es = e.st := ⟨_, rfl⟩
    have hw3 : IntKind.i64.wrap ((k : Int) + 1) = (k : Int) + 1 := by rw [IntKind.wrap_i64]; omega
    have hb : 0 ≤ N ∧ N ≤ (k : Int) := by
      have h1 := HI.out.1
      have h2 := List.length_filter_le (isE s.toNat) (Q.take k)
      rw [List.length_take] at h2
      omega
    have hw4 : IntKind.i64.wrap (N + 1) = N + 1 := by rw [IntKind.wrap_i64]; omega
    rw [← hes] at c0
    have HE := hidden (And.intro he hes)
    clear hh hec hes he hvL hkl hb
    by_cases hei : es = s
    · subst hei
      go_wp2
      go_roundg (L - (k + 1))
      case measure => rw [HG.out]; omega
      case rel =>
        obtain ⟨h1, h2⟩ := HE.out
        refine ⟨k + 1, _, by simp, rfl, by omega, rfl, ⟨?_, rfl⟩⟩
        rw [take_next h1, List.filter_append, List.length_append, List.filter_cons_of_pos (isE_self (by have := HS.out; omega)), HI.out.1]
        simp
    · go_wp2
      go_roundg (L - (k + 1))
      case measure => rw [HG.out]; omega
      case rel =>
        obtain ⟨h1, h2⟩ := HE.out
        refine ⟨k + 1, _, by simp, rfl, by omega, rfl, ⟨?_, rfl⟩⟩
        rw [take_next h1, List.filter_append, List.length_append, List.filter_cons_of_neg (by rw [isE_no (by have := HS.out; omega)]; decide), HI.out.1]
        simp
end
end Go.Proofs.Ytfgoamfoddkafaa.Sq
