/-
  A table of timers: what each call answers and what it leaves, but for All.
  Conditions: the table was made by the package.
-/
import Derived.Test.YtinhhfnknlmdgaaTmG
namespace Go.Proofs.Ytinhhfnknlmdgaa.Tm
open Go.ChangeShapes Go.WideShapes Go.ChangeAt Go.RowKit Go.Sort
open Ba (hidden Only In Has own_ne own_stay own_len own_some own_mono cell_lt heap_lt)
set_option linter.unusedVariables false

/-- a table in block t whose timers are S, in order; its blocks -/
def Tb (w : World) (t : Nat) (S : List D) (last : Int) (F : List Nat) : Prop :=
  ∃ (b m : Nat) (v : Value) (X : List D) (f : Int → Option Int), F = t :: hfoot v b m ∧ Has w t #[.pointer (some ⟨b, 0, none⟩), .int .i64 last] 50 ∧ Hp w b v m X f X.length ∧ Posn f X ∧ Heap X ∧ (∀ d ∈ X, Ok d) ∧ Abs X S ∧ okTime last = true
theorem Tb.lt {w : World} {t : Nat} {S : List D} {last : Int} {F : List Nat} (h : Tb w t S last F) : ∀ k ∈ F, k < w.heap.size := by
  obtain ⟨b, m, v, X, f, rfl, h1, h2, _⟩ := h
  intro k hk
  rcases List.mem_cons.1 hk with rfl | hk
  · exact h1.lt
  · exact h2.lt k hk
theorem Tb.stay {w w' : World} {t : Nat} {S : List D} {last : Int} {F G : List Nat} (h : Tb w t S last F) (ho : Only G w w') (hn : ∀ k ∈ F, k ∉ G) : Tb w' t S last F := by
  obtain ⟨b, m, v, X, f, rfl, h1, h2, r⟩ := h
  exact ⟨b, m, v, X, f, rfl, h1.stay ho (hn t (by simp)), h2.stay ho (fun k hk => hn k (List.mem_cons_of_mem _ hk)), r⟩
theorem Tb.later {w w' : World} {t : Nat} {S : List D} {last : Int} {F : List Nat} (h : Tb w t S last F) (hB : Below w.heap.size w w') : Tb w' t S last F := h.stay (G := []) (Only.of_below hB) (by simp)
theorem Tb.ok {w : World} {t : Nat} {S : List D} {last : Int} {F : List Nat} (h : Tb w t S last F) : Sd S ∧ (∀ d ∈ S, Ok d) ∧ (S.map (·.1)).Nodup ∧ S.length ≤ 4096 := by
  obtain ⟨b, m, v, X, f, rfl, h1, h2, h3, h4, h5, h6, _⟩ := h
  have hk : ∀ d ∈ S, Ok d := fun d hd => h5 d (h6.1.mem_iff.1 hd)
  have hnd : (S.map (·.1)).Nodup := (h6.1.map _).nodup_iff.2 h3.nodup
  exact ⟨h6.2, hk, hnd, few hnd hk⟩
theorem Has.apart {w : World} {t b m n : Nat} {v : Value} {X : List D} {f : Int → Option Int} {cs : Array Value} (h : Has w t cs 50) (hp : Hp w b v m X f n) : t ∉ hfoot v b m := by
  intro hh
  simp only [hfoot, List.mem_cons] at hh
  rcases hh with e | e | hh
  · exact h.ne hp.1 (by decide) e
  · exact hp.2.2.ne h e.symm
  · exact own_ne hp.2.1 h (by decide) t (by simpa using hh) rfl

/-- what New leaves -/
def NewO (w : World) (e : Ending) (w' : World) : Prop := ∃ (t : Nat) (F : List Nat), e = .returned (.pointer (some ⟨t, 0, none⟩)) ∧ Tb w' t [] 0 F ∧ (∀ k ∈ F, w.heap.size ≤ k) ∧ Below w.heap.size w w'
theorem new (w : World) : Calls Try.prog 7 #[] w fun e w' => NewO w e w' := by
  have C := hidden (newHeap w)
  unfold fkey ford at C
  go_enter Try.func7, Try.ntmps7
  go_wp2_with fail
  refine Calls.mono C.out ?_
  rintro e w1 ⟨rfl, hH, hB, hs⟩
  have HH := hidden hH
  have HB := hidden hB
  have HS := hidden hs
  clear hH hB hs C
  go_wp2
  go_ret
  have hN := Has.new w1 #[.pointer (some ⟨w.heap.size + 1, 0, none⟩), .int .i64 0] 50
  refine ⟨w1.heap.size, _, rfl, ⟨w.heap.size + 1, w.heap.size, .slice none 0 0, [], fun _ => none, rfl, hN, ?_, ?_, ?_, by simp, ⟨List.Perm.refl _, List.Pairwise.nil⟩, by decide⟩, ?_, ?_⟩
  · exact HH.out.later ((Below.refl _ w1).alloc (Nat.le_refl _) _)
  · exact ⟨fun i hi => by simp at hi, fun k v hv => by cases hv⟩
  · exact fun i _ hi => by simp at hi
  · intro k hk
    have := HS.out
    simp [hfoot, Value.ownBlock] at hk
    rcases hk with rfl | rfl | rfl <;> omega
  · exact HB.out.alloc (by have := HB.out.size; omega) _

/-- a table's answer: what it holds then, which blocks turned -/
def TbO (w w' : World) (t : Nat) (S : List D) (last : Int) (F : List Nat) : Prop := ∃ F', Tb w' t S last F' ∧ Only F w w' ∧ In F F' w
/-- Set -/
def setE (id due : Int) : Int := if okId id then (if okTime due then 0 else 80) else 1
def setS (id due : Int) (S : List D) : List D := if okId id && okTime due then ins (id, due) (rm id S) else S
theorem Tb.open {w : World} {t : Nat} {S : List D} {last : Int} {F : List Nat} (h : Tb w t S last F) : ∃ b, w.cell? ⟨t, 0, none⟩ = some (.pointer (some ⟨b, 0, none⟩)) ∧ w.cell? ⟨t, 1, none⟩ = some (.int .i64 last) ∧ w.frozen? ⟨t, 1, none⟩ = false := by
  obtain ⟨b, m, v, X, f, rfl, h1, _⟩ := h
  exact ⟨b, h1.cell 0 rfl, h1.cell 1 rfl, h1.frozen 1⟩
theorem tset {w : World} {t : Nat} {S : List D} {last : Int} {F : List Nat} (h : Tb w t S last F) (id due : Int) : Calls Try.prog 10 #[.pointer (some ⟨t, 0, none⟩), .int .i64 id, .int .i64 due] w fun e w' => e = .returned (.int .i64 (setE id due)) ∧ TbO w w' t (setS id due S) last F := by
  obtain ⟨b, m, v, X, f, rfl, h1, h2, h3, h4, h5, h6, h7⟩ := h
  have c0 := h1.cell 0 rfl
  have U := hidden (unmade c0)
  have N := hidden (isNumber id w)
  have T := hidden (isTime due w)
  have same : Hid (TbO w w t S last (t :: hfoot v b m)) := ⟨_, ⟨b, m, v, X, f, rfl, h1, h2, h3, h4, h5, h6, h7⟩, Only.refl _ _, In.refl _ _⟩
  cases hid : okId id with
  | false =>
    rw [show setE id due = 1 by unfold setE; rw [hid]; rfl, show setS id due S = S by unfold setS; rw [hid]; rfl]
    rw [hid] at N
    clear h1 h2 h3 h4 h5 h6 h7 hid c0
    go_enter Try.func10, Try.ntmps10
    go_wp2_with fail
    refine Calls.mono U.out ?_
    rintro e w' ⟨rfl, rfl⟩
    go_wp2_with fail
    refine Calls.mono N.out ?_
    rintro e w' ⟨rfl, rfl⟩
    go_wp2
    go_ret
    exact ⟨rfl, same.out⟩
  | true =>
    rw [hid] at N
    cases htm : okTime due with
    | false =>
      rw [show setE id due = 80 by unfold setE; rw [hid, htm]; rfl, show setS id due S = S by unfold setS; rw [hid, htm]; rfl]
      rw [htm] at T
      clear h1 h2 h3 h4 h5 h6 h7 hid htm c0
      go_enter Try.func10, Try.ntmps10
      go_wp2_with fail
      refine Calls.mono U.out ?_
      rintro e w' ⟨rfl, rfl⟩
      go_wp2_with fail
      refine Calls.mono N.out ?_
      rintro e w' ⟨rfl, rfl⟩
      go_wp2_with fail
      refine Calls.mono T.out ?_
      rintro e w' ⟨rfl, rfl⟩
      go_wp2
      go_ret
      exact ⟨rfl, same.out⟩
    | true =>
      rw [show setE id due = 0 by unfold setE; rw [hid, htm]; rfl, show setS id due S = ins (id, due) (rm id S) by unfold setS; rw [hid, htm]; rfl]
      rw [htm] at T
      have hok : Ok (id, due) := ⟨of_decide_eq_true hid, of_decide_eq_true htm⟩
      have PU := hidden (put h2 rfl h3 h4 h5 (id, due) hok)
      unfold dv at PU
      have FIN : Hid (∀ w', PutO w b v m X (id, due) (.returned (.tuple #[])) w' → TbO w w' t (ins (id, due) (rm id S)) last (t :: hfoot v b m)) := by
        rintro w' ⟨v', Y, f', _, g1, g2, g3, g4, g5, g6⟩
        refine ⟨_, ⟨b, m, v', Y, f', rfl, h1.stay g5 (Has.apart h1 h2), g1, g2, g3, ?_, abs_put h6 h5 hok g4, h7⟩, g5.mono (fun k hk => List.mem_cons_of_mem _ hk), ?_⟩
        · intro x hx
          rcases List.mem_cons.1 (g4.mem_iff.1 hx) with rfl | hx
          · exact hok
          · exact h5 x (mem_rm.1 hx).1
        · intro k hk
          rcases List.mem_cons.1 hk with rfl | hk
          · exact .inl (by simp)
          · exact (g6 k hk).imp (List.mem_cons_of_mem _) (fun h => h)
      clear h1 h2 h3 h4 h5 h6 h7 hid htm same hok
      go_enter Try.func10, Try.ntmps10
      go_wp2_with fail
      refine Calls.mono U.out ?_
      rintro e w' ⟨rfl, rfl⟩
      go_wp2_with fail
      refine Calls.mono N.out ?_
      rintro e w' ⟨rfl, rfl⟩
      go_wp2_with fail
      refine Calls.mono T.out ?_
      rintro e w' ⟨rfl, rfl⟩
      go_wp2_with fail
      refine Calls.mono PU.out ?_
      rintro e w' hP
      have hP2 := hP
      obtain ⟨_, _, _, rfl, _⟩ := hP2
      have HP := hidden hP
      clear hP
      go_wp2
      go_ret
      exact ⟨rfl, FIN.out _ HP.out⟩
/-- Stop -/
def stopE (id : Int) : Int := if okId id then 0 else 1
def stopB (id : Int) (S : List D) : Bool := okId id && (look id S).isSome
def stopS (id : Int) (S : List D) : List D := if okId id then rm id S else S
theorem tstop {w : World} {t : Nat} {S : List D} {last : Int} {F : List Nat} (h : Tb w t S last F) (id : Int) (hi : I64 id) : Calls Try.prog 12 #[.pointer (some ⟨t, 0, none⟩), .int .i64 id] w fun e w' => e = .returned (.tuple #[.bool (stopB id S), .int .i64 (stopE id)]) ∧ TbO w w' t (stopS id S) last F := by
  obtain ⟨b, m, v, X, f, rfl, h1, h2, h3, h4, h5, h6, h7⟩ := h
  have c0 := h1.cell 0 rfl
  have U := hidden (unmade c0)
  have N := hidden (isNumber id w)
  have same : Hid (TbO w w t S last (t :: hfoot v b m)) := ⟨_, ⟨b, m, v, X, f, rfl, h1, h2, h3, h4, h5, h6, h7⟩, Only.refl _ _, In.refl _ _⟩
  cases hid : okId id with
  | false =>
    rw [show stopE id = 1 by unfold stopE; rw [hid]; rfl, show stopS id S = S by unfold stopS; rw [hid]; rfl, show stopB id S = false by unfold stopB; rw [hid]; rfl]
    rw [hid] at N
    clear h1 h2 h3 h4 h5 h6 h7 hid c0
    go_enter Try.func12, Try.ntmps12
    go_wp2_with fail
    refine Calls.mono U.out ?_
    rintro e w' ⟨rfl, rfl⟩
    go_wp2_with fail
    refine Calls.mono N.out ?_
    rintro e w' ⟨rfl, rfl⟩
    go_wp2
    go_ret2
    exact ⟨rfl, same.out⟩
  | true =>
    rw [hid] at N
    have hlk : (f id).isSome = (look id S).isSome := by rw [abs_look h6 h3]; simp
    rw [show stopE id = 0 by unfold stopE; rw [hid]; rfl, show stopS id S = rm id S by unfold stopS; rw [hid]; rfl, show stopB id S = (f id).isSome by unfold stopB; rw [hid, hlk]; rfl]
    have TA := hidden (take h2 rfl h3 h4 h5 id hi)
    have FIN : Hid (∀ e w', TakeO w b v m X f id e w' → e = .returned (.bool (f id).isSome) ∧ TbO w w' t (rm id S) last (t :: hfoot v b m)) := by
      rintro e w' ⟨v', Y, f', g0, g1, g2, g3, g4, g5, g6⟩
      refine ⟨g0, _, ⟨b, m, v', Y, f', rfl, h1.stay g5 (Has.apart h1 h2), g1, g2, g3, fun x hx => h5 x (mem_rm.1 (g4.mem_iff.1 hx)).1, abs_take h6 g4, h7⟩, g5.mono (fun k hk => List.mem_cons_of_mem _ hk), ?_⟩
      intro k hk
      rcases List.mem_cons.1 hk with rfl | hk
      · exact .inl (by simp)
      · exact (g6 k hk).imp (List.mem_cons_of_mem _) (fun h => h)
    generalize (f id).isSome = was at FIN ⊢
    clear h1 h2 h3 h4 h5 h6 h7 hid same hlk
    go_enter Try.func12, Try.ntmps12
    go_wp2_with fail
    refine Calls.mono U.out ?_
    rintro e w' ⟨rfl, rfl⟩
    go_wp2_with fail
    refine Calls.mono N.out ?_
    rintro e w' ⟨rfl, rfl⟩
    go_wp2_with fail
    refine Calls.mono TA.out ?_
    rintro e w' hP
    obtain ⟨rfl, hT⟩ := FIN.out _ _ hP
    have HT := hidden hT
    clear hP hT
    go_wp2
    go_ret2
    exact ⟨rfl, HT.out⟩
/-- Get -/
def getV (id : Int) (S : List D) : Value := .tuple #[.int .i64 ((look id S).elim 0 (·.2)), .bool (look id S).isSome]
theorem tget {w : World} {t : Nat} {S : List D} {last : Int} {F : List Nat} (h : Tb w t S last F) (id : Int) (hi : I64 id) : Calls Try.prog 18 #[.pointer (some ⟨t, 0, none⟩), .int .i64 id] w fun e w' => e = .returned (getV id S) ∧ Below w.heap.size w w' := by
  obtain ⟨b, m, v, X, f, rfl, h1, h2, h3, h4, h5, h6, h7⟩ := h
  have c0 := h1.cell 0 rfl
  have U := hidden (unmade c0)
  have FI := hidden (find h2 h3 hi)
  have e1 : lkV f X id = .tuple #[dv ((look id S).elim (0, 0) (fun d => d)), .bool (look id S).isSome] := by
    unfold lkV; rw [abs_look h6 h3]; cases f id <;> rfl
  rw [e1] at FI
  have e2 : getV id S = .tuple #[.int .i64 ((look id S).elim (0, 0) (fun d => d)).2, .bool (look id S).isSome] := by
    unfold getV; cases look id S <;> rfl
  rw [e2]
  generalize (look id S).elim (0, 0) (fun d => d) = d at FI ⊢
  generalize (look id S).isSome = hb at FI ⊢
  unfold dv at FI
  clear h1 h2 h3 h4 h5 h6 h7 e1 e2
  go_enter Try.func18, Try.ntmps18
  go_wp2_with fail
  refine Calls.mono U.out ?_
  rintro e w' ⟨rfl, rfl⟩
  go_wp2_with fail
  refine Calls.mono FI.out ?_
  rintro e w' ⟨rfl, hB⟩
  have HB := hidden hB
  clear hB
  go_wp2
  go_ret2
  exact ⟨rfl, HB.out.alloc HB.out.size _⟩
theorem tlen {w : World} {t : Nat} {S : List D} {last : Int} {F : List Nat} (h : Tb w t S last F) : Calls Try.prog 14 #[.pointer (some ⟨t, 0, none⟩)] w fun e w' => e = .returned (.int .i64 S.length) ∧ w = w' := by
  obtain ⟨b, m, v, X, f, rfl, h1, h2, h3, h4, h5, h6, h7⟩ := h
  have c0 := h1.cell 0 rfl
  have U := hidden (unmade c0)
  have SZ := hidden (size h2)
  rw [← h6.1.length_eq] at SZ
  clear h1 h2 h3 h4 h5 h6 h7
  go_enter Try.func14, Try.ntmps14
  go_wp2_with fail
  refine Calls.mono U.out ?_
  rintro e w' ⟨rfl, rfl⟩
  go_wp2_with fail
  refine Calls.mono SZ.out ?_
  rintro e w' ⟨rfl, rfl⟩
  go_wp2
  go_ret
  exact ⟨rfl, rfl⟩
/-- Next -/
def nextV (S : List D) : Value := .tuple #[dv ((S[0]?).elim (0, 0) (fun d => d)), .bool (decide (0 < S.length))]
theorem Tb.fst {X S : List D} (h : Abs X S) (hh : Heap X) (hk : ∀ d ∈ X, Ok d) : fstV X = nextV S := by
  unfold fstV nextV
  rw [h.1.length_eq]
  by_cases h0 : 0 < X.length
  · rw [abs_top h hh hk h0]; rfl
  · have e0 : X = [] := List.eq_nil_of_length_eq_zero (by omega)
    subst e0
    have : S = [] := h.1.eq_nil
    subst this
    rfl
theorem tnext {w : World} {t : Nat} {S : List D} {last : Int} {F : List Nat} (h : Tb w t S last F) : Calls Try.prog 19 #[.pointer (some ⟨t, 0, none⟩)] w fun e w' => e = .returned (nextV S) ∧ Below w.heap.size w w' := by
  obtain ⟨b, m, v, X, f, rfl, h1, h2, h3, h4, h5, h6, h7⟩ := h
  have ht := h1.lt
  have hB0 : Below w.heap.size w (w.alloc (.cells #[.int .i64 0, .int .i64 0] 43)) := (Below.refl _ w).alloc (Nat.le_refl _) _
  have c0 := h1.cell 0 rfl
  have U := hidden (unmade ((h1.later hB0).cell 0 rfl))
  have FI := hidden (first (h2.later hB0))
  rw [Tb.fst h6 h4 h5] at FI
  unfold nextV at FI ⊢
  generalize (S[0]?).elim (0, 0) (fun d => d) = d at FI ⊢
  generalize decide (0 < S.length) = hb at FI ⊢
  unfold dv at FI ⊢
  clear h1 h2 h3 h4 h5 h6 h7
  go_enter Try.func19, Try.ntmps19
  go_wp2_with fail
  refine Calls.mono U.out ?_
  rintro e w' ⟨rfl, rfl⟩
  go_wp2_with fail
  refine Calls.mono FI.out ?_
  rintro e w2 ⟨rfl, hB⟩
  have hx := (Has.new w #[.int .i64 0, .int .i64 0] 43).later hB
  have cx0 := hx.cell 0 rfl
  have cx1 := hx.cell 1 rfl
  have fx0 := hx.frozen 0
  have fx1 := hx.frozen 1
  have HB := hidden (hB0.trans (hB.mono (by simp)))
  have hx2 := hx.set 0 (.int .i64 d.1)
  have hx3 := hx2.set 1 (.int .i64 d.2)
  have cy0 := hx3.cell 0 rfl
  have cy1 := hx3.cell 1 rfl
  have HX := hidden hx3
  clear hB hx hx2 hx3
  go_wp2
  refine bodyPost_ret (v := .tuple #[.agg #[.int .i64 d.1, .int .i64 d.2], .bool hb]) (by rw [results_cell_tmp rfl]; go_simp) rfl ⟨rfl, ?_⟩
  exact (HB.out.setCell (p := ⟨w.heap.size, 0, none⟩) (by simp) _).setCell (p := ⟨w.heap.size, 1, none⟩) (by simp) _
end Go.Proofs.Ytinhhfnknlmdgaa.Tm
