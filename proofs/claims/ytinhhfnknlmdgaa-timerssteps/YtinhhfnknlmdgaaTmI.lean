/-
  A table of timers: those that are due.
  Conditions: the table was made by the package.
-/
import Derived.Test.YtinhhfnknlmdgaaTmH
namespace Go.Proofs.Ytinhhfnknlmdgaa.Tm
open Go.ChangeShapes Go.WideShapes Go.ChangeAt Go.RowKit Go.Sort
open Ba (hidden Only In Has own_ne own_stay own_len own_some own_mono cell_lt heap_lt)
set_option linter.unusedVariables false

theorem Tb.calls {w : World} {t : Nat} {S : List D} {last : Int} {F : List Nat} (h : Tb w t S last F) : ∃ b, w.cell? ⟨t, 0, none⟩ = some (.pointer (some ⟨b, 0, none⟩)) ∧ t < w.heap.size ∧
    (∀ w', Below w.heap.size w w' → Calls Try.prog 35 #[.pointer (some ⟨b, 0, none⟩)] w' fun e w2 => e = .returned (nextV S) ∧ Below w'.heap.size w' w2) ∧
    ∀ k, I64 k → Calls Try.prog 34 #[.pointer (some ⟨b, 0, none⟩), .int .i64 k] w fun e w' => (∃ bb, e = .returned (.bool bb)) ∧ TbO w w' t (rm k S) last F := by
  obtain ⟨b, m, v, X, f, rfl, h1, h2, h3, h4, h5, h6, h7⟩ := h
  refine ⟨b, h1.cell 0 rfl, h1.lt, fun w' hB => ?_, fun k hk => ?_⟩
  · have := first (h2.later hB)
    rw [Tb.fst h6 h4 h5] at this
    exact this
  · refine (take h2 rfl h3 h4 h5 k hk).mono ?_
    rintro e w' ⟨v', Y, f', rfl, g1, g2, g3, g4, g5, g6⟩
    refine ⟨⟨_, rfl⟩, _, ⟨b, m, v', Y, f', rfl, h1.stay g5 (Has.apart h1 h2), g1, g2, g3, fun x hx => h5 x (mem_rm.1 (g4.mem_iff.1 hx)).1, abs_take h6 g4, h7⟩, g5.mono (fun k hk => List.mem_cons_of_mem _ hk), ?_⟩
    intro k hk
    rcases List.mem_cons.1 hk with rfl | hk
    · exact .inl (by simp)
    · exact (g6 k hk).imp (List.mem_cons_of_mem _) (fun h => h)
theorem rm_head {d : D} {S : List D} (h : ((d :: S).map (·.1)).Nodup) : rm d.1 (d :: S) = S := by
  rw [List.map_cons, List.nodup_cons] at h
  unfold rm
  rw [List.filter_cons_of_neg (by simp)]
  refine List.filter_eq_self.2 fun x hx => ?_
  have : x.1 ≠ d.1 := fun e => h.1 (by rw [← e]; exact List.mem_map.2 ⟨x, hx, rfl⟩)
  simpa using this
/-- while those that are due are told: T told, S left -/
structure DueI (w : World) (t : Nat) (S0 : List D) (now : Int) (F : List Nat) (wr : World) (T S : List D) (F2 : List Nat) (tv : Value) (bx : Nat) : Prop where
  tb : Tb wr t S now F2
  row : wr.ownsRow w.heap.size 43 2 tv T.length (dcs T)
  box : Has wr bx #[.int .i64 ((S[0]?).elim (0, 0) (fun d => d)).1, .int .i64 ((S[0]?).elim (0, 0) (fun d => d)).2] 43
  new : w.heap.size ≤ bx
  apart : ∀ k, tv.ownBlock = some k → k ≠ bx ∧ k ∉ F2
  boxF : bx ∉ F2
  only : Only F w wr
  inn : In F F2 w
  all : S0 = T ++ S
  due : ∀ x ∈ T, x.2 ≤ now
/-- what Due leaves -/
def dueE (now last : Int) : Int := if okTime now && decide (last ≤ now) then 0 else 80
def told (now : Int) (S : List D) : List D := S.takeWhile (fun x => decide (x.2 ≤ now))
def rest (now : Int) (S : List D) : List D := S.dropWhile (fun x => decide (x.2 ≤ now))
def DueO (w : World) (t : Nat) (S : List D) (last now : Int) (F : List Nat) (e : Ending) (w' : World) : Prop :=
  ∃ tv T, e = .returned (.tuple #[tv, .int .i64 (dueE now last)]) ∧ w'.ownsRow w.heap.size 43 2 tv T.length (dcs T) ∧ ∃ F', (∀ k, tv.ownBlock = some k → k ∉ F') ∧
    ((dueE now last = 80 ∧ T = [] ∧ Tb w' t S last F') ∨ (dueE now last = 0 ∧ T = told now S ∧ Tb w' t (rest now S) now F')) ∧ Only F w w' ∧ In F F' w
theorem split_due {now : Int} : ∀ {T S : List D}, (∀ x ∈ T, x.2 ≤ now) → (∀ x, S[0]? = some x → ¬ x.2 ≤ now) → told now (T ++ S) = T ∧ rest now (T ++ S) = S
  | [], S, _, h2 => by
    cases S with
    | nil => exact ⟨rfl, rfl⟩
    | cons x S =>
      have := h2 x rfl
      simp [told, rest, this]
  | y :: T, S, h1, h2 => by
    have hy := h1 y (by simp)
    obtain ⟨g1, g2⟩ := split_due (T := T) (S := S) (fun x hx => h1 x (List.mem_cons_of_mem _ hx)) h2
    simp only [told, rest] at g1 g2 ⊢
    simp only [List.cons_append, List.takeWhile_cons, List.dropWhile_cons, decide_eq_true hy, if_true]
    exact ⟨by rw [g1], g2⟩
theorem DueI.fin {w wr : World} {t : Nat} {S0 : List D} {now last : Int} {F F2 : List Nat} {T S : List D} {tv : Value} {bx : Nat} (h : DueI w t S0 now F wr T S F2 tv bx) (hx : ∀ x, S[0]? = some x → ¬ x.2 ≤ now) (he : dueE now last = 0) : DueO w t S0 last now F (.returned (.tuple #[tv, .int .i64 0])) wr := by
  obtain ⟨g1, g2⟩ := split_due h.due hx
  rw [← h.all] at g1 g2
  exact ⟨tv, T, by rw [he], h.row, F2, fun k hk => (h.apart k hk).2, .inr ⟨he, g1.symm, by rw [g2]; exact h.tb⟩, h.only, h.inn⟩
/-- one more is told: it is taken out, appended -/
theorem DueI.took {w wr w2 : World} {t : Nat} {S0 : List D} {now : Int} {F F2 : List Nat} {T S : List D} {tv : Value} {bx : Nat} {d : D} (h : DueI w t S0 now F wr T (d :: S) F2 tv bx) (h2 : TbO wr.drew w2 t S now F2) :
    ∃ F3, Tb w2 t S now F3 ∧ w2.ownsRow w.heap.size 43 2 tv T.length (dcs T) ∧ Has w2 bx #[.int .i64 d.1, .int .i64 d.2] 43 ∧ (∀ k, tv.ownBlock = some k → k ≠ bx ∧ k ∉ F3) ∧ bx ∉ F3 ∧ Only F w w2 ∧ In F F3 w ∧ bx < w2.heap.size := by
  obtain ⟨F3, g1, g2, g3⟩ := h2
  have g2' : Only F2 wr w2 := g2.of_drew
  have hbx : bx < wr.heap.size := h.box.lt
  have nf : ∀ k, k < wr.heap.size → k ∉ F2 → k ∉ F3 := fun k hk hn hf => by
    rcases g3 k hf with e | e
    · exact hn e
    · have : wr.heap.size ≤ k := e
      omega
  refine ⟨F3, g1, own_stay h.row g2' (fun k hk => (h.apart k hk).2), h.box.stay g2' h.boxF, fun k hk => ⟨(h.apart k hk).1, nf k (h.row.lt k hk).2 (h.apart k hk).2⟩, nf bx hbx h.boxF, h.only.trans g2' h.inn, fun k hk => ?_, Nat.lt_of_lt_of_le hbx g2'.size⟩
  rcases g3 k hk with e | e
  · exact h.inn k e
  · exact .inr (Nat.le_trans h.only.size e)
theorem push_own {w : World} {base : Nat} {tv : Value} {T : List D} (d : D) (h : w.ownsRow base 43 2 tv T.length (dcs T)) (hb : base ≤ w.heap.size) (hT : T.length ≤ 1000000) :
    ∃ v' w3, (Builtin.append_ #[26, 26] 26 #[tv, .slice (some ⟨w.heap.size, 0, none⟩) 1 1]).run Try.prog (w.alloc (.cells #[.int .i64 d.1, .int .i64 d.2] 43)) = .ok v' w3 ∧ w3.ownsRow base 43 2 v' (T ++ [d]).length (dcs (T ++ [d])) ∧ Only tv.ownBlock.toList w w3 ∧ (v'.ownBlock = tv.ownBlock ∨ v'.ownBlock = some (w.heap.size + 1)) ∧ w.heap.size < w3.heap.size := by
  have hN : Has (w.alloc (.cells #[.int .i64 d.1, .int .i64 d.2] 43)) w.heap.size #[.int .i64 d.1, .int .i64 d.2] 43 := Has.new w _ _
  obtain ⟨v', w2, hr, g1, g2, g3⟩ := Ba.append_at (P := Try.prog) (ty := 26) (m := 1) (c := 1) (ad := ⟨w.heap.size, 0, none⟩) (news := dc d) Try.underlying26 info_due rfl (by decide) (h.alloc _) rfl
    (fun j u hj => by
      rw [addr_add]
      match j, hj with
      | 0, hj => exact hN.cell 0 hj
      | 1, hj => exact hN.cell 1 hj)
    (by intro u hu; simp only [dc, List.mem_cons, List.not_mem_nil, or_false] at hu; rcases hu with rfl | rfl <;> rfl) (.inl (by decide)) (by unfold maxLen; omega) (by omega) (by simp; omega)
  refine ⟨v', w2, hr, ?_, (Only.alloc _ w _).then (Only.grown g2 (by intro k hk; simp [hk])), g3.imp id (fun e => by rw [e]; simp), ?_⟩
  · rw [dcs_app, List.length_append]
    exact g1
  · have := g2.size
    simp at this
    omega
theorem Tb.setLast {w : World} {t : Nat} {S : List D} {last now : Int} {F : List Nat} (h : Tb w t S last F) (hn : okTime now = true) : Tb (w.setCell ⟨t, 1, none⟩ (.int .i64 now)) t S now F ∧ Only F w (w.setCell ⟨t, 1, none⟩ (.int .i64 now)) ∧ (w.setCell ⟨t, 1, none⟩ (.int .i64 now)).cell? ⟨t, 0, none⟩ = w.cell? ⟨t, 0, none⟩ := by
  obtain ⟨b, m, v, X, f, rfl, h1, h2, h3, h4, h5, h6, h7⟩ := h
  have ho : Only [t] w (w.setCell ⟨t, 1, none⟩ (.int .i64 now)) := Only.setCell w (p := ⟨t, 1, none⟩) (by simp) _
  exact ⟨⟨b, m, v, X, f, rfl, h1.set 1 _, h2.stay ho (by intro k hk; simp; rintro rfl; exact Has.apart h1 h2 hk), h3, h4, h5, h6, hn⟩, ho.mono (by simp), ((h1.set 1 _).cell 0 rfl).trans (h1.cell 0 rfl).symm⟩
/-- one more told: the box of the next one is new -/
theorem DueI.next {w w2 w3 w4 : World} {t : Nat} {S0 : List D} {now : Int} {F F3 : List Nat} {T S : List D} {tv v' : Value} {bx : Nat} {d c : D} (h1 : Tb w2 t S now F3) (h3 : Has w2 bx #[.int .i64 d.1, .int .i64 d.2] 43) (h4 : ∀ k, tv.ownBlock = some k → k ≠ bx ∧ k ∉ F3) (h6 : Only F w w2) (h7 : In F F3 w)
    (hall : S0 = T ++ d :: S) (hdue : ∀ x ∈ T, x.2 ≤ now) (hd : d.2 ≤ now) (p1 : w3.ownsRow w.heap.size 43 2 v' (T ++ [d]).length (dcs (T ++ [d]))) (p2 : Only tv.ownBlock.toList w2 w3) (p3 : v'.ownBlock = tv.ownBlock ∨ v'.ownBlock = some (w2.heap.size + 1)) (hrow : ∀ k, tv.ownBlock = some k → w.heap.size ≤ k ∧ k < w2.heap.size)
    (hB : Below (w3.alloc (.cells #[.int .i64 c.1, .int .i64 c.2] 43)).heap.size (w3.alloc (.cells #[.int .i64 c.1, .int .i64 c.2] 43)) w4) :
    DueI w t S0 now F ((w4.setCell ⟨w3.heap.size, 0, none⟩ (.int .i64 ((S[0]?).elim (0, 0) (fun d => d)).1)).setCell ⟨w3.heap.size, 1, none⟩ (.int .i64 ((S[0]?).elim (0, 0) (fun d => d)).2)) (T ++ [d]) S F3 v' w3.heap.size := by
  have hF3 : ∀ k ∈ F3, k < w2.heap.size := h1.lt
  have hs3 := p2.size
  have t3 : Tb w3 t S now F3 := h1.stay p2 (by intro k hk hh; exact (h4 k (by simpa using hh)).2 hk)
  have hs4 := hB.size
  simp only [World.size_alloc] at hs4
  have hB3 : Below w3.heap.size w3 w4 := ((Below.refl _ w3).alloc (Nat.le_refl _) _).trans (hB.mono (by simp))
  have o5 : Only [w3.heap.size] w4 ((w4.setCell ⟨w3.heap.size, 0, none⟩ (.int .i64 ((S[0]?).elim (0, 0) (fun d => d)).1)).setCell ⟨w3.heap.size, 1, none⟩ (.int .i64 ((S[0]?).elim (0, 0) (fun d => d)).2)) := (Only.setCell w4 (p := ⟨w3.heap.size, 0, none⟩) (by simp) _).then (Only.setCell _ (p := ⟨w3.heap.size, 1, none⟩) (by simp) _)
  have hvl : ∀ k, v'.ownBlock = some k → k < w3.heap.size := fun k hk => (p1.lt k hk).2
  have hx := ((Has.new w3 #[.int .i64 c.1, .int .i64 c.2] 43).later hB).set 0 (.int .i64 ((S[0]?).elim (0, 0) (fun d => d)).1)
  have hx := hx.set 1 (.int .i64 ((S[0]?).elim (0, 0) (fun d => d)).2)
  have hsz := h6.size
  refine ⟨(t3.later hB3).stay o5 ?_, ?_, hx, by omega, ?_, ?_, ?_, h7, by rw [hall]; simp, ?_⟩
  · intro k hk; simp; have := hF3 k hk; omega
  · exact own_stay (own_stay p1 (Only.of_below (F := []) hB3) (by simp)) o5 (fun k hk => by simp; have := hvl k hk; omega)
  · intro k hk
    refine ⟨by have := hvl k hk; omega, ?_⟩
    rcases p3 with e | e
    · rw [e] at hk; exact (h4 k hk).2
    · rw [e] at hk; cases hk; intro hf; have := hF3 _ hf; omega
  · intro hf; have := hF3 _ hf; omega
  · refine ((h6.trans p2 (fun k hk => .inr (hrow k (by simpa using hk)).1)).then (Only.of_below hB3)).trans o5 (fun k hk => .inr (by simp at hk; omega))
  · intro x hx
    rcases List.mem_append.1 hx with h | h
    · exact hdue x h
    · simp at h; rw [h]; exact hd
theorem DueI.start {w w1 : World} {t : Nat} {S : List D} {now : Int} {F : List Nat} {d0 : D} (h1 : Tb (w.setCell ⟨t, 1, none⟩ (.int .i64 now)) t S now F) (ho : Only F w (w.setCell ⟨t, 1, none⟩ (.int .i64 now))) (hB : Below (w.setCell ⟨t, 1, none⟩ (.int .i64 now)).heap.size (w.setCell ⟨t, 1, none⟩ (.int .i64 now)) w1) (hd : d0 = (S[0]?).elim (0, 0) (fun d => d)) :
    DueI w t S now F (w1.alloc (.cells #[.int .i64 d0.1, .int .i64 d0.2] 43)) [] S F (.slice none 0 0) w1.heap.size := by
  have hs : (w.setCell ⟨t, 1, none⟩ (.int .i64 now)).heap.size = w.heap.size := by simp [World.setCell]
  have hB2 := (hB.alloc hB.size (.cells #[.int .i64 d0.1, .int .i64 d0.2] 43))
  have hx := Has.new w1 #[.int .i64 d0.1, .int .i64 d0.2] 43
  have hsz := hB.size
  subst hd
  refine ⟨h1.later hB2, World.ownsRow_nil _ _ _ _, hx, by omega, fun k hk => (by cases hk), ?_, ho.then (Only.of_below hB2), In.refl _ _, rfl, by simp⟩
  intro hf
  have := h1.lt _ hf
  omega
def lenOf : Value → Nat | .slice _ n _ => n | _ => 0
set_option maxHeartbeats 2000000 in
set_option maxRecDepth 20000 in
theorem tdue {w : World} {t : Nat} {S : List D} {last : Int} {F : List Nat} (h : Tb w t S last F) (now : Int) : Calls Try.prog 13 #[.pointer (some ⟨t, 0, none⟩), .int .i64 now] w fun e w' => DueO w t S last now F e w' := by
  obtain ⟨b0, c0, c1, f1⟩ := h.open
  have U := hidden (unmade c0)
  have N := hidden (isTime now w)
  have HTB := hidden h
  have bad : Hid (dueE now last = 80 → DueO w t S last now F (.returned (.tuple #[.slice none 0 0, .int .i64 80])) w) := fun he => ⟨_, [], by rw [he], World.ownsRow_nil _ _ _ _, F, fun k hk => (by cases hk), .inl ⟨he, rfl, HTB.out⟩, Only.refl _ _, In.refl _ _⟩
  cases htm : okTime now with
  | false =>
    have HE : Hid (dueE now last = 80) := by unfold Hid dueE; rw [htm]; rfl
    rw [htm] at N
    clear h htm
    go_enter Try.func13, Try.ntmps13
    go_wp2_with fail
    refine Calls.mono U.out ?_
    rintro e w' ⟨rfl, rfl⟩
    go_wp2_with fail
    refine Calls.mono N.out ?_
    rintro e w' ⟨rfl, rfl⟩
    go_wp2
    go_ret2
    exact bad.out HE.out
  | true =>
    rw [htm] at N
    by_cases hlt : now < last
    · have HE : Hid (dueE now last = 80) := by unfold Hid dueE; rw [htm, decide_eq_false (by omega)]; rfl
      clear h htm
      go_enter Try.func13, Try.ntmps13
      go_wp2_with fail
      refine Calls.mono U.out ?_
      rintro e w' ⟨rfl, rfl⟩
      go_wp2_with fail
      refine Calls.mono N.out ?_
      rintro e w' ⟨rfl, rfl⟩
      go_wp2
      go_ret2
      exact bad.out HE.out
    · have HE : Hid (dueE now last = 0) := by unfold Hid dueE; rw [htm, decide_eq_true (by omega)]; rfl
      obtain ⟨h1, ho1, hc1⟩ := h.setLast htm
      obtain ⟨b1, c1', ht1, FI, _⟩ := h1.calls
      have HFI := hidden (FI _ (Below.refl _ _))
      have H1 := hidden h1
      have HO1 := hidden ho1
      have ht0 : t < w.heap.size := by simpa [World.setCell] using ht1
      unfold nextV at HFI
      have hfst : ∃ d, d = (S[0]?).elim (0, 0) (fun d => d) := ⟨_, rfl⟩
      obtain ⟨d0, hd0⟩ := hfst
      rw [← hd0] at HFI
      have HD0 := hidden hd0
      obtain ⟨ok0, hok0⟩ : ∃ ok0, ok0 = decide (0 < S.length) := ⟨_, rfl⟩
      rw [← hok0] at HFI
      have HK0 := hidden hok0
      have HT := hidden htm
      have hs1 : (w.setCell ⟨t, 1, none⟩ (.int .i64 now)).heap.size = w.heap.size := by simp [World.setCell]
      have HS1 := hidden hs1
      unfold dv at HFI
      have hb1 : b0 = b1 := by
        rw [hc1, c0] at c1'
        cases c1'
        rfl
      subst hb1
      have EC : Hid (∀ (args : Array Value) (w : World), (callFunc 34 args).run Try.prog w = .ok (.enter 34 args) w) := enters_of Try.func34 (by kernel_rfl) rfl
      clear h h1 ho1 hc1 FI hd0 hok0 htm hs1 c1'
      go_enter Try.func13, Try.ntmps13
      go_wp2_with fail
      refine Calls.mono U.out ?_
      rintro e w' ⟨rfl, rfl⟩
      go_wp2_with fail
      refine Calls.mono N.out ?_
      rintro e w' ⟨rfl, rfl⟩
      go_wp2_with fail
      refine Calls.mono HFI.out ?_
      rintro e w1 ⟨rfl, hB1⟩
      have HB1 := hidden hB1
      clear hB1 HFI U N c0 c1 f1 bad
      go_wp2_with fail
      go_loopw [6, 7, 8] (fun tv p ok wr => ∃ (T S2 : List D) (F2 : List Nat) (bx : Nat), p = .pointer (some ⟨bx, 0, none⟩) ∧ ok = .bool (decide (0 < S2.length)) ∧ DueI w t S now F wr T S2 F2 tv bx) (fun tv _ _ _ => S.length - lenOf tv)
      case atStart => exact ⟨[], S, F, w1.heap.size, rfl, by rw [HK0.out], DueI.start H1.out HO1.out HB1.out HD0.out⟩
      case round =>
        obtain ⟨T, S2, F2, bx, rfl, rfl, hI⟩ := hrel
        have HI := hidden hI
        obtain ⟨va, vcap, rfl⟩ := own_len hI.row
        cases S2 with
        | nil =>
          have FIN := hidden (hI.fin (last := last) (fun x hx => by cases hx) HE.out)
          clear hI
          simp only [List.length_nil, Nat.lt_irrefl, decide_false]
          go_wp2
          go_ret2
          exact FIN.out
        | cons d S2 =>
          have cb0 := hI.box.cell 0 rfl
          have cb1 := hI.box.cell 1 rfl
          simp only [List.length_cons, Nat.zero_lt_succ, decide_true]
          by_cases hdn : d.2 ≤ now
          · obtain ⟨b, c0, ht0', _, TKK⟩ := (hI.tb.later (w' := wr.drew) (Below.refl _ wr).drew).calls
            have hok := hI.tb.ok
            have hd1 : I64 d.1 := by unfold I64; have := (hok.2.1 d (by simp)).1; omega
            have TK := hidden (TKK d.1 hd1)
            rw [rm_head hok.2.2.1] at TK
            have hTl : T.length < S.length := by rw [hI.all]; simp
            have hS4 := HTB.out.ok.2.2.2
            have c0 : wr.cell? ⟨t, 0, none⟩ = some (.pointer (some ⟨b, 0, none⟩)) := c0
            have cb1' : wr.cell? ⟨bx, 1, none⟩ = some (.int .i64 d.2) := cb1
            have cb0' : wr.cell? ⟨bx, 0, none⟩ = some (.int .i64 d.1) := cb0
            clear hI hok TKK cb0 cb1
            have cb0 := cb0'
            have cb1 := cb1'
            clear cb0' cb1'
            go_upto_region 10 with fail
            refine Ord.wp_region_ex0 (X := Bool) (by kernel_rfl) 64 (fun x => [(some 51, .pointer (some ⟨t, 0, none⟩)), (some 52, .pointer (some ⟨t, 0, none⟩)), (some 53, .pointer (some ⟨t, 0, none⟩)), (some 54, .pointer (some ⟨b, 0, none⟩)), (some 55, .pointer (some ⟨bx, 0, none⟩)), (some 56, .int .i64 d.1), (some 57, .bool x)]) [some 51, some 52, some 53, some 54, some 55, some 56, some 57] rfl (fun listed hsz hr => Ord.all_listedC (rank := [0, 1, 2, 3, 4, 5, 6]) (by kernel_rfl) hsz hr) (by rfl) (fun _ => rfl) (by kernel_rfl) (Rg.StM [6] (fun k _ w' => (k = 0 → w' = wr.drew) ∧ (1 ≤ k → TbO wr.drew w' t S2 now F2))) (fun _ _ _ _ hL h => h.ext (n := 7) (by decide) hL) ?_ ?_ false ?_
            case refine_1 =>
              intro x Lq iq oq ac w' ho hi hcl hdep hF hW
              have f1 : ac.tmps.size = 64 := hF.1
              match iq, ho, hi, hdep with
              | 0, ho, hi, hdep =>
                cases ho
                have da0 : ac.eval (.tmp 0) = .pointer (some ⟨t, 0, none⟩) := hF.old 0 rfl
                exact Ord.ex_value x rfl rfl (Rg.mv da0 rfl) rfl (hW.keep (by decide))
              | 1, ho, hi, hdep =>
                cases ho
                have da0 : ac.eval (.tmp 51) = .pointer (some ⟨t, 0, none⟩) := hF.2.2.2 0 51 _ rfl (hdep ⟨0, .data⟩ (by simp) rfl)
                exact Ord.ex_value x rfl rfl (Rg.nilc da0 rfl) rfl (hW.keep (by decide))
              | 2, ho, hi, hdep =>
                cases ho
                have da0 : ac.eval (.tmp 52) = .pointer (some ⟨t, 0, none⟩) := hF.2.2.2 1 52 _ rfl (hdep ⟨1, .data⟩ (by simp) rfl)
                exact Ord.ex_value x rfl rfl (Rg.fa da0 rfl (by simp [go_sem])) rfl (hW.keep (by decide))
              | 3, ho, hi, hdep =>
                cases ho
                have da0 : ac.eval (.tmp 53) = .pointer (some ⟨t, 0, none⟩) := hF.2.2.2 2 53 _ rfl (hdep ⟨2, .data⟩ (by simp) rfl)
                obtain ⟨kq, hlo, hhi, hA⟩ := hW.range 0 0 (.inl rfl) (.inr ⟨6, rfl, (Rg.no_of (fun h => hcl 6 _ rfl (h) ⟨3, .data⟩ (by simp) rfl) hi)⟩)
                exact Ord.ex_value x rfl rfl (Rg.load da0 rfl (by rw [hA.1 (by omega)]; simp [go_sem, c0])) rfl (hW.keep (by decide))
              | 4, ho, hi, hdep =>
                cases ho
                have da0 : ac.eval (.tmp 7) = .pointer (some ⟨bx, 0, none⟩) := hF.old 7 rfl
                exact Ord.ex_value x rfl rfl (Rg.fa da0 rfl (by simp [go_sem])) rfl (hW.keep (by decide))
              | 5, ho, hi, hdep =>
                cases ho
                have da0 : ac.eval (.tmp 55) = .pointer (some ⟨bx, 0, none⟩) := hF.2.2.2 4 55 _ rfl (hdep ⟨4, .data⟩ (by simp) rfl)
                obtain ⟨kq, hlo, hhi, hA⟩ := hW.range 0 0 (.inl rfl) (.inr ⟨6, rfl, (Rg.no_of (fun h => hcl 6 _ rfl (h) ⟨5, .data⟩ (by simp) rfl) hi)⟩)
                exact Ord.ex_value x rfl rfl (Rg.load da0 rfl (by rw [hA.1 (by omega)]; simp [go_sem, cb0])) rfl (hW.keep (by decide))
              | 6, ho, hi, hdep =>
                cases ho
                have da0 : ac.eval (.tmp 54) = .pointer (some ⟨b, 0, none⟩) := hF.2.2.2 3 54 _ rfl (hdep ⟨3, .data⟩ (by simp) rfl)
                have da1 : ac.eval (.tmp 56) = .int .i64 d.1 := hF.2.2.2 5 56 _ rfl (hdep ⟨5, .data⟩ (by simp) rfl)
                have hA := hW.at (k := 0) rfl hi (.inl rfl)
                have hw := hA.1 rfl
                subst hw
                refine Rg.ex_calll x rfl rfl (Rg.enter (args := #[.pointer (some ⟨b, 0, none⟩), .int .i64 d.1]) rfl rfl (by simp [da0, da1]) EC.out) (Calls.mono TK.out ?_)
                rintro e w2 ⟨⟨bb, rfl⟩, hT⟩
                exact ⟨bb, rfl, (fun j hj => match j, hj with | 0, _ => rfl | 1, _ => rfl | 2, _ => rfl | 3, _ => rfl | 4, _ => rfl | 5, _ => rfl | 6, hj => absurd hj (by rw [hi]; decide) | _ + 7, _ => rfl), hW.next (k := 0) rfl (by decide) hi (.inl rfl) ⟨fun e => absurd e (by decide), fun _ => hT⟩⟩
            case refine_3 => exact Rg.StM.first ⟨fun _ => rfl, fun e => absurd e (by decide)⟩
            case refine_2 =>
              intro bb w2 hW
              have HW := hidden (hW.last.2 (Nat.le_refl _))
              clear hW cb0 cb1 c0 TK
              obtain ⟨F3, k1, k2, k3, k4, k5, k6, k7, k8⟩ := HI.out.took HW.out
              have hrow := fun k hk => k2.lt k hk
              obtain ⟨v', w3, hr, p1, p2, p3, p4⟩ := push_own d k2 (by have := k6.size; omega) (by omega)
              have cb0 := k3.cell 0 rfl
              have cb1 := k3.cell 1 rfl
              have hbx3 := k3.stay p2 (fun hh => (k4 _ (by simpa using hh)).1 rfl)
              have cc0 := hbx3.cell 0 rfl
              have cc1 := hbx3.cell 1 rfl
              obtain ⟨va', vcap', rfl⟩ := own_len p1
              have t3 := k1.stay p2 (by intro k hk hh; exact (k4 k (by simpa using hh)).2 hk)
              obtain ⟨b3, c3, ht3, FI3, _⟩ := t3.calls
              have HFI3 := hidden (FI3 (w3.alloc (.cells #[.int .i64 d.1, .int .i64 d.2] 43)) ((Below.refl _ w3).alloc (Nat.le_refl _) _))
              have HK1 := hidden k1
              have HK3 := hidden k3
              have HK4 := hidden k4
              have HK6 := hidden k6
              have HK7 := hidden k7
              have HP1 := hidden p1
              have HP2 := hidden p2
              have HP3 := hidden p3
              have HRW := hidden hrow
              have HR := hidden hr
              unfold nextV dv at HFI3
              obtain ⟨d2, hd2⟩ : ∃ d2, d2 = (S2[0]?).elim (0, 0) (fun d => d) := ⟨_, rfl⟩
              rw [← hd2] at HFI3
              have HD2 := hidden hd2
              clear k1 k2 k3 k4 k5 k6 k7 hbx3 t3 FI3 p1 p2 p3 hrow hd2 HW hr
              simp only [Ord.puts, Ord.prs]
              go_simp
              go_wp2_with (at_builtin; refine Rg.wpList_app rfl _ _ 26 rfl rfl rfl HR.out ?_)
              refine Calls.mono HFI3.out ?_
              rintro e w4 ⟨rfl, hB4⟩
              have hx4 := (Has.new w3 #[.int .i64 d.1, .int .i64 d.2] 43).later hB4
              have cx0 := hx4.cell 0 rfl
              have cx1 := hx4.cell 1 rfl
              have fx0 := hx4.frozen 0
              have fx1 := hx4.frozen 1
              have HB4 := hidden hB4
              clear hB4 hx4 HFI3
              go_wp2
              go_roundw
              case rel =>
                refine ⟨T ++ [d], S2, F3, w3.heap.size, rfl, rfl, ?_⟩
                have hn := DueI.next (S0 := S) HK1.out HK3.out HK4.out HK6.out HK7.out HI.out.all HI.out.due hdn HP1.out HP2.out HP3.out HRW.out HB4.out
                rw [← HD2.out, show (T ++ [d]).length = T.length + 1 by simp] at hn
                exact hn
              case measure => simp [lenOf]; omega
          · have FIN := hidden (hI.fin (last := last) (fun x hx => by simp at hx; rw [← hx]; exact hdn) HE.out)
            clear hI
            have cb1' : wr.cell? ⟨bx, 1, none⟩ = some (.int .i64 d.2) := cb1
            have cb0' : wr.cell? ⟨bx, 0, none⟩ = some (.int .i64 d.1) := cb0
            clear cb0 cb1
            go_wp2
            go_ret2
            exact FIN.out
end Go.Proofs.Ytinhhfnknlmdgaa.Tm
