/-
  The streams, gone round: the next one that has a message.
  Conditions: the queue lies in memory.
-/
import Derived.Test.YtfgoamfoddkafaaSqB
import Derived.RangeFuncNested
import Derived.RangeFuncBound
import Derived.RangeFuncCalls
import Derived.RangeFuncLeaves
import Derived.RangeFuncBox
import Derived.Shelf.Abstract
import Derived.Shelf.RegionOpen
import Derived.OwnWalkIn
import Derived.TacticsInMore
import Derived.LoopNIn
import Derived.LoopIn
namespace Go.Proofs.Ytfgoamfoddkafaa.Sq
open Go.ChangeShapes Go.WideShapes Go.ChangeAt Go.RowKit Go.Shelf
open Ba (hidden Has cell_lt heap_lt)
set_option linter.unusedVariables false
attribute [local go_sem] Oper.semAt_some

/-- what the round is made of -/
def rfn (b1 b2 : Nat) : Value := .func (.func 40) #[] #[.pointer (some ⟨b1, 0, none⟩), .pointer (some ⟨b2, 0, none⟩)]
theorem two_boxes (w : World) (u v : Value) (t1 t2 : TypeId) : (w.heap.size ≤ w.heap.size ∧ w.heap.size ≤ w.heap.size + 1) ∧ Has ((w.alloc (.cells #[u] t1)).alloc (.cells #[v] t2)) w.heap.size #[u] t1 ∧ Has ((w.alloc (.cells #[u] t1)).alloc (.cells #[v] t2)) (w.heap.size + 1) #[v] t2 ∧ Below w.heap.size w ((w.alloc (.cells #[u] t1)).alloc (.cells #[v] t2)) := by
  have h1 := Has.new w #[u] t1
  have h2 := Has.new (w.alloc (.cells #[u] t1)) #[v] t2
  rw [World.size_alloc] at h2
  exact ⟨⟨Nat.le_refl _, Nat.le_succ _⟩, h1.later ((Below.refl _ _).alloc (Nat.le_refl _) _), h2, ((Below.refl _ w).alloc (Nat.le_refl _) _).alloc (by simp) _⟩
theorem round {D : Nat → Prop} {w : World} {t b : Nat} {vs : Nat → Value} {P : Nat → List RV} {S : St} (h : No D w t b vs P S) (hg : Good S) :
    Calls Try.prog 36 #[.pointer (some ⟨t, 0, none⟩)] w fun e w' => ∃ b1 b2, e = .returned (rfn b1 b2) ∧ (w.heap.size ≤ b1 ∧ w.heap.size ≤ b2) ∧ Has w' b1 #[.pointer (some ⟨t, 0, none⟩)] 23 ∧ Has w' b2 #[.int .i64 (fst S : Nat)] 3 ∧ Below w.heap.size w w' := by
  have c1 := h.q.cell 1 rfl
  have c2 := h.q.cell 2 rfl
  have ht := h.q.lt
  have b1 := hg.lt
  have b2 := hg.n2
  have hw : IntKind.i64.wrap ((S.last : Int) + 1) = (S.last : Int) + 1 := by rw [IntKind.wrap_i64]; omega
  unfold fst
  clear h hg
  have B1 := Has.new w #[.pointer (some ⟨t, 0, none⟩)] 23
  have hB1 : Below w.heap.size w (w.alloc (.cells #[.pointer (some ⟨t, 0, none⟩)] 23)) := (Below.refl _ w).alloc (Nat.le_refl _) _
  cases hb : S.bgn with
  | true =>
    rw [hb] at c2
    have HE : Hid (((if true = true then S.last else S.last + 1 : Nat) : Int) = (S.last : Int)) := rfl
    rw [HE.out]
    go_enter Try.func36, Try.ntmps36
    go_wp2
    go_ret
    exact ⟨_, _, rfl, two_boxes w _ _ 23 3⟩
  | false =>
    rw [hb] at c2
    have HE : Hid (((if false = true then S.last else S.last + 1 : Nat) : Int) = (S.last : Int) + 1) := by simp [Hid]
    rw [HE.out]
    go_enter Try.func36, Try.ntmps36
    go_wp2
    go_ret
    exact ⟨_, _, rfl, two_boxes w _ _ 23 3⟩
/-- what the iterator reads -/
def Rn (W : World) (t b b1 b2 n f : Nat) : Prop := W.cell? ⟨b1, 0, none⟩ = some (.pointer (some ⟨t, 0, none⟩)) ∧ W.cell? ⟨b2, 0, none⟩ = some (.int .i64 (f : Int)) ∧ W.cell? ⟨t, 0, none⟩ = some (.slice (some ⟨b, 0, none⟩) n n)
theorem Rn.below {W W' : World} {t b b1 b2 n f n₀ : Nat} (h : Rn W t b b1 b2 n f) (hB : Below n₀ W W') (h1 : b1 < n₀) (h2 : b2 < n₀) (h3 : t < n₀) : Rn W' t b b1 b2 n f :=
  ⟨(hB.cell h1).trans h.1, (hB.cell h2).trans h.2.1, (hB.cell h3).trans h.2.2⟩
theorem round_in (l n₀ : Nat) (J : Nat → World → Prop) (Jx : World → Prop) {t b b1 b2 n f : Nat} (hn1 : 1 ≤ n) (hn2 : n ≤ 1024) (hf : f ≤ 1024)
    (hJ : ∀ k W W', J k W → W.grownBy W' none → J k W')
    (hY : ∀ k W1, k < n → J k W1 → YieldAt Fence.wide 8 Try.prog l #[.int .i64 (((f + k) % n : Nat) : Int)] W1 fun e W' =>
      (e = .returned (.bool true) ∧ J (k + 1) W' ∧ Below n₀ W1 W') ∨ (e = .returned (.bool false) ∧ Jx W'))
    (W : World) (hR : Rn W t b b1 b2 n f) (h1 : b1 < n₀) (h2 : b2 < n₀) (h3 : t < n₀) (h0 : J 0 W) :
    CallsIn Fence.wide 9 Try.prog 40 #[.func (.yield l) #[] #[], .pointer (some ⟨b1, 0, none⟩), .pointer (some ⟨b2, 0, none⟩)] W fun e W' => (∃ v, e = .returned v) ∧ (J n W' ∨ Jx W') := by
  obtain ⟨c1, c2, c3⟩ := hR
  refine callsIn_wide.2 ?_
  go_enter Try.func40, Try.ntmps40
  go_wp2_with fail
  go_loopw [10] (fun d wr => ∃ k : Nat, d = .int .i64 (k : Int) ∧ k ≤ n ∧ J k wr ∧ Below n₀ W wr) (fun d wr => n - (intOf d).toNat)
  case atStart => exact ⟨0, rfl, Nat.zero_le _, h0, Below.refl _ _⟩
  case round =>
    obtain ⟨k, rfl, hk, hJs, hB⟩ := hrel
    by_cases hkn : k = n
    · subst hkn
      go_wp2
      go_end0
      exact ⟨⟨_, rfl⟩, .inl hJs⟩
    · have hlt : (k : Int) < (n : Int) := by omega
      have d1 : wr.cell? ⟨b1, 0, none⟩ = some (.pointer (some ⟨t, 0, none⟩)) := (hB.cell (p := ⟨b1, 0, none⟩) h1).trans c1
      have d2 : wr.cell? ⟨b2, 0, none⟩ = some (.int .i64 (f : Int)) := (hB.cell (p := ⟨b2, 0, none⟩) h2).trans c2
      have d3 : wr.cell? ⟨t, 0, none⟩ = some (.slice (some ⟨b, 0, none⟩) n n) := (hB.cell (p := ⟨t, 0, none⟩) h3).trans c3
      have hw1 : IntKind.i64.wrap ((f : Int) + (k : Int)) = (f : Int) + (k : Int) := by rw [IntKind.wrap_i64]; omega
      have hne : ¬ n = 0 := by omega
      have hw2 : ((f : Int) + (k : Int)).tmod (n : Int) = (((f + k) % n : Nat) : Int) := by
        rw [Int.tmod_eq_emod_of_nonneg (by omega)]
        simp
      have hw3 : IntKind.i64.wrap ((k : Int) + 1) = (k : Int) + 1 := by rw [IntKind.wrap_i64]; omega
      have hy0 := hidden (hY k)
      generalize hq : (((f + k) % n : Nat) : Int) = q at hw2 hy0
      clear hY c1 c2 c3
      go_wp2_with fail
      have hJd := hJ k wr wr.drew hJs ⟨rfl, rfl, rfl, Nat.le_refl _, fun _ _ _ => rfl⟩
      obtain ⟨fn, tmps, assign, body, hy, hRd⟩ := hy0.out wr.drew (by omega) hJd
      clear hy0
      have hRd2 := hRd.mono (R' := fun e W' => ∃ g : Bool, e = .returned (.bool g) ∧ Hid ((g = true ∧ J (k + 1) W' ∧ Below n₀ wr.drew W') ∨ (g = false ∧ Jx W'))) (by
        rintro e W' (⟨rfl, h1, h2⟩ | ⟨rfl, h1⟩)
        · exact ⟨true, rfl, .inl ⟨rfl, h1, h2⟩⟩
        · exact ⟨false, rfl, .inr ⟨rfl, h1⟩⟩)
      clear hRd
      refine (wpIn_wide (n := 9)).1 ?_
      refine wpIn_region_any (by kernel_rfl) ?_
      refine wpAnyIn_take (i := 0) (v := .func (.yield l) #[] #[]) rfl rfl (by kernel_rfl) (by kernel_rfl) (by kernel_rfl) (fun _ _ _ h => h) ⟨Or.inl ⟨by rfl, ?h⟩, fun _ => rfl⟩ ?r
      case h => intro w; go_simp
      case r =>
        refine wpAnyIn_take (i := 2) (v := .int .i64 (k : Int)) rfl rfl (by kernel_rfl) (by kernel_rfl) (by kernel_rfl) (fun _ _ _ h => h) ⟨Or.inl ⟨by rfl, ?h⟩, fun _ => rfl⟩ ?r
        case h => intro w; go_simp
        case r =>
          refine wpAnyIn_ready (rs := [1, 4]) (by kernel_rfl) (by simp) ?_
          refine (AllReadyIn.cons rfl (fun K hK => ?_) (AllReadyIn.cons rfl (fun K hK => ?_) AllReadyIn.nil))
          · go_simp
            refine hK _ _ ?_
            clear hK K
            refine wpAnyIn_take (i := 3) (v := .int .i64 ((f : Int) + (k : Int))) rfl rfl (by kernel_rfl) (by kernel_rfl) (by kernel_rfl) (fun _ _ _ h => h) ⟨Or.inl ⟨by rfl, ?h⟩, fun _ => rfl⟩ ?r
            case h => intro w; go_simp
            case r =>
              refine wpAnyIn_ready (rs := [4]) (by kernel_rfl) (by simp) ?_
              refine (AllReadyIn.cons rfl (fun K hK => ?_) AllReadyIn.nil)
              · go_simp
                refine hK _ _ ?_
                clear hK K
                refine wpAnyIn_take (i := 5) (v := .pointer (some ⟨t, 0, none⟩)) rfl rfl (by kernel_rfl) (by kernel_rfl) (by kernel_rfl) (fun _ _ _ h => h) ⟨Or.inl ⟨by rfl, ?h⟩, fun _ => rfl⟩ ?r
                case h => intro w; go_simp
                case r =>
                  refine wpAnyIn_take (i := 6) (v := .pointer (some ⟨t, 0, none⟩)) rfl rfl (by kernel_rfl) (by kernel_rfl) (by kernel_rfl) (fun _ _ _ h => h) ⟨Or.inl ⟨by rfl, ?h⟩, fun _ => rfl⟩ ?r
                  case h => intro w; go_simp
                  case r =>
                    refine wpAnyIn_ready (rs := [7]) (by kernel_rfl) (by simp) ?_
                    refine (AllReadyIn.cons rfl (fun K hK => ?_) AllReadyIn.nil)
                    · go_simp
                      refine hK _ _ ?_
                      clear hK K
                      refine wpAnyIn_ready (rs := [8]) (by kernel_rfl) (by simp) ?_
                      refine (AllReadyIn.cons rfl (fun K hK => ?_) AllReadyIn.nil)
                      · go_simp
                        refine hK _ _ ?_
                        clear hK K
                        refine wpAnyIn_ready (rs := [9]) (by kernel_rfl) (by simp) ?_
                        refine (AllReadyIn.cons rfl (fun K hK => ?_) AllReadyIn.nil)
                        · go_simp
                          refine hK _ _ ?_
                          clear hK K
                          refine wpAnyIn_ready (rs := [10]) (by kernel_rfl) (by simp) ?_
                          refine (AllReadyIn.cons rfl (fun K hK => ?_) AllReadyIn.nil)
                          · go_simp
                            refine hRd2.mono ?_
                            rintro e w4 ⟨g, rfl, hz⟩
                            try go_simp
                            refine hK _ _ ?_
                            clear hK K
                            refine wpAnyIn_ready (rs := [11]) (by kernel_rfl) (by simp) ?_
                            refine (AllReadyIn.cons rfl (fun K hK => ?_) AllReadyIn.nil)
                            · go_simp
                              refine hK _ _ ?_
                              clear hK K
                              refine wpAnyIn_done (by kernel_rfl) ?_ _
                              rcases hz with ⟨rfl, hJ4, hB4⟩ | ⟨rfl, hx4⟩
                              · gi_wp2
                                go_wp2
                                go_roundw
                                case rel => exact ⟨k + 1, by simp, by omega, hJ4, hB.trans (Below.trans (b := wr.drew) ⟨rfl, rfl, rfl, Nat.le_refl _, fun _ _ => rfl⟩ hB4)⟩
                                case measure => simp only [intOf]; omega
                              · gi_wp2
                                go_wp2
                                refine bodyPost_ret (results_none rfl _ _ _) rfl ?_
                                exact ⟨⟨_, rfl⟩, .inr hx4⟩
          · go_simp
            refine hK _ _ ?_
            clear hK K
            refine wpAnyIn_take (i := 5) (v := .pointer (some ⟨t, 0, none⟩)) rfl rfl (by kernel_rfl) (by kernel_rfl) (by kernel_rfl) (fun _ _ _ h => h) ⟨Or.inl ⟨by rfl, ?h⟩, fun _ => rfl⟩ ?r
            case h => intro w; go_simp
            case r =>
              refine wpAnyIn_take (i := 6) (v := .pointer (some ⟨t, 0, none⟩)) rfl rfl (by kernel_rfl) (by kernel_rfl) (by kernel_rfl) (fun _ _ _ h => h) ⟨Or.inl ⟨by rfl, ?h⟩, fun _ => rfl⟩ ?r
              case h => intro w; go_simp
              case r =>
                refine wpAnyIn_ready (rs := [1, 7]) (by kernel_rfl) (by simp) ?_
                refine (AllReadyIn.cons rfl (fun K hK => ?_) (AllReadyIn.cons rfl (fun K hK => ?_) AllReadyIn.nil))
                · go_simp
                  refine hK _ _ ?_
                  clear hK K
                  refine wpAnyIn_take (i := 3) (v := .int .i64 ((f : Int) + (k : Int))) rfl rfl (by kernel_rfl) (by kernel_rfl) (by kernel_rfl) (fun _ _ _ h => h) ⟨Or.inl ⟨by rfl, ?h⟩, fun _ => rfl⟩ ?r
                  case h => intro w; go_simp
                  case r =>
                    refine wpAnyIn_ready (rs := [7]) (by kernel_rfl) (by simp) ?_
                    refine (AllReadyIn.cons rfl (fun K hK => ?_) AllReadyIn.nil)
                    · go_simp
                      refine hK _ _ ?_
                      clear hK K
                      refine wpAnyIn_ready (rs := [8]) (by kernel_rfl) (by simp) ?_
                      refine (AllReadyIn.cons rfl (fun K hK => ?_) AllReadyIn.nil)
                      · go_simp
                        refine hK _ _ ?_
                        clear hK K
                        refine wpAnyIn_ready (rs := [9]) (by kernel_rfl) (by simp) ?_
                        refine (AllReadyIn.cons rfl (fun K hK => ?_) AllReadyIn.nil)
                        · go_simp
                          refine hK _ _ ?_
                          clear hK K
                          refine wpAnyIn_ready (rs := [10]) (by kernel_rfl) (by simp) ?_
                          refine (AllReadyIn.cons rfl (fun K hK => ?_) AllReadyIn.nil)
                          · go_simp
                            refine hRd2.mono ?_
                            rintro e w4 ⟨g, rfl, hz⟩
                            try go_simp
                            refine hK _ _ ?_
                            clear hK K
                            refine wpAnyIn_ready (rs := [11]) (by kernel_rfl) (by simp) ?_
                            refine (AllReadyIn.cons rfl (fun K hK => ?_) AllReadyIn.nil)
                            · go_simp
                              refine hK _ _ ?_
                              clear hK K
                              refine wpAnyIn_done (by kernel_rfl) ?_ _
                              rcases hz with ⟨rfl, hJ4, hB4⟩ | ⟨rfl, hx4⟩
                              · gi_wp2
                                go_wp2
                                go_roundw
                                case rel => exact ⟨k + 1, by simp, by omega, hJ4, hB.trans (Below.trans (b := wr.drew) ⟨rfl, rfl, rfl, Nat.le_refl _, fun _ _ => rfl⟩ hB4)⟩
                                case measure => simp only [intOf]; omega
                              · gi_wp2
                                go_wp2
                                refine bodyPost_ret (results_none rfl _ _ _) rfl ?_
                                exact ⟨⟨_, rfl⟩, .inr hx4⟩
                · go_simp
                  refine hK _ _ ?_
                  clear hK K
                  refine wpAnyIn_ready (rs := [1, 8]) (by kernel_rfl) (by simp) ?_
                  refine (AllReadyIn.cons rfl (fun K hK => ?_) (AllReadyIn.cons rfl (fun K hK => ?_) AllReadyIn.nil))
                  · go_simp
                    refine hK _ _ ?_
                    clear hK K
                    refine wpAnyIn_take (i := 3) (v := .int .i64 ((f : Int) + (k : Int))) rfl rfl (by kernel_rfl) (by kernel_rfl) (by kernel_rfl) (fun _ _ _ h => h) ⟨Or.inl ⟨by rfl, ?h⟩, fun _ => rfl⟩ ?r
                    case h => intro w; go_simp
                    case r =>
                      refine wpAnyIn_ready (rs := [8]) (by kernel_rfl) (by simp) ?_
                      refine (AllReadyIn.cons rfl (fun K hK => ?_) AllReadyIn.nil)
                      · go_simp
                        refine hK _ _ ?_
                        clear hK K
                        refine wpAnyIn_ready (rs := [9]) (by kernel_rfl) (by simp) ?_
                        refine (AllReadyIn.cons rfl (fun K hK => ?_) AllReadyIn.nil)
                        · go_simp
                          refine hK _ _ ?_
                          clear hK K
                          refine wpAnyIn_ready (rs := [10]) (by kernel_rfl) (by simp) ?_
                          refine (AllReadyIn.cons rfl (fun K hK => ?_) AllReadyIn.nil)
                          · go_simp
                            refine hRd2.mono ?_
                            rintro e w4 ⟨g, rfl, hz⟩
                            try go_simp
                            refine hK _ _ ?_
                            clear hK K
                            refine wpAnyIn_ready (rs := [11]) (by kernel_rfl) (by simp) ?_
                            refine (AllReadyIn.cons rfl (fun K hK => ?_) AllReadyIn.nil)
                            · go_simp
                              refine hK _ _ ?_
                              clear hK K
                              refine wpAnyIn_done (by kernel_rfl) ?_ _
                              rcases hz with ⟨rfl, hJ4, hB4⟩ | ⟨rfl, hx4⟩
                              · gi_wp2
                                go_wp2
                                go_roundw
                                case rel => exact ⟨k + 1, by simp, by omega, hJ4, hB.trans (Below.trans (b := wr.drew) ⟨rfl, rfl, rfl, Nat.le_refl _, fun _ _ => rfl⟩ hB4)⟩
                                case measure => simp only [intOf]; omega
                              · gi_wp2
                                go_wp2
                                refine bodyPost_ret (results_none rfl _ _ _) rfl ?_
                                exact ⟨⟨_, rfl⟩, .inr hx4⟩
                  · go_simp
                    refine hK _ _ ?_
                    clear hK K
                    refine wpAnyIn_ready (rs := [1]) (by kernel_rfl) (by simp) ?_
                    refine (AllReadyIn.cons rfl (fun K hK => ?_) AllReadyIn.nil)
                    · go_simp
                      refine hK _ _ ?_
                      clear hK K
                      refine wpAnyIn_take (i := 3) (v := .int .i64 ((f : Int) + (k : Int))) rfl rfl (by kernel_rfl) (by kernel_rfl) (by kernel_rfl) (fun _ _ _ h => h) ⟨Or.inl ⟨by rfl, ?h⟩, fun _ => rfl⟩ ?r
                      case h => intro w; go_simp
                      case r =>
                        refine wpAnyIn_ready (rs := [9]) (by kernel_rfl) (by simp) ?_
                        refine (AllReadyIn.cons rfl (fun K hK => ?_) AllReadyIn.nil)
                        · go_simp
                          refine hK _ _ ?_
                          clear hK K
                          refine wpAnyIn_ready (rs := [10]) (by kernel_rfl) (by simp) ?_
                          refine (AllReadyIn.cons rfl (fun K hK => ?_) AllReadyIn.nil)
                          · go_simp
                            refine hRd2.mono ?_
                            rintro e w4 ⟨g, rfl, hz⟩
                            try go_simp
                            refine hK _ _ ?_
                            clear hK K
                            refine wpAnyIn_ready (rs := [11]) (by kernel_rfl) (by simp) ?_
                            refine (AllReadyIn.cons rfl (fun K hK => ?_) AllReadyIn.nil)
                            · go_simp
                              refine hK _ _ ?_
                              clear hK K
                              refine wpAnyIn_done (by kernel_rfl) ?_ _
                              rcases hz with ⟨rfl, hJ4, hB4⟩ | ⟨rfl, hx4⟩
                              · gi_wp2
                                go_wp2
                                go_roundw
                                case rel => exact ⟨k + 1, by simp, by omega, hJ4, hB.trans (Below.trans (b := wr.drew) ⟨rfl, rfl, rfl, Nat.le_refl _, fun _ _ => rfl⟩ hB4)⟩
                                case measure => simp only [intOf]; omega
                              · gi_wp2
                                go_wp2
                                refine bodyPost_ret (results_none rfl _ _ _) rfl ?_
                                exact ⟨⟨_, rfl⟩, .inr hx4⟩

/-- the loop's own book-keeping: a block that is no cells, laid since the loop began, may have turned; new ones may have come -/
def Calm (B : Nat) (W W' : World) : Prop := ∃ row, W.grownBy W' row ∧ ∀ r, row = some r → B ≤ r ∧ ∃ o : Obj, W.heap[r]? = some o ∧ o.isCells = false
theorem Calm.put {B l : Nat} {W : World} {o : Obj} (o' : Obj) (hB : B ≤ l) (hl : W.heap[l]? = some o) (ho : o.isCells = false) : Calm B W (W.putObj l o') :=
  ⟨some l, grownBy_putObj' W l o', fun r e => by cases e; exact ⟨hB, o, hl, ho⟩⟩
theorem Calm.new (B : Nat) (W : World) (o : Obj) : Calm B W (W.alloc o) := ⟨none, World.grownBy_alloc W o none, fun r e => by cases e⟩
theorem Calm.same {B : Nat} {W W' : World} (h : Calm B W W') {k : Nat} {o : Obj} (hk : W.heap[k]? = some o) (hkl : k < B ∨ o.isCells = true) : W'.heap[k]? = some o := by
  obtain ⟨row, hg, hr⟩ := h
  refine (hg.block k (Array.getElem?_eq_some_iff.1 hk).1 fun e => ?_).trans hk
  obtain ⟨h1, o', h2, h3⟩ := hr k e.symm
  rw [hk] at h2; cases h2
  rcases hkl with h | h
  · omega
  · rw [h3] at h; cases h
theorem Calm.below {B n : Nat} {w W W' : World} (h : Calm B W W') (hn : n ≤ B) (hB : Below n w W) (hs : n ≤ w.heap.size) : Below n w W' := by
  obtain ⟨row, hg, hr⟩ := h
  exact hB.grown hg (Nat.le_trans hs hB.size) fun k e => Nat.le_trans hn (hr k e).1
theorem boxed_calm {B : Nat} {W W' : World} {b : Nat} {t : TypeId} {v : Value} (h : Boxed W b t v) (hc : Calm B W W') : Boxed W' b t v := hc.same h (.inr rfl)
/-- how a round may end -/
def roundEnd (B n₀ : Nat) (I : Nat → World → Prop) (Ix : World → Prop) (k : Nat) (W : World) : Exit → Act → World → Prop
  | .normal, _, W' => KeepsFrom B W W' ∧ Below n₀ W W' ∧ I (k + 1) W'
  | .ret, _, W' => KeepsFrom B W W' ∧ Ix W'
  | _, _, _ => False
theorem range_round {g : Operand} {p0 : Tmp} {assign body : Code} {Q : Exit → Act → World → Prop} {a : Act} {w : World} {t b b1 b2 n f n₀ : Nat} (hn1 : 1 ≤ n) (hn2 : n ≤ 1024) (hf : f ≤ 1024)
    (hg : a.eval g = rfn b1 b2) (hR : Rn w t b b1 b2 n f) (h1 : b1 < n₀) (h2 : b2 < n₀) (h3 : t < n₀) (hn : n₀ ≤ w.heap.size)
    (I : Nat → World → Prop) (Ix : World → Prop) (hI : ∀ k W W', I k W → Calm w.heap.size W W' → I k W') (hIx : ∀ W W', Ix W → Calm w.heap.size W W' → Ix W') (h0 : I 0 w)
    (Ax : Nat → Act → World → Prop) (hAx : ∀ k a' W W', Ax k a' W → Calm w.heap.size W W' → Ax k a' W')
    (hassign : ∀ l k W K, k < n → I k W → (∀ a' W', KeepsFrom w.heap.size W W' → Below n₀ W W' → I k W' → Ax k a' W' → K a' W') →
      assign.wpIn (Fence.wide.inRound l) 8 Try.prog (Exit.then K (fun _ _ _ => False)) { tmps := a.tmps.setIfInBounds p0 (.int .i64 (((f + k) % n : Nat) : Int)), defers := [] } W)
    (hbody : ∀ l k a' W, k < n → I k W → Ax k a' W → body.wpIn (Fence.wide.inRound l) 8 Try.prog (roundEnd w.heap.size n₀ I Ix k W) a' W)
    (hdone : ∀ D W, w.heap.size ≤ D → I n W → W.heap[D]? = some (.deferred (some [])) → Q .normal { a with defers := { target := .collected D, args := #[] } :: a.defers } W)
    (hstop : ∀ D W, w.heap.size ≤ D → Ix W → W.heap[D]? = some (.deferred (some [])) → (Code.ret).wpIn Fence.wide 10 Try.prog Q { a with defers := { target := .collected D, args := #[] } :: a.defers } W) :
    (Code.rangeFunc g #[p0] assign body).wpIn Fence.wide 10 Try.prog Q a w := by
  refine wpIn_rangeFunc fun fn hfn => ?_
  let l := w.heap.size + 1
  let rec_ : LoopState → Option Code → Obj := fun st pe => .loop { state := st, pending := pe, fn, tmps := a.tmps, params := #[p0], assign, body, defers := w.heap.size }
  let W1 := (w.alloc (.deferred (some []))).alloc (rec_ .ready none)
  have hL : W1.heap[l]? = some (rec_ .ready none) := by
    have := World.alloc_heap_new (w.alloc (.deferred (some []))) (rec_ .ready none)
    rwa [World.size_alloc] at this
  have hD : W1.heap[w.heap.size]? = some (.deferred (some [])) := (Below.heap_alloc _ _ _ (by simp)).trans (World.alloc_heap_new w _)
  have hstart : I 0 W1 := hI 0 _ _ (hI 0 _ _ h0 (Calm.new _ _ _)) (Calm.new _ _ _)
  have hB1 : Below n₀ w W1 := ((Below.refl _ w).alloc hn _).alloc (by simp; omega) _
  refine ⟨l, [{ target := .collected w.heap.size, args := #[] }], W1, { target := .fn (.func 40) #[.pointer (some ⟨b1, 0, none⟩), .pointer (some ⟨b2, 0, none⟩)], args := #[.func (.yield l) #[] #[]] }, W1, 40, #[.func (.yield l) #[] #[], .pointer (some ⟨b1, 0, none⟩), .pointer (some ⟨b2, 0, none⟩)], W1, run_enterLoop_outer _ _ _ _ _, ?_, fun _ _ => trivial, ?_, fun _ => by decide, ?_⟩
  · simp only [resolve, hg, rfn]
    simp [go_sem]
  · simp [invoke, go_sem]
  have keep : ∀ {W W' : World}, W.grownBy W' none → ∀ {k : Nat} {o : Obj}, W.heap[k]? = some o → W'.heap[k]? = some o := fun hg k o hk => (hg.block k (Array.getElem?_eq_some_iff.1 hk).1 (by simp)).trans hk
  refine (round_in l n₀ (fun k W => I k W ∧ W.heap[l]? = some (rec_ .ready none) ∧ W.heap[w.heap.size]? = some (.deferred (some [])))
    (fun W => Ix W ∧ W.heap[l]? = some (rec_ .done (some .ret)) ∧ W.heap[w.heap.size]? = some (.deferred (some [])))
    hn1 hn2 hf (fun k W W' h hg => ⟨hI k W W' h.1 ⟨none, hg, fun r e => by cases e⟩, keep hg h.2.1, keep hg h.2.2⟩) ?_ W1 (hR.below hB1 h1 h2 h3) h1 h2 h3 ⟨hstart, hL, hD⟩).mono ?_
  · rintro k W hk ⟨hi, hl, hd⟩
    have hy : (Instr.yield l #[.int .i64 (((f + k) % n : Nat) : Int)]).run Try.prog W = .ok (.round l fn (a.tmps.setIfInBounds p0 (.int .i64 (((f + k) % n : Nat) : Int))) assign body) W := by
      rw [run_yield hl rfl]; simp
    refine ⟨fn, _, assign, body, hy, roundIn_of_wpIn hfn (hassign l k W _ hk hi fun a' Wa hka hba hia hax => ?_)⟩
    have hla := hka.same l _ (by omega) hl rfl
    have hda := hka.same w.heap.size _ (Nat.le_refl _) hd rfl
    refine ⟨_, run_beginRound hla rfl, ?_⟩
    have hlt := (Array.getElem?_eq_some_iff.1 hla).1
    have c2 : Calm w.heap.size Wa (Wa.putObj l (rec_ .busy none)) := Calm.put _ (by omega) hla rfl
    have hl2 : (Wa.putObj l (rec_ .busy none)).heap[l]? = some (rec_ .busy none) := World.putObj_heap_same hlt
    have hd2 : (Wa.putObj l (rec_ .busy none)).heap[w.heap.size]? = some (.deferred (some [])) := (World.putObj_heap_other (by omega)).trans hda
    have hb2 : Below n₀ W (Wa.putObj l (rec_ .busy none)) := hba.trans (belowK_b hn Wa l _ _ (by omega) hla rfl rfl)
    refine wpIn_mono (hbody l k a' _ hk (hI k _ _ hia c2) (hAx k a' _ _ hax c2)) ?_
    have fin : ∀ (jump : Option Code) (W3 : World), KeepsFrom w.heap.size (Wa.putObj l (rec_ .busy none)) W3 →
        (Instr.endRound l jump).run Try.prog W3 = .ok (.bool jump.isNone) (W3.putObj l (rec_ (if jump.isNone then .ready else .done) jump)) ∧ Calm w.heap.size W3 (W3.putObj l (rec_ (if jump.isNone then .ready else .done) jump)) ∧
        (W3.putObj l (rec_ (if jump.isNone then .ready else .done) jump)).heap[l]? = some (rec_ (if jump.isNone then .ready else .done) jump) ∧ (W3.putObj l (rec_ (if jump.isNone then .ready else .done) jump)).heap[w.heap.size]? = some (.deferred (some [])) ∧
        Below n₀ W3 (W3.putObj l (rec_ (if jump.isNone then .ready else .done) jump)) := fun jump W3 hk3 => by
      have hl3 := hk3.same l _ (by omega) hl2 rfl
      exact ⟨run_endRound jump hl3, Calm.put _ (by omega) hl3 rfl, World.putObj_heap_same (Array.getElem?_eq_some_iff.1 hl3).1, (World.putObj_heap_other (by omega)).trans (hk3.same _ _ (Nat.le_refl _) hd2 rfl), belowK_b hn W3 l _ _ (by omega) hl3 rfl rfl⟩
    rintro e a3 W3 hp
    cases e with
    | normal =>
      obtain ⟨hk3, hb3, hi3⟩ := hp
      obtain ⟨hr, hc, hl4, hd4, hb4⟩ := fin none W3 hk3
      exact ⟨_, _, hr, .inl ⟨rfl, ⟨hI _ _ _ hi3 hc, hl4, hd4⟩, (hb2.trans hb3).trans hb4⟩⟩
    | ret =>
      obtain ⟨hk3, hi3⟩ := hp
      obtain ⟨hr, hc, hl4, hd4, hb4⟩ := fin (some .ret) W3 hk3
      exact ⟨_, _, hr, .inr ⟨rfl, hIx _ _ hi3 hc, hl4, hd4⟩⟩
    | exit id => exact hp.elim
    | goto t => exact hp.elim
    | panic ch => exact hp.elim
    | outgrown => exact hp.elim
  · rintro e W2 ⟨⟨v, rfl⟩, (⟨hi, hl, hd⟩ | ⟨hi, hl, hd⟩)⟩
    · exact ⟨none, _, run_endLoop hl (fun h => by cases h), hdone _ _ (Nat.le_refl _) (hI _ _ _ hi (Calm.put _ (by omega) hl rfl)) ((World.putObj_heap_other (by omega)).trans hd)⟩
    · exact ⟨some .ret, _, run_endLoop hl (fun h => by cases h), hstop _ _ (Nat.le_refl _) (hIx _ _ hi (Calm.put _ (by omega) hl rfl)) ((World.putObj_heap_other (by omega)).trans hd)⟩
end Go.Proofs.Ytfgoamfoddkafaa.Sq
