/-
  The document's Send and Forge.
  Conditions: the network lies in memory; the bytes lie in memory.
-/
import Derived.Test.YtmogacccffkkbaaNtW
namespace Go.Proofs.Ytmogacccffkkbaa.Nt
open Go.ChangeShapes Go.WideShapes Go.ChangeAt Go.RowKit
open Ba (hidden Only In Has own_ne own_stay own_len own_some own_mono cell_lt heap_lt)
set_option linter.unusedVariables false
theorem info_u8 : (Try.prog.info? 5).map (fun i => (i.zero, i.size, i.bytes)) = some (some (.int .u8 0), 1, 1) := by kernel_rfl
theorem info_rp : (Try.prog.info? 109).map (fun i => (i.zero, i.size, i.bytes)) = some (some (.agg #[.int .i64 0, .int .i64 0, .int .i64 0, .bool false, .slice none 0 0]), 5, 56) := by kernel_rfl
/-- bytes laid in a row of their own -/
theorem app_bytes {w : World} {base B0 : Nat} (hE : w.ownsRow base 5 1 (.slice (some ⟨B0, 0, none⟩) 0 0) 0 []) (hbase : base ≤ w.heap.size) {a : Option Addr} {n cap : Nat} {bs : List Int} (hby : By base w a n bs) (hnil : a = none → cap = 0) (hn : n ≤ 65536) (ty : TypeId) :
    ∃ g' c' w', (Builtin.append_ #[32, 32] ty #[.slice (some ⟨B0, 0, none⟩) 0 0, .slice a n cap]).run Try.prog w = .ok (.slice (some ⟨g', 0, none⟩) n c') w' ∧ w'.ownsRow base 5 1 (.slice (some ⟨g', 0, none⟩) n c') n (bs.map (.int .u8)) ∧ w.grownBy w' (some B0) ∧ (g' = B0 ∨ g' = w.heap.size) := by
  cases ha : a with
  | none =>
    subst ha
    have hn0 : n = 0 := by
      rcases hby.2.2 with h | ⟨b, off, h, _⟩
      · exact h
      · cases h
    subst hn0
    obtain rfl := List.eq_nil_of_length_eq_zero hby.1
    rw [hnil rfl]
    obtain ⟨i, hi, _, hz, _⟩ := info_parts info_u8
    exact ⟨B0, 0, w, run_append_owned_none (P := Try.prog) (w := w) base 32 ty 5 i 1 Try.underlying32 hi _ 0 [] hE, hE, ⟨rfl, rfl, rfl, Nat.le_refl _, fun _ _ _ => rfl⟩, .inl rfl⟩
  | some ad =>
    subst ha
    obtain ⟨v', w', hr, g1, g2, g3⟩ := Ba.append_at (P := Try.prog) (ty := ty) (m := n) (c := cap) (ad := ad) (news := bs.map (.int .u8)) Try.underlying32 info_u8 rfl (by decide) hE (by rw [List.length_map, hby.1, Nat.mul_one])
      (fun j u hj => by
        have hjl : j < n := by have := (List.getElem?_eq_some_iff.1 hj).1; rw [List.length_map, hby.1] at this; exact this
        rcases hby.2.2 with h | ⟨b, off, h, _, _, hc⟩
        · omega
        · cases h
          rw [Go.WideShapes.add_plain, hc j hjl, List.getD_eq_getElem?_getD]
          rw [List.getElem?_map] at hj
          rw [List.getElem?_eq_getElem (by rw [hby.1]; exact hjl)] at hj ⊢
          exact hj) (by intro u hu; obtain ⟨z, _, rfl⟩ := List.mem_map.1 hu; rfl) (.inr (by simp [Value.ownBlock])) (by unfold maxLen; omega) (by omega) hbase
    rw [Nat.zero_add, List.nil_append] at g1
    obtain ⟨a', c', rfl⟩ := own_len g1
    have g3' : (Value.slice a' n c').ownBlock = some B0 ∨ (Value.slice a' n c').ownBlock = some w.heap.size := g3
    have hform : ∃ g', a' = some ⟨g', 0, none⟩ := by
      rcases g1.2 with ⟨h1, h2⟩ | ⟨g, cap2, cur, h1, _⟩
      · cases h1
        rcases g3' with h | h <;> cases h
      · cases h1; exact ⟨g, rfl⟩
    obtain ⟨g', rfl⟩ := hform
    refine ⟨g', c', w', hr, g1, g2, ?_⟩
    rcases g3' with h | h
    · cases h; exact .inl rfl
    · cases h; exact .inr rfl
theorem run_bs0 (w : World) : (Instr.buildSlice 32 0 #[]).run Try.prog w = .ok (.slice (some ⟨w.heap.size, 0, none⟩) 0 0) (w.alloc (.cells #[] 5)) := by kernel_rfl
theorem run_flt (nx now n : Int) (f : Bool) (w : World) : (Instr.build 51 #[(0, .int .i64 nx), (1, .int .i64 now), (2, .int .i64 n), (3, .bool f)]).run Try.prog w = .ok (.agg #[.int .i64 nx, .int .i64 now, .int .i64 n, .bool f]) w := by kernel_rfl
theorem run_rpk (nx now n : Int) (f : Bool) (g m c : Nat) (w : World) : (Instr.build 109 #[(0, .agg #[.int .i64 nx, .int .i64 now, .int .i64 n, .bool f]), (1, .slice (some ⟨g, 0, none⟩) m c)]).run Try.prog w = .ok (.agg #[.int .i64 nx, .int .i64 now, .int .i64 n, .bool f, .slice (some ⟨g, 0, none⟩) m c]) w := by kernel_rfl
theorem run_bsQ (nx now n : Int) (f : Bool) (g m c : Nat) (w : World) : (Instr.buildSlice 103 1 #[(0, .agg #[.int .i64 nx, .int .i64 now, .int .i64 n, .bool f, .slice (some ⟨g, 0, none⟩) m c])]).run Try.prog w = .ok (.slice (some ⟨w.heap.size, 0, none⟩) 1 1) (w.alloc (.cells #[.int .i64 nx, .int .i64 now, .int .i64 n, .bool f, .slice (some ⟨g, 0, none⟩) m c] 109)) := by kernel_rfl
/-- a packet is appended to a row of the document's -/
theorem app_q {w : World} {base : Nat} {v : Value} {Y : List Pq} {x : Pq} {g : Nat} (h : w.ownsRow base 109 5 v Y.length (qcs Y)) (hb : base ≤ w.heap.size) (hL : Y.length ≤ 100000) (hN : Has w g (qa x) 109) (ty : TypeId) :
    ∃ v' w2, (Builtin.append_ #[103, 103] ty #[v, .slice (some ⟨g, 0, none⟩) 1 1]).run Try.prog w = .ok v' w2 ∧ w2.ownsRow base 109 5 v' (Y ++ [x]).length (qcs (Y ++ [x])) ∧ w.grownBy w2 v.ownBlock ∧ (v'.ownBlock = v.ownBlock ∨ v'.ownBlock = some w.heap.size) := by
  obtain ⟨v', w2, hr, g1, g2, g3⟩ := Ba.append_at (P := Try.prog) (ty := ty) (m := 1) (c := 1) (ad := ⟨g, 0, none⟩) (news := qc x) Try.underlying103 info_rp rfl (by decide) h rfl
    (fun j u hj => by rw [addr_add]; exact hN.cell j (by rw [← hj]; exact (List.getElem?_toArray (xs := qc x) (i := j)))) (qc_one x) (.inl (by decide)) (by unfold maxLen; omega) (by omega) hb
  refine ⟨v', w2, hr, ?_, g2, g3⟩
  rw [List.length_append, show qcs (Y ++ [x]) = qcs Y ++ qc x by unfold qcs; rw [List.flatMap_append]; simp]
  exact g1
/-- worlds while a packet is laid behind the others -/
structure RpA (base : Nat) (W1 : World) (r : Nat) (rv ov : Value) (rb : Nat → Nat) (vs : Nat → Nat → Value) (X : Nat → Nat → List Pq) (S1 : St) (i e n : Nat) (pk : Pk) (k : Nat) (x : Nat × Nat × Nat × Value) (w' : World) : Prop where
  bel : k ≤ 3 → Below W1.heap.size W1 w'
  h0 : k = 0 → w' = W1.drew
  h1 : k = 1 → w' = W1.drew.alloc (.cells #[] 5)
  h2 : k = 2 ∨ k = 3 → Bq base w' (pk, x.1, x.2.1) ∧ W1.heap.size ≤ x.1 ∧ pk.bs.length = n
  h3 : k = 3 → Has w' x.2.2.1 (qa (pk, x.1, x.2.1)) 109
  h4 : k = 4 → ∃ w3, Below W1.heap.size W1 w3 ∧ Bq base w3 (pk, x.1, x.2.1) ∧ W1.heap.size ≤ x.1 ∧ w'.ownsRow base 109 5 x.2.2.2 (X i e ++ [(pk, x.1, x.2.1)]).length (qcs (X i e ++ [(pk, x.1, x.2.1)])) ∧ w3.grownBy w' (vs i e).ownBlock ∧ (x.2.2.2.ownBlock = (vs i e).ownBlock ∨ x.2.2.2.ownBlock = some w3.heap.size)
  h5 : k = 5 → Ros base W1 r (S1.row i e ⟨(S1.R i e).T, (S1.R i e).L ++ [pk]⟩) w'
section
variable {base : Nat} {W1 w' : World} {r : Nat} {rv ov : Value} {rb : Nat → Nat} {vs : Nat → Nat → Value} {X : Nat → Nat → List Pq} {S1 : St} {i e n : Nat} {pk : Pk} {x : Nat × Nat × Nat × Value}
theorem RpA.two (h : RpA base W1 r rv ov rb vs X S1 i e n pk 1 x w') {a : Option Addr} {cap : Nat} (hby : By base W1 a n pk.bs) (hnil : a = none → cap = 0) (hbase : base ≤ W1.heap.size) (hn : n ≤ 65536) :
    ∃ g' c' w2, (Builtin.append_ #[32, 32] 32 #[.slice (some ⟨W1.heap.size, 0, none⟩) 0 0, .slice a n cap]).run Try.prog w' = .ok (.slice (some ⟨g', 0, none⟩) n c') w2 ∧ RpA base W1 r rv ov rb vs X S1 i e n pk (1 + 1) (g', c', x.2.2.1, x.2.2.2) w2 := by
  have hB := h.bel (by decide)
  have hw := h.h1 rfl
  have hE : w'.ownsRow base 5 1 (.slice (some ⟨W1.heap.size, 0, none⟩) 0 0) 0 [] := by
    rw [hw]; exact World.ownsRow_made W1.drew #[] 0 hbase (by unfold maxLen; omega) rfl
  obtain ⟨g', c', w2, hr, g1, g2, g3⟩ := app_bytes hE (Nat.le_trans hbase hB.size) (hby.later hB) hnil hn 32
  have hO : Only [W1.heap.size] w' w2 := Only.grown g2 (by intro k hk; simp at hk; simp [hk])
  have hB2 : Below W1.heap.size W1 w2 := hB.trans (hO.below hB.size (by simp))
  refine ⟨g', c', w2, hr, fun _ => hB2, fun e => absurd e (by decide), fun e => absurd e (by decide), fun _ => ⟨?_, ?_, hby.1⟩, fun e => absurd e (by decide), fun e => absurd e (by decide), fun e => absurd e (by decide)⟩
  · unfold Bq
    rw [hby.1]
    exact g1
  · have := hB.size
    rcases g3 with e | e
    · rw [e]; exact Nat.le_refl _
    · rw [e]; exact this
theorem RpA.three (h : RpA base W1 r rv ov rb vs X S1 i e n pk 2 x w') :
    ∃ g' w2, (Instr.buildSlice 103 1 #[(0, .agg #[.int .i64 pk.id, .int .i64 pk.sent, .int .i64 pk.len, .bool pk.forged, .slice (some ⟨x.1, 0, none⟩) n x.2.1])]).run Try.prog w' = .ok (.slice (some ⟨g', 0, none⟩) 1 1) w2 ∧ RpA base W1 r rv ov rb vs X S1 i e n pk (2 + 1) (x.1, x.2.1, g', x.2.2.2) w2 ∧ Below w'.heap.size w' w2 := by
  have hB := h.bel (by decide)
  obtain ⟨h1, h2, h3⟩ := h.h2 (.inl rfl)
  have hB2 : Below w'.heap.size w' (w'.alloc (.cells #[.int .i64 pk.id, .int .i64 pk.sent, .int .i64 pk.len, .bool pk.forged, .slice (some ⟨x.1, 0, none⟩) n x.2.1] 109)) := (Below.refl _ _).alloc (Nat.le_refl _) _
  refine ⟨_, _, run_bsQ pk.id pk.sent pk.len pk.forged x.1 n x.2.1 w', ⟨fun _ => hB.trans (hB2.mono hB.size), fun e => absurd e (by decide), fun e => absurd e (by decide), fun _ => ⟨World.ownsRow.alloc h1 _, h2, h3⟩, fun _ => ?_, fun e => absurd e (by decide), fun e => absurd e (by decide)⟩, hB2⟩
  have := Has.new w' #[.int .i64 pk.id, .int .i64 pk.sent, .int .i64 pk.len, .bool pk.forged, .slice (some ⟨x.1, 0, none⟩) n x.2.1] 109
  unfold qa
  rw [h3]
  exact this
theorem RpA.four (h : RpA base W1 r rv ov rb vs X S1 i e n pk 3 x w') (hR : Ro base W1 r rv ov rb vs X S1) (hL : (X i e).length ≤ 100000) (hbase : base ≤ W1.heap.size) (ty : TypeId) :
    ∃ v' w2, (Builtin.append_ #[103, 103] ty #[vs i e, .slice (some ⟨x.2.2.1, 0, none⟩) 1 1]).run Try.prog w' = .ok v' w2 ∧ RpA base W1 r rv ov rb vs X S1 i e n pk (3 + 1) (x.1, x.2.1, x.2.2.1, v') w2 ∧ Only (vs i e).ownBlock.toList w' w2 := by
  have hB := h.bel (by decide)
  obtain ⟨h1, h2, h3⟩ := h.h2 (.inr rfl)
  obtain ⟨v', w2, hr, g1, g2, g3⟩ := app_q ((hR.later hB).own i e) (Nat.le_trans hbase hB.size) hL (h.h3 rfl) ty
  exact ⟨v', w2, hr, ⟨fun e => absurd e (by decide), fun e => absurd e (by decide), fun e => absurd e (by decide), fun e => absurd e (by decide), fun e => absurd e (by decide), fun _ => ⟨w', hB, h1, h2, g1, g2, g3⟩, fun e => absurd e (by decide)⟩, Only.grown g2 (by intro k hk; simp [hk])⟩
theorem RpA.five (h : RpA base W1 r rv ov rb vs X S1 i e n pk 4 x w') (hR : Ro base W1 r rv ov rb vs X S1) (hi : i < S1.p) (he : e < 2) {gr : Nat} (hgr : gr = rb i) :
    (Instr.storeAt 103 (.pointer (some ⟨gr, e * 5, none⟩)) x.2.2.2).run Try.prog w' = .ok () (w'.setCell ⟨gr, e * 5, none⟩ x.2.2.2) ∧ RpA base W1 r rv ov rb vs X S1 i e n pk (4 + 1) x (w'.setCell ⟨gr, e * 5, none⟩ x.2.2.2) := by
  subst hgr
  obtain ⟨w3, hB, hq, hg, hown, hgb, hblk⟩ := h.h4 rfl
  have hR3 := hR.later hB
  have hO : Only (vs i e).ownBlock.toList w3 w' := Only.grown hgb (by intro k hk; simp [hk])
  have hnw : x.1 ∉ (X i e).map (·.2.1) := fun hm => by
    obtain ⟨y, hy, ey⟩ := List.mem_map.1 hm
    have := hR.blt i e y hy
    omega
  obtain ⟨hF, hK⟩ := hR3.turn hi he hO (n0 := W1.heap.size) hown (fun k hk => by
    rcases hblk with e | e
    · exact .inl (by rw [← e]; exact hk)
    · rw [e] at hk; cases hk; exact .inr (Nat.le_refl _)) (fun i e y hy => hR.blt i e y hy) (by
      rw [List.map_append, List.nodup_append]
      refine ⟨hR.bn i e, by simp, fun a ha b hb => ?_⟩
      simp at hb
      subst hb
      intro eab
      exact hnw (by rw [← eab]; exact ha)) (fun y hy => by
      rcases List.mem_append.1 hy with hy | hy
      · exact .inl ⟨y, hy, rfl⟩
      · simp at hy; rw [hy]; exact .inr hg) (fun y hy => by
      rcases List.mem_append.1 hy with hy | hy
      · exact hR3.byt i e y hy
      · simp at hy; rw [hy]; exact hq)
  obtain ⟨cs, hcs⟩ := (hR3.row i hi).has
  have hcs1 : Has w' (rb i) cs 105 := hcs.stay hO (fun hm => own_ne (hR3.own i e) hcs (by decide) _ (by simpa using hm) rfl)
  have c4 : ∃ u, w'.cell? ⟨rb i, e * 5, none⟩ = some u := by
    have := ((hR3.row i hi).move (w' := w') (fun cs hc => hc.stay hO (fun hm => own_ne (hR3.own i e) hc (by decide) _ (by simpa using hm) rfl))).cell he 0 rfl
    rw [Nat.add_zero] at this
    exact ⟨_, this⟩
  obtain ⟨u, c4⟩ := c4
  have f4 := hcs1.frozen (e * 5)
  obtain ⟨a, cap, hx⟩ := own_len hown
  rw [List.map_append, hR.eq i e] at hF
  have hst : ∀ v a n cap, v = Value.slice a n cap → (Instr.storeAt 103 (.pointer (some ⟨rb i, e * 5, none⟩)) v).run Try.prog w' = .ok () (w'.setCell ⟨rb i, e * 5, none⟩ v) := fun v a n cap hv => by
    rw [hv]
    simp [go_sem, c4, f4]
  refine ⟨hst _ _ _ _ hx, fun e => absurd e (by decide), fun e => absurd e (by decide), fun e => absurd e (by decide), fun e => absurd e (by decide), fun e => absurd e (by decide), fun e => absurd e (by decide), fun _ => ⟨⟨rv, ov, rb, _, _, hF⟩, (Kept.of_below hB).trans hK⟩⟩
end
section
variable {base : Nat} {w w' w1 : World} {r : Nat} {rv ov : Value} {rb : Nat → Nat} {vs : Nat → Nat → Value} {X : Nat → Nat → List Pq} {S : St} {i e : Nat}
/-- what the document's Send and Forge leave -/
def RlO (base : Nat) (w : World) (r : Nat) (S : St) (en path now : Int) (bs : List Int) (f : Bool) (e : Ending) (w' : World) : Prop :=
  e = .returned (.tuple #[.int .i64 (laI S en path now bs.length), .int .i64 (laE S en path now bs.length)]) ∧ Ros base w r (laS S en path now bs f) w'
theorem rl_bad (h : Ro base w r rv ov rb vs X S) {en path now : Int} {bs : List Int} {f : Bool} {c : Int} (hc : laE S en path now bs.length = c) (h0 : c ≠ 0) : RlO base w r S en path now bs f (.returned (.tuple #[.int .i64 0, .int .i64 c])) w := by
  have hl : laS S en path now bs f = S := by unfold laS; rw [hc]; exact if_neg h0
  have hi : laI S en path now bs.length = 0 := by unfold laI; rw [hc]; exact if_neg h0
  refine ⟨by rw [hc, hi], ⟨rv, ov, rb, vs, X, ?_⟩, Kept.refl _ _ _⟩
  rw [hl]
  exact h
theorem rput_no (h : Ro base w r rv ov rb vs X S) (hI : Inv S) (hn : S.next ≤ 1000) (en path now : Int) {a : Option Addr} {n cap : Nat} {bs : List Int} (hb : By base w a n bs) (f : Bool) (hE : laE S en path now bs.length ≠ 0) :
    Calls Try.prog 47 #[.pointer (some ⟨r, 0, none⟩), .int .i64 en, .int .i64 path, .slice a n cap, .int .i64 now, .bool f] w fun e' w' => RlO base w r S en path now bs f e' w' := by
  have HS := hidden (rHas h hI.p en path)
  have BAD : Hid (∀ c, laE S en path now bs.length = c → c ≠ 0 → RlO base w r S en path now bs f (.returned (.tuple #[.int .i64 0, .int .i64 c])) w) := fun c hc h0 => rl_bad h hc h0
  have hnb : bs.length = n := hb.1
  cases hp : ok S en path with
  | false =>
    have hE9 : Hid (laE S en path now bs.length = 90) := by unfold Hid laE; rw [hp]; rfl
    rw [hp] at HS
    clear h hp hb hnb hE
    go_enter Try.func47, Try.ntmps47
    go_wp2_with fail
    refine Calls.mono HS.out ?_
    rintro e w' ⟨rfl, rfl⟩
    go_wp2
    go_ret2
    exact BAD.out 90 hE9.out (by decide)
  | true =>
    rw [hp] at HS
    by_cases hnow : 0 ≤ now ∧ now ≤ 1099511627776
    · have hlen : ¬ n ≤ 65536 := fun hh => hE (by unfold laE; rw [hp, if_pos rfl, if_pos hnow, if_pos (by omega)])
      have hE9 : Hid (laE S en path now bs.length = 2) := by unfold Hid laE; rw [hp, if_pos rfl, if_pos hnow, if_neg (by omega)]
      clear h hp hb hnb hE
      go_enter Try.func47, Try.ntmps47
      go_wp2_with fail
      refine Calls.mono HS.out ?_
      rintro e w' ⟨rfl, rfl⟩
      go_wp2
      go_ret2
      exact BAD.out 2 hE9.out (by decide)
    · have hE9 : Hid (laE S en path now bs.length = 1) := by unfold Hid laE; rw [hp, if_pos rfl, if_neg hnow]
      clear h hp hb hnb hE
      by_cases hneg : now < 0
      · go_enter Try.func47, Try.ntmps47
        go_wp2_with fail
        refine Calls.mono HS.out ?_
        rintro e w' ⟨rfl, rfl⟩
        go_wp2
        go_ret2
        exact BAD.out 1 hE9.out (by decide)
      · have hbig : 1099511627776 < now := by omega
        go_enter Try.func47, Try.ntmps47
        go_wp2_with fail
        refine Calls.mono HS.out ?_
        rintro e w' ⟨rfl, rfl⟩
        go_wp2
        go_ret2
        exact BAD.out 1 hE9.out (by decide)
end
end Go.Proofs.Ytmogacccffkkbaa.Nt
