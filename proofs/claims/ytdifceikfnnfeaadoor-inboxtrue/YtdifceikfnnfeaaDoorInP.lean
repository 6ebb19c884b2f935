/-
  Both boxes side by side: is all that is told of them alike? One act on both.
  Conditions: as at each lemma.
-/
import Derived.Test.YtdifceikfnnfeaaDoorInArgs
import Derived.Test.YtdifceikfnnfeaaDoorInQ
namespace Go.Proofs.YtdifceikfnnfeaaDoor.Sp.Inb
open Go.ChangeShapes Go.WideShapes Go.ChangeAt Go.RowKit
open Ba (hidden Has cell_lt heap_lt)
set_option linter.unusedVariables false
set_option maxRecDepth 20000
/-- both boxes -/
structure Bx (n0 : Nat) (w : World) (b bc bf : Nat) (v : Value) (r bs : Nat) (fx dp : Value) (P : List Nat) (K : Nat) (s : St) : Prop where
  cd : Cd n0 w b bc bf v s
  rf : Rf n0 w r bs fx dp P s
  ok : Ok K s
  sep : ∀ k, v.ownBlock = some k → fx.ownBlock ≠ some k ∧ dp.ownBlock ≠ some k
section
variable {n0 : Nat} {w w1 w2 : World} {b bc bf r bs : Nat} {v v' fx dp fx' dp' : Value} {P P' : List Nat} {s s' : St} {K K' : Nat}
theorem Bx.later (h : Bx n0 w b bc bf v r bs fx dp P K s) (hB : Below w.heap.size w w1) : Bx n0 w1 b bc bf v r bs fx dp P K s := ⟨h.cd.later hB, h.rf.later hB, h.ok, h.sep⟩
theorem Bx.mid (h : Bx n0 w b bc bf v r bs fx dp P K s) (hM : Mod (FC b bc bf v) w w1) : Rf n0 w1 r bs fx dp P s := h.rf.code h.cd hM h.sep
theorem Bx.step (h : Bx n0 w b bc bf v r bs fx dp P K s) (h1 : Cd n0 w1 b bc bf v' s') (m1 : Mod (FC b bc bf v) w w1) (e1 : Newer w v v') (h2 : Rf n0 w2 r bs fx' dp' P' s') (m2 : Mod (FD r bs fx dp) w1 w2) (e2 : Newer w1 fx fx') (e3 : Newer w1 dp dp') (hk : Ok K' s') : Bx n0 w2 b bc bf v' r bs fx' dp' P' K' s' ∧ Below n0 w w2 := by
  have hr1 := h.mid m1
  have hsep : ∀ k, v'.ownBlock = some k → fx.ownBlock ≠ some k ∧ dp.ownBlock ≠ some k := fun k hk => by
    rcases e1 k hk with e | e
    · exact h.sep k e
    · refine ⟨fun e9 => ?_, fun e9 => ?_⟩
      · have := own_old h.rf.f e9; omega
      · have := own_old h.rf.d e9; omega
  refine ⟨⟨Cd.doc hr1 h1 m2 hsep, h2, hk, fun k hk => ?_⟩, (m1.below h.cd.hn h.cd.fc_ge).trans (m2.below (Nat.le_trans h.cd.hn m1.size) hr1.fd_ge)⟩
  have hv := own_old h1.d hk
  refine ⟨fun e9 => ?_, fun e9 => ?_⟩
  · rcases e2 k e9 with e | e
    · exact (hsep k hk).1 e
    · omega
  · rcases e3 k e9 with e | e
    · exact (hsep k hk).2 e
    · omega
end
section
variable {n0 : Nat} {w : World} {b bc bf r bs : Nat} {v fx dp : Value} {P : List Nat} {s : St} {K : Nat}
set_option maxHeartbeats 4000000 in
theorem same (h : Bx n0 w b bc bf v r bs fx dp P K s) : Calls Tryd.prog 12 #[.pointer (some ⟨b, 0, none⟩), .pointer (some ⟨r, 0, none⟩)] w fun e w' => e = .returned (.bool true) ∧ Below w.heap.size w w' := by
  have DU := Due_ h.cd h.ok.n0 h.ok.tz
  have HH := hidden (fun (X : World) (hX : Below w.heap.size w X) => h.later hX)
  obtain ⟨da, dcap, hdv⟩ := Ba.own_len h.rf.d
  have HC := hidden (fun (X : World) (hX : Below w.heap.size w X) => (by
    obtain ⟨ra, rcap, c0, c1, c2, c3, c4, c5, c6, c7, c8, cf, d0, d1⟩ := (HH.out X hX).rf.cells
    exact ⟨hX, c0, hdv ▸ c4, c7, c8, d0⟩ : Below w.heap.size w X ∧ X.cell? ⟨r, 0, none⟩ = some (.pointer (some ⟨bs, 0, none⟩)) ∧ X.cell? ⟨r, 4, none⟩ = some (.slice da s.D.length dcap) ∧ X.cell? ⟨r, 7, none⟩ = some (.bool (decide (0 < s.n))) ∧ X.cell? ⟨r, 8, none⟩ = some (.int .i64 s.time) ∧ X.cell? ⟨bs, 0, none⟩ = some (.int .u32 (s.c : Int))))
  have CU : Hid (∀ X, Below w.heap.size w X → Calls Tryd.prog 16 #[.pointer (some ⟨b, 0, none⟩)] X fun e w' => e = .returned (.int .u32 (s.c : Int)) ∧ X = w') := fun X hX => Cum_ (HH.out X hX).cd
  have CA : Hid (∀ X, Below w.heap.size w X → Calls Tryd.prog 19 #[.pointer (some ⟨b, 0, none⟩)] X fun e w' => ∃ u, e = .returned u ∧ Nums w' u (s.L.map (ts s.c)).length (nf (s.L.map (ts s.c))) ∧ Below w.heap.size w w') := fun X hX =>
    (Above_ (HH.out X hX).cd).mono (by rintro e w' ⟨u, rfl, ho, hB⟩; exact ⟨u, rfl, nums_us ho, hX.trans (hB.mono hX.size)⟩)
  have CB : Hid (∀ (X : World) (u0 : Value), Nums X u0 (s.L.map (ts s.c)).length (nf (s.L.map (ts s.c))) → Below w.heap.size w X → Calls Tryd.prog 18 #[.pointer (some ⟨bs, 0, none⟩)] X fun e w' => ∃ u, e = .returned u ∧ Nums w' u (s.L.map (ts s.c)).length (nf (s.L.map (ts s.c))) ∧ Nums w' u0 (s.L.map (ts s.c)).length (nf (s.L.map (ts s.c))) ∧ Below w.heap.size w w') := fun X u0 h0 hX =>
    (r_all (HH.out X hX).rf).mono (by
      rintro e w' ⟨va, cap, rfl, ho, hB⟩
      refine ⟨_, rfl, nums_us (l := s.L.map (ts s.c)) (by rw [List.length_map]; exact ho), h0.later hB, hX.trans (hB.mono hX.size)⟩)
  have CN : Hid (∀ (X : World) (l : List Nat) (u0 u1 : Value), Nums X u0 l.length (nf l) → Nums X u1 l.length (nf l) → Below w.heap.size w X → Calls Tryd.prog 17 #[u0, u1] X fun e w' => e = .returned (.bool true) ∧ Below w.heap.size w w') := fun X l u0 u1 h0 h1 hX =>
    (numbers X u0 u1 _ _ h0 h1).mono fun e w' k => ⟨k.1, hX.trans (k.2.mono hX.size)⟩
  have CF : Hid (∀ X, Below w.heap.size w X → Calls Tryd.prog 32 #[.pointer (some ⟨b, 0, none⟩)] X fun e w' => ∃ u, e = .returned u ∧ Nums w' u (s.F.map (ts s.c)).length (nf (s.F.map (ts s.c))) ∧ Below w.heap.size w w') := fun X hX =>
    (Fixed_ (HH.out X hX).cd).mono (by rintro e w' ⟨u, rfl, ho, hB⟩; exact ⟨u, rfl, nums_us ho, hX.trans (hB.mono hX.size)⟩)
  have CG : Hid (∀ (X : World) (u0 : Value), Nums X u0 (s.F.map (ts s.c)).length (nf (s.F.map (ts s.c))) → Below w.heap.size w X → Calls Tryd.prog 27 #[.pointer (some ⟨r, 0, none⟩)] X fun e w' => ∃ u, e = .returned u ∧ Nums w' u (s.F.map (ts s.c)).length (nf (s.F.map (ts s.c))) ∧ Nums w' u0 (s.F.map (ts s.c)).length (nf (s.F.map (ts s.c))) ∧ Below w.heap.size w w') := fun X u0 h0 hX =>
    (r_Fixed (HH.out X hX).rf h.ok).mono (by rintro e w' ⟨u, rfl, ho, hB⟩; exact ⟨u, rfl, nums_us ho, h0.later hB, hX.trans (hB.mono hX.size)⟩)
  have CD : Hid (∀ X, Below w.heap.size w X → Calls Tryd.prog 33 #[.pointer (some ⟨b, 0, none⟩)] X fun e w' => ∃ u, e = .returned u ∧ Nums w' u s.D.length (nf s.D) ∧ Nums w' (.slice da s.D.length dcap) s.D.length (nf s.D) ∧ Below w.heap.size w w') := fun X hX =>
    (Dups_ (HH.out X hX).cd h.ok.dk).mono (by
      rintro e w' ⟨u, rfl, ho, hB⟩
      refine ⟨u, rfl, nums_us ho, ?_, hX.trans (hB.mono hX.size)⟩
      have := nums_us (HH.out X hX).rf.d
      rw [hdv] at this
      exact this.later hB)
  have hT : (0 < s.n ∨ s.n = 0) := by have := h.ok.n0; omega
  have htz := h.ok.tz
  clear h hdv
  obtain ⟨BB, TT, hB, hbt⟩ : ∃ (BB : Bool) (TT : Int), Hid (decide (0 < s.n) = BB) ∧ ((BB = true ∧ TT = s.time) ∨ (BB = false ∧ TT = 0 ∧ s.time = 0)) := by
    rcases hT with hT | hT
    · exact ⟨true, _, decide_eq_true hT, .inl ⟨rfl, rfl⟩⟩
    · exact ⟨false, 0, decide_eq_false (by omega), .inr ⟨rfl, rfl, htz hT⟩⟩
  rw [hB.out] at HC DU
  generalize hTI : s.time = T at *
  generalize hl1 : s.L.map (ts s.c) = l1 at *
  generalize hl2 : s.F.map (ts s.c) = l2 at *
  generalize hl3 : s.D = l3 at *
  generalize hcI : (s.c : Int) = cI at *
  have DU := hidden DU
  clear hl1 hl2 hl3 hTI hcI hB hT htz HH
  obtain ⟨-, c0, c4, c7, c8, d0⟩ := HC.out w (Below.refl _ _)
  rcases hbt with ⟨hb1, hb2⟩ | ⟨hb1, hb2, hb3⟩
  · rw [hb1] at c7 DU
    have H1 := hidden hb1
    clear hb1 hb2
    go_enter Tryd.func12, Tryd.ntmps12
    go_wp2_with fail
    refine Calls.mono DU.out ?_
    rintro e w' ⟨rfl, rfl⟩
    go_wp2_with fail
    rw [H1.out] at HC
    go_region_held3 (fun X => Below w.heap.size w X ∧ X.cell? ⟨r, 0, none⟩ = some (.pointer (some ⟨bs, 0, none⟩)) ∧ X.cell? ⟨r, 4, none⟩ = some (.slice da l3.length dcap) ∧ X.cell? ⟨r, 7, none⟩ = some (.bool true) ∧ X.cell? ⟨r, 8, none⟩ = some (.int .i64 T) ∧ X.cell? ⟨bs, 0, none⟩ = some (.int .u32 cI))
      (first | (exact HC.out _ (below_drew (Below.refl _ _))) | (exact HC.out _ (by assumption)))
      (first
        | (go_at_call 16; refine Calls.mono (CU.out _ ?_) ?_; (first | assumption | exact below_drew (Below.refl _ _)); rintro e w' ⟨rfl, rfl⟩)
        | (go_at_call 19; refine Calls.mono (CA.out _ ?_) ?_; (first | assumption | exact below_drew (Below.refl _ _)); rintro e x3 ⟨u3, rfl, n3, b3⟩)
        | (go_at_call 18; refine Calls.mono (CB.out _ u3 n3 b3) ?_; rintro e x4 ⟨u4, rfl, n4, n4', b4⟩)
        | (go_at_call 17; with_reducible refine Calls.mono (CN.out _ _ u3 u4 n4' n4 b4) ?_; rintro e x5 ⟨rfl, b5⟩)
        | (go_at_call 32; refine Calls.mono (CF.out _ b5) ?_; rintro e x6 ⟨u6, rfl, n6, b6⟩)
        | (go_at_call 27; refine Calls.mono (CG.out _ u6 n6 b6) ?_; rintro e x7 ⟨u7, rfl, n7, n7', b7⟩)
        | (go_at_call 17; with_reducible refine Calls.mono (CN.out _ _ u6 u7 n7' n7 b7) ?_; rintro e x8 ⟨rfl, b8⟩)
        | (go_at_call 33; refine Calls.mono (CD.out _ b8) ?_; rintro e x9 ⟨u9, rfl, n9, n9', b9⟩)
        | (go_at_call 17; with_reducible refine Calls.mono (CN.out _ _ u9 _ n9 n9' b9) ?_; rintro e x10 ⟨rfl, b10⟩))
    all_goals (go_wp2; go_ret; exact ⟨rfl, b10⟩)
  · rw [hb1] at c7 DU
    rw [hb3] at DU
    have H1 := hidden hb1
    clear hb1 hb2 hb3
    go_enter Tryd.func12, Tryd.ntmps12
    go_wp2_with fail
    refine Calls.mono DU.out ?_
    rintro e w' ⟨rfl, rfl⟩
    go_wp2_with fail
    rw [H1.out] at HC
    go_region_held3 (fun X => Below w.heap.size w X ∧ X.cell? ⟨r, 0, none⟩ = some (.pointer (some ⟨bs, 0, none⟩)) ∧ X.cell? ⟨r, 4, none⟩ = some (.slice da l3.length dcap) ∧ X.cell? ⟨r, 7, none⟩ = some (.bool false) ∧ X.cell? ⟨r, 8, none⟩ = some (.int .i64 T) ∧ X.cell? ⟨bs, 0, none⟩ = some (.int .u32 cI))
      (first | (exact HC.out _ (below_drew (Below.refl _ _))) | (exact HC.out _ (by assumption)))
      (first
        | (go_at_call 16; refine Calls.mono (CU.out _ ?_) ?_; (first | assumption | exact below_drew (Below.refl _ _)); rintro e w' ⟨rfl, rfl⟩)
        | (go_at_call 19; refine Calls.mono (CA.out _ ?_) ?_; (first | assumption | exact below_drew (Below.refl _ _)); rintro e x3 ⟨u3, rfl, n3, b3⟩)
        | (go_at_call 18; refine Calls.mono (CB.out _ u3 n3 b3) ?_; rintro e x4 ⟨u4, rfl, n4, n4', b4⟩)
        | (go_at_call 17; with_reducible refine Calls.mono (CN.out _ _ u3 u4 n4' n4 b4) ?_; rintro e x5 ⟨rfl, b5⟩)
        | (go_at_call 32; refine Calls.mono (CF.out _ b5) ?_; rintro e x6 ⟨u6, rfl, n6, b6⟩)
        | (go_at_call 27; refine Calls.mono (CG.out _ u6 n6 b6) ?_; rintro e x7 ⟨u7, rfl, n7, n7', b7⟩)
        | (go_at_call 17; with_reducible refine Calls.mono (CN.out _ _ u6 u7 n7' n7 b7) ?_; rintro e x8 ⟨rfl, b8⟩)
        | (go_at_call 33; refine Calls.mono (CD.out _ b8) ?_; rintro e x9 ⟨u9, rfl, n9, n9', b9⟩)
        | (go_at_call 17; with_reducible refine Calls.mono (CN.out _ _ u9 _ n9 n9' b9) ?_; rintro e x10 ⟨rfl, b10⟩))
    all_goals (go_wp2; go_ret; exact ⟨rfl, b10⟩)
end
end Go.Proofs.YtdifceikfnnfeaaDoor.Sp.Inb
