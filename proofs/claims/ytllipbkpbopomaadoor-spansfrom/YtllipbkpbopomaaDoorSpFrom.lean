/-
  The set that a report's blocks tell: fill and From.
  Conditions: the row of blocks can be read.
-/
import Derived.Test.YtllipbkpbopomaaDoorSpSorted
namespace Go.Proofs.YtllipbkpbopomaaDoor.Sp
open Go.RowKit Go.Shelf Go.ChangeShapes Go.WideShapes Go.ChangeAt
set_option linter.unusedVariables false
attribute [local go_sem] Oper.semAt_some

/-- after the first k blocks, as far as F -/
def Fil (X : List (Nat × Nat)) (k F : Nat) (L : List Nat) : Prop :=
  Good 2 L ∧ (∀ d, d ∈ L ↔ ∃ g ∈ X.take k, g.1 ≤ d ∧ d ≤ g.2) ∧ (F = 0 ∨ ∃ g ∈ X.take k, g.2 = F) ∧ (∀ d ∈ L, d ≤ F) ∧ F ≤ 65535
theorem fil_zero (X : List (Nat × Nat)) : Fil X 0 0 [] := ⟨good_nil 2, fun d => by simp, .inl rfl, by simp, by omega⟩
theorem good_more {L : List Nat} {F s n : Nat} (h : Good 2 L) (hF : ∀ d ∈ L, d ≤ F) (hs : F < s) (hs2 : 2 ≤ s) (hn : n = 0 ∨ s + n ≤ 65536) : Good 2 (L ++ List.range' s n) := by
  refine ⟨List.pairwise_append.2 ⟨h.1, List.pairwise_lt_range' .., fun a ha b hb => ?_⟩, fun d hd => ?_⟩
  · have h1 := hF a ha
    have h2 := List.mem_range'_1.1 hb
    omega
  · rcases List.mem_append.1 hd with hd | hd
    · exact h.2 d hd
    · have h2 := List.mem_range'_1.1 hd
      omega
theorem fil_next {X : List (Nat × Nat)} {k F : Nat} {L : List Nat} {g : Nat × Nat} (h : Fil X k F L) (hk : X[k]? = some g) (hS : X.Pairwise (fun a b => a.1 ≤ b.1)) (h1 : 2 ≤ g.1) (h2 : g.1 ≤ g.2) (h3 : g.2 < 65536) (s : Nat) (hs : s = max g.1 (F + 1)) :
    Fil X (k + 1) (max F g.2) (L ++ List.range' s (g.2 + 1 - s)) := by
  obtain ⟨hg, hm, hF, hle, hFb⟩ := h
  have htk : X.take (k + 1) = X.take k ++ [g] := by rw [List.take_add_one, hk]; rfl
  refine ⟨good_more hg hle (by omega) (by omega) (by omega), fun d => ?_, ?_, ?_, by omega⟩
  · rw [htk, List.mem_append, hm d, List.mem_range'_1]
    constructor
    · rintro (⟨g', h4, h5⟩ | h4)
      · exact ⟨g', List.mem_append_left _ h4, h5⟩
      · exact ⟨g, by simp, by omega⟩
    · rintro ⟨g', h4, h5⟩
      rcases List.mem_append.1 h4 with h4 | h4
      · exact .inl ⟨g', h4, h5⟩
      · have e : g' = g := by simpa using h4
        subst e
        by_cases h6 : s ≤ d
        · exact .inr (by omega)
        · left
          rcases hF with rfl | ⟨g2, h7, h8⟩
          · omega
          · refine ⟨g2, h7, ?_, by omega⟩
            obtain ⟨i, hi, rfl⟩ := List.mem_iff_getElem.1 h7
            rw [List.length_take] at hi
            have hk2 := (List.getElem?_eq_some_iff.1 hk)
            have h9 := List.pairwise_iff_getElem.1 hS i k (by omega) hk2.1 (by omega)
            rw [hk2.2] at h9
            rw [List.getElem_take]
            omega
  · rw [htk]
    by_cases h4 : F ≤ g.2
    · exact .inr ⟨g, by simp, by omega⟩
    · rcases hF with rfl | ⟨g2, h7, h8⟩
      · omega
      · exact .inr ⟨g2, List.mem_append_left _ h7, by omega⟩
  · intro d hd
    rcases List.mem_append.1 hd with hd | hd
    · have := hle d hd; omega
    · have := List.mem_range'_1.1 hd; omega
theorem ring_mem {R : Nat → Nat} {c : Nat} {L L' : List Nat} (h : Ring R c L) (e : ∀ d, d ∈ L ↔ d ∈ L') : Ring R c L' :=
  ⟨h.1, fun d hd => by rw [h.2 d hd]; exact decide_eq_decide.2 (e d)⟩

/-- L holds what the blocks hold -/
def Uni (X : List (Nat × Nat)) (L : List Nat) : Prop := ∀ d, d ∈ L ↔ ∃ g ∈ X, g.1 ≤ d ∧ d ≤ g.2

/-- the same world but for what was drawn -/
def Alike (w W : World) : Prop := W.heap = w.heap ∧ W.os = w.os ∧ W.tape = w.tape ∧ W.output = w.output
theorem Alike.grown {w W W' : World} {row : Option Nat} (h : Alike w W) (hg : W.grownBy W' row) : w.grownBy W' row :=
  ⟨hg.os.trans h.2.1, hg.tape.trans h.2.2.1, hg.output.trans h.2.2.2, by rw [← h.1]; exact hg.size, fun k hk hne => by rw [← h.1] at hk ⊢; exact hg.block k hk hne⟩
theorem At.cnt {w : World} {b c : Nat} {R : Nat → Nat} {n n' : Int} {m : Bool} (h : At w b R n m c) (e : n = n') : At w b R n' m c := e ▸ h

set_option maxRecDepth 4000 in
theorem fill (w : World) {b c : Nat} (h : IsSet w b c []) (a : Option Addr) (len cap : Nat) (X : List (Nat × Nat)) (hG : RowG w a len X) (hX : X.length ≤ 4096) (hbad : X.any bad = false) :
    Calls Tryd.prog 48 #[.pointer (some ⟨b, 0, none⟩), .slice a len cap] w fun e w' => e = .returned (.tuple #[]) ∧ ∃ L, IsSet w' b c L ∧ Uni X L ∧ Below b w w' := by
  obtain ⟨hc, _, R0, hA, hR⟩ := h
  have hblt := hA.lt
  have HV : Hid _ := fun W => values W a len cap
  go_enter Tryd.func48, Tryd.ntmps48
  go_wp2_with fail
  refine (HV.out _).mono ?_
  rintro e w1 ⟨rfl, hbx, hB1, hlt1⟩
  clear HV
  have hG1 : RowG w1 a len X := hG.later hB1
  have HH : Hid _ := sortedFunc w1 _ X (handsV hbx hlt1 (Nat.le_refl _) hG1.1 hG1.2.2.1 (hG1.2.2.2)) (by omega)
  clear hG1 hbx
  go_wp2_with fail
  refine Calls.mono HH.out ?_
  rintro e w2 ⟨v, rfl, X', hP, hS, hGp, hB2⟩
  clear HH
  obtain ⟨hl', va, vc, rfl, hor⟩ := hGp
  have hlen := hP.length_eq
  have HOR : Hid _ := hor
  clear hor
  have HP : Hid _ := hP
  have HS : Hid _ := hS
  clear hP hS
  have HG : Hid _ := hG
  clear hG
  have HBAD : Hid _ := hbad
  clear hbad
  have hA2 : At w2 b R0 _ true c := (hA.grown (Below.grown0 hB1) (by simp)).grown (Below.grown0 hB2) (by simp)
  go_wp2_with fail
  go_loopw [4, 12] (fun f i wr => ∃ (q F : Int) (L : List Nat) (R : Nat → Nat), 0 ≤ q ∧ q ≤ (X.length : Int) ∧ 0 ≤ F ∧ F ≤ 65535 ∧ f = .int .i64 F ∧ i = .int .i64 q ∧ At wr b R (L.length : Int) true c ∧ Hid (Ring R c L) ∧ Hid (Fil X' q.toNat F.toNat L) ∧ w2.grownBy wr (some b)) (fun f i wr => X.length - (intOf i).toNat)
  case atStart => exact ⟨0, 0, [], R0, by omega, by omega, by omega, by omega, rfl, rfl, hA2, hR, fil_zero X', World.grownBy.refl _ _⟩
  case round =>
    obtain ⟨q, F, L, R, hq0, hq, hF0, hF1, rfl, rfl, hAr, hRr, hFil, hgr⟩ := hrel
    by_cases hlt : q < (X.length : Int)
    · obtain ⟨rb, rfl, hrb, hcs⟩ := HOR.out.resolve_left (by omega)
      have hqn : q.toNat < X'.length := by omega
      have hne : rb ≠ b := fun e => by
        have h1 := (hcs 0 (by omega)).1
        have h2 := hA2.ring 0 (by decide)
        rw [e] at h1
        rw [show 0 * 2 = 0 from rfl, h2] at h1
        cases h1
      have k0 := hgr.cell (hcs q.toNat hqn).1 (by simpa using hne)
      have k1 := hgr.cell (hcs q.toNat hqn).2 (by simpa using hne)
      clear hcs
      have hgk : X'[q.toNat]? = some (X'.getD q.toNat (0, 0)) := by
        rw [List.getD_eq_getElem?_getD, List.getElem?_eq_getElem (by omega)]; rfl
      generalize X'.getD q.toNat (0, 0) = gp at k0 k1 hgk
      obtain ⟨x, y⟩ := gp
      have hxm : (x, y) ∈ X := HP.out.mem_iff.1 (List.mem_of_getElem? hgk)
      have hy : y < 65536 := (HG.out.2.1 _ hxm).2
      have hxy : 2 ≤ x ∧ x ≤ y := by
        have h1 := List.any_eq_false.1 HBAD.out _ hxm
        simp [bad] at h1
        exact h1
      obtain ⟨hx2, hxy⟩ := hxy
      have HK : Hid _ := hgk
      clear hgk hxm
      simp only at k0 k1
      go_wp2_with fail
      obtain ⟨S, hS⟩ : ∃ S : Int, max (x : Int) (F + 1) = S := ⟨_, rfl⟩
      have HS2 : Hid _ := hS
      have hS1 : 2 ≤ S := by omega
      have hS3 : F + 1 ≤ S := by omega
      have hS4 : S ≤ 65536 := by omega
      rw [hS]
      clear hS
      obtain ⟨W3, hW3⟩ : ∃ W3, wr.alloc (Obj.cells #[Value.int IntKind.u16 (x : Int), Value.int IntKind.u16 (y : Int)] 76) = W3 := ⟨_, rfl⟩
      have hgb : GapBox W3 wr.heap.size (x, y) := by rw [← hW3]; exact GapBox.new wr (x, y)
      have hA3 : At W3 b R (L.length : Int) true c := by rw [← hW3]; exact hAr.grown (World.grownBy_alloc _ _ none) (by simp)
      have hg3 : w2.grownBy W3 (some b) := by rw [← hW3]; exact hgr.trans (World.grownBy_alloc _ _ _)
      have hbne : wr.heap.size ≠ b := by have := hAr.lt; omega
      rw [hW3]
      clear hW3 k0 k1
      have e3 := hgb.start
      have e4 := hgb.stop
      simp only at e3 e4
      clear hgb hAr
      generalize wr.heap.size = Bx at e3 e4 hbne ⊢
      go_loopw [7] (fun d wi => ∃ (t : Int) (n : Nat) (R' : Nat → Nat), S ≤ t ∧ (t = S ∨ t ≤ (y : Int) + 1) ∧ Hid (t = S + n) ∧ d = .int .i64 t ∧ At wi b R' ((L ++ List.range' S.toNat n).length : Int) true c ∧ Hid (Ring R' c (L ++ List.range' S.toNat n)) ∧ W3.grownBy wi (some b)) (fun d wi => 65537 - (intOf d).toNat)
      case atStart => exact ⟨S, 0, R, by omega, .inl rfl, show S = S + (0 : Nat) by omega, rfl, by simpa using hA3, (by unfold Hid; simpa using hRr.out), World.grownBy.refl _ _⟩
      case round =>
        obtain ⟨t, n, R', ht0, ht1, htn, rfl, hAi, hRi, hgi⟩ := hrel
        have k3 := hgi.cell e3 (by simpa using hbne)
        have k4 := hgi.cell e4 (by simpa using hbne)
        by_cases hty : t ≤ (y : Int)
        · clear ht1
          obtain ⟨T, hT⟩ : ∃ T : Nat, Hid (T = (c + t.toNat) % 4294967296) := ⟨_, rfl⟩
          have hTl : T < 4294967296 := by have := hT.out; omega
          have hgd : Good 2 (L ++ List.range' S.toNat n) := good_more hFil.out.1 hFil.out.2.2.2.1 (by omega) (by omega) (by have := htn.out; omega)
          have hcn := good_len hgd
          have C1 : Hid (∀ W : World, Alike wr W → Calls Tryd.prog 50 #[.pointer (some ⟨b, 0, none⟩), .int .i64 t] W fun e w' => e = .returned (.int .u32 (T : Int)) ∧ W = w') := fun W hW => by
            have h9 := at_ t.toNat (by omega) W (hAi.of_block (by rw [hW.1])) hc
            rw [Int.toNat_of_nonneg (by omega), ← hT.out] at h9
            exact h9
          have C2 : Hid (∀ W : World, Alike wr W → Calls Tryd.prog 37 #[.pointer (some ⟨b, 0, none⟩), .int .u32 (T : Int)] W fun e w' => e = .returned (.tuple #[]) ∧ (∃ R2, At w' b R2 ((L ++ List.range' S.toNat (n + 1)).length : Int) true c ∧ Ring R2 c (L ++ List.range' S.toNat (n + 1))) ∧ wr.grownBy w' (some b)) := fun W hW => by
            refine (put T hTl W (hAi.of_block (by rw [hW.1])) hRi.out.1 (by omega)).mono ?_
            rintro e w' ⟨rfl, h1, h2⟩
            refine ⟨rfl, ⟨_, h1.cnt (by simp; omega), ?_⟩, hW.grown h2⟩
            · have h3 := ring_ins (d := t.toNat) hRi.out (by omega)
              rw [show (c + t.toNat) % 65536 = T % 65536 by have := hT.out; omega] at h3
              refine ring_mem h3 fun d => ?_
              have := htn.out
              rw [mem_ins, List.mem_append, List.mem_append, List.mem_range'_1, List.mem_range'_1]
              constructor
              · rintro (h | h | h)
                · exact .inr (by omega)
                · exact .inl h
                · exact .inr (by omega)
              · rintro (h | h)
                · exact .inr (.inl h)
                · by_cases h8 : d = t.toNat
                  · exact .inl h8
                  · exact .inr (.inr (by omega))
          clear hAi hgd hcn
          go_wp2_with fail
          go_region_with (first
            | (go_at_call 50; refine Calls.mono (C1.out _ ⟨rfl, rfl, rfl, rfl⟩) ?_; rintro e w' ⟨rfl, rfl⟩)
            | (go_at_call 37; refine Calls.mono (C2.out _ ⟨rfl, rfl, rfl, rfl⟩) ?_; rintro e w' ⟨rfl, ⟨R2, a2, r2⟩, g2⟩))
          all_goals go_wp2
          all_goals go_roundw
          case rel => exact ⟨t + 1, n + 1, R2, by omega, .inr (by omega), show _ = _ by have := htn.out; omega, rfl, a2, r2, hgi.trans g2⟩
          case measure => simp only [intOf]; omega
        · have hfin : Hid (Fil X' (q + 1).toNat (max F (y : Int)).toNat (L ++ List.range' S.toNat n)) := by
            have h9 := fil_next hFil.out HK.out HS.out hx2 hxy hy S.toNat (by have := HS2.out; simp only; omega)
            have := htn.out
            rw [show (q + 1).toNat = q.toNat + 1 by omega, show (max F (y : Int)).toNat = max F.toNat y by omega, show n = y + 1 - S.toNat by omega]
            exact h9
          clear ht1
          go_wp2
          exact ⟨⟨q + 1, max F (y : Int), _, R', by omega, by omega, by omega, by omega, rfl, rfl, hAi, hRi, hfin, hg3.trans hgi⟩, by simp only [intOf]; omega⟩
    · have hqe : Hid (q.toNat = X'.length) := by unfold Hid; omega
      go_wp2
      go_end0
      refine ⟨rfl, L, ⟨hc, hFil.out.1, R, hAr, hRr.out⟩, fun d => ?_, ((hB1.mono (by omega)).trans (hB2.mono (by omega))).trans (grownS.below hgr (Nat.le_refl _) (by have := hB2.size; omega))⟩
      rw [hFil.out.2.1 d, hqe.out, List.take_length]
      exact ⟨fun ⟨g, h1, h2⟩ => ⟨g, HP.out.mem_iff.1 h1, h2⟩, fun ⟨g, h1, h2⟩ => ⟨g, HP.out.mem_iff.2 h1, h2⟩⟩
theorem from_many (w : World) (c : Nat) (a : Option Addr) (len cap : Nat) (hm : 4096 < len) :
    Calls Tryd.prog 26 #[.int .u32 (c : Int), .slice a len cap] w fun e w' => e = .returned (.tuple #[.pointer none, .int .i64 3]) ∧ w' = w := by
  go_enter Tryd.func26, Tryd.ntmps26
  go_wp2
  go_ret2
  exact ⟨rfl, rfl⟩
theorem from_bad (w : World) (c : Nat) (a : Option Addr) (len cap : Nat) (X : List (Nat × Nat)) (hG : RowG w a len X) (hm : len ≤ 4096) (hb : X.any bad = true) :
    Calls Tryd.prog 26 #[.int .u32 (c : Int), .slice a len cap] w fun e w' => e = .returned (.tuple #[.pointer none, .int .i64 30]) ∧ Below w.heap.size w w' := by
  have HC : Hid _ := containsFunc w a len cap X hG
  rw [hb] at HC
  clear hG hb
  go_enter Tryd.func26, Tryd.ntmps26
  go_wp2_with fail
  refine Calls.mono HC.out ?_
  rintro e w' ⟨rfl, hB⟩
  go_wp2
  go_ret2
  exact ⟨rfl, hB⟩
theorem from_good (w : World) (c : Nat) (hc : c < 4294967296) (a : Option Addr) (len cap : Nat) (X : List (Nat × Nat)) (hG : RowG w a len X) (hm : len ≤ 4096) (hb : X.any bad = false) :
    Calls Tryd.prog 26 #[.int .u32 (c : Int), .slice a len cap] w fun e w' => ∃ b L, w.heap.size ≤ b ∧ e = .returned (.tuple #[.pointer (some ⟨b, 0, none⟩), .int .i64 0]) ∧ IsSet w' b c L ∧ Uni X L ∧ Below w.heap.size w w' := by
  have HC : Hid _ := containsFunc w a len cap X hG
  rw [hb] at HC
  have HG : Hid _ := hG
  have HB : Hid _ := hb
  have hl := hG.1
  clear hG hb
  go_enter Tryd.func26, Tryd.ntmps26
  go_wp2_with fail
  refine Calls.mono HC.out ?_
  rintro e w1 ⟨rfl, hB1⟩
  go_wp2_with fail
  refine Calls.mono (new_ c hc w1) ?_
  rintro e w2 ⟨rfl, hS2, hg2⟩
  have hB2 := grown0.below hg2
  have HF : Hid _ := fill w2 hS2 a len cap X (RowG.later (RowG.later HG.out hB1) hB2) (by omega) HB.out
  clear HG
  go_wp2_with fail
  refine Calls.mono HF.out ?_
  rintro e w3 ⟨rfl, L, hS3, hU, hB3⟩
  have HU : Hid _ := hU
  clear hU
  go_wp2
  go_ret2
  exact ⟨_, L, hB1.size, rfl, hS3, HU.out, (hB1.trans (hB2.mono hB1.size)).trans (hB3.mono hB1.size)⟩
end Go.Proofs.YtllipbkpbopomaaDoor.Sp
