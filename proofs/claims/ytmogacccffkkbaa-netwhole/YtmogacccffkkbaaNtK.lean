/-
  Deliver and Drop, as they are called.
  Conditions: the network lies in memory.
-/
import Derived.Test.YtmogacccffkkbaaNtJ
import Derived.Lib.ConvBytes
namespace Go.Proofs.Ytmogacccffkkbaa.Nt
open Go.ChangeShapes Go.WideShapes Go.ChangeAt Go.RowKit
open Ba (hidden Only In Has own_ne own_stay own_len own_some own_mono cell_lt heap_lt)
set_option linter.unusedVariables false
theorem str_size (bs : List Int) : (strOfNums bs).size = bs.length := by
  show (strOfNums bs).data.size = _
  rw [← Array.length_toList, strOfNums_data, List.length_map]
theorem str_at {bs : List Int} (hb : Bytes bs) {j : Nat} (hj : j < bs.length) : (((strOfNums bs).data.toList.getD j 0).toNat : Int) = bs.getD j 0 := by
  rw [strOfNums_data, List.getD_eq_getElem?_getD, List.getD_eq_getElem?_getD, List.getElem?_map, List.getElem?_eq_getElem hj]
  have := hb _ (List.getElem_mem hj)
  simp
  omega
/-- a text as bytes, in a new block -/
theorem bytes_mk (base : Nat) {bs : List Int} (hb : Bytes bs) : ∃ (cp : World → Nat) (mk : World → World), (∀ w : World, (convert 9 32 (.string (strOfNums bs))).run Try.prog w = .ok (.slice (some ⟨w.heap.size, 0, none⟩) bs.length (cp w)) (mk w)) ∧
    (∀ w : World, By base (mk w) (some ⟨w.heap.size, 0, none⟩) bs.length bs) ∧ (∀ w : World, Below w.heap.size w (mk w)) ∧ (∀ w : World, (mk w).heap.size = w.heap.size + 1) ∧ ∀ (w : World) (j : Nat), j < bs.length → (mk w).frozen? ⟨w.heap.size, j, none⟩ = false := by
  refine ⟨fun w => grownCap w (strOfNums bs).size 0 5, fun w => Lib.bytesWorld w 5 (strOfNums bs), fun w => ?_, fun w => ?_, fun w => ?_, fun w => Lib.bytesWorld_size w 5 _, fun w j hj => ?_⟩
  · have := Lib.run_convert_string_bytes w 9 32 5 (strOfNums bs) Try.underlying9 Try.underlying32 Try.underlying5
    rw [this, str_size]
  · refine ⟨rfl, hb, .inr ⟨w.heap.size, 0, rfl, ?_, .inr ⟨_, _, Lib.bytesWorld_at_new w 5 _⟩, fun j hj => ?_⟩⟩
    · rw [Lib.bytesWorld_size]; omega
    · rw [Nat.zero_add, Lib.bytesWorld_cell w 5 _ j (by rw [str_size]; exact hj), str_at hb hj]
  · exact ⟨rfl, rfl, rfl, by rw [Lib.bytesWorld_size]; omega, fun k hk => Lib.bytesWorld_at_old w 5 _ k hk⟩
  · have hs : j < (Lib.bytesCells w 5 (strOfNums bs)).size := by
      unfold Lib.bytesCells
      have := str_size bs
      have h2 : (strOfNums bs).data.size = bs.length := this
      simp [h2]
      omega
    simp [World.frozen?, Lib.bytesWorld_at_new]
    omega
section
variable {base : Nat} {w w' w1 : World} {t b : Nat} {vs : Nat → Nat → Value} {S : St} {i e : Nat}
/-- what Deliver leaves -/
def DeO (base : Nat) (w : World) (t b : Nat) (S : St) (en path j : Int) (e' : Ending) (w' : World) : Prop :=
  ∃ a cap, e' = .returned (.tuple #[.slice a (dlB S en path j).length cap, .int .i64 (trE S en path j)]) ∧ By base w' a (dlB S en path j).length (dlB S en path j) ∧ (∃ vs', No base w' t b vs' (takeS S en path j dlT)) ∧ Kept TYc base w w'
set_option maxHeartbeats 2000000 in
theorem deliver_ (h : No base w t b vs S) (hI : Inv S) (hn : S.next ≤ 1000) (en path j : Int) :
    Calls Try.prog 15 #[.pointer (some ⟨t, 0, none⟩), .int .i64 en, .int .i64 path, .int .i64 j] w fun e' w' => DeO base w t b S en path j e' w' := by
  by_cases hE : trE S en path j = 0
  · have hpk := (hI.rows path.toNat en.toNat).ok _ (pkAt_mem hE)
    obtain ⟨hp, h0, hj⟩ := trE_iff.1 hE
    have TR := hidden (treat_ok_deliver h hI hn hE (at_ := 0) (bits := 0) (fun h1 => deliver h1 (At.of hp) (hI.rows _ _) hn h0 hj en path 0 0))
    unfold sv at TR
    obtain ⟨q, hq⟩ : ∃ q, q = (S.R path.toNat en.toNat).L.getD j.toNat zpk := ⟨_, rfl⟩
    have hq2 : pkAt S en path j = q := hq.symm
    rw [← hq] at TR
    rw [hq2] at hpk
    obtain ⟨cp, mk, m1, m2, m3, m4, _⟩ := bytes_mk base hpk.1
    have FIN : Hid (∀ (w2 : World) (e' : Ending), DoO base w t b vs (S.row path.toNat en.toNat ⟨dlT (S.R path.toNat en.toNat).T, (S.R path.toNat en.toNat).L.eraseIdx j.toNat⟩) (pv q) 0 e' w2 → ∀ o cap g, g = (w2.alloc o).heap.size → DeO base w t b S en path j (.returned (.tuple #[.slice (some ⟨g, 0, none⟩) q.bs.length cap, .int .i64 0])) (mk (w2.alloc o))) := fun w2 e' hD o cap g hg => by
      obtain ⟨_, ⟨vs', hN, _⟩, hK, _⟩ := hD
      have hB : Below w2.heap.size w2 (mk (w2.alloc o)) := ((Below.refl _ w2).alloc (Nat.le_refl _) o).trans ((m3 _).mono (by simp))
      have e1 : dlB S en path j = q.bs := by unfold dlB; rw [if_pos hE, hq2]
      refine ⟨some ⟨g, 0, none⟩, cap, by rw [e1, hE], by rw [e1, hg]; exact m2 _, ⟨vs', ?_⟩, hK.later hB⟩
      unfold takeS
      rw [if_pos hE]
      exact hN.later hB
    unfold pv at TR FIN
    clear h hpk hE hp h0 hj hq hq2 m2 m3 m4
    go_enter Try.func15, Try.ntmps15
    go_wp2_with fail
    refine Calls.mono TR.out ?_
    intro e' w2 hD
    have HD := hidden (FIN.out _ _ hD)
    obtain rfl := hD.1
    clear hD
    go_wp2
    go_ret2
    exact HD.out _ _ _ (by simp)
  · have TR := hidden (treat_no_deliver h hI hn hE (at_ := 0) (bits := 0))
    unfold sv zv at TR
    have FIN : Hid (∀ (w2 : World), Below w.heap.size w w2 → ∀ o, DeO base w t b S en path j (.returned (.tuple #[.slice none 0 0, .int .i64 (trE S en path j)])) (w2.alloc o)) := fun w2 hB o => by
      have e1 : dlB S en path j = [] := by unfold dlB; rw [if_neg hE]
      have hB2 : Below w.heap.size w (w2.alloc o) := hB.alloc hB.size o
      refine ⟨none, 0, by rw [e1]; rfl, by rw [e1]; exact ⟨rfl, by intro z hz; simp at hz, .inl rfl⟩, ⟨vs, ?_⟩, Kept.of_below hB2⟩
      unfold takeS
      rw [if_neg hE]
      exact h.later hB2
    generalize trE S en path j = c at *
    clear h
    go_enter Try.func15, Try.ntmps15
    go_wp2_with fail
    refine Calls.mono TR.out ?_
    rintro e' w2 ⟨rfl, hB⟩
    have HD := hidden (FIN.out _ hB)
    clear hB
    go_wp2
    go_ret2
    exact HD.out _
/-- what Drop, Spoil leave -/
def ErO (base : Nat) (w : World) (t b : Nat) (S' : St) (c : Int) (e' : Ending) (w' : World) : Prop := e' = .returned (.int .i64 c) ∧ (∃ vs', No base w' t b vs' S') ∧ Kept TYc base w w'
set_option maxHeartbeats 2000000 in
theorem drop_ (h : No base w t b vs S) (hI : Inv S) (hn : S.next ≤ 1000) (en path j : Int) :
    Calls Try.prog 18 #[.pointer (some ⟨t, 0, none⟩), .int .i64 en, .int .i64 path, .int .i64 j] w fun e' w' => ErO base w t b (takeS S en path j drT) (trE S en path j) e' w' := by
  by_cases hE : trE S en path j = 0
  · obtain ⟨hp, h0, hj⟩ := trE_iff.1 hE
    have TR := hidden (treat_ok_drop h hI hn hE (at_ := 0) (bits := 0) (fun h1 => drop h1 (At.of hp) (hI.rows _ _) hn h0 hj en path 0 0))
    unfold sv at TR
    generalize (S.R path.toNat en.toNat).L.getD j.toNat zpk = q at TR
    have FIN : Hid (∀ (w2 : World) (e' : Ending), DoO base w t b vs (S.row path.toNat en.toNat ⟨drT (S.R path.toNat en.toNat).T, (S.R path.toNat en.toNat).L.eraseIdx j.toNat⟩) (pv q) 0 e' w2 → ∀ o, ErO base w t b (takeS S en path j drT) (trE S en path j) (.returned (.int .i64 0)) (w2.alloc o)) := fun w2 e' hD o => by
      obtain ⟨_, ⟨vs', hN, _⟩, hK, _⟩ := hD
      refine ⟨by rw [hE], ⟨vs', ?_⟩, hK.alloc o⟩
      unfold takeS
      rw [if_pos hE]
      exact hN.later ((Below.refl _ _).alloc (Nat.le_refl _) o)
    unfold pv at TR FIN
    clear h hE hp h0 hj
    go_enter Try.func18, Try.ntmps18
    go_wp2_with fail
    refine Calls.mono TR.out ?_
    intro e' w2 hD
    have HD := hidden (FIN.out _ _ hD)
    obtain rfl := hD.1
    clear hD
    go_wp2
    go_ret
    exact HD.out _
  · have TR := hidden (treat_no_drop h hI hn hE (at_ := 0) (bits := 0))
    unfold sv zv at TR
    have FIN : Hid (∀ (w2 : World), Below w.heap.size w w2 → ∀ o, ErO base w t b (takeS S en path j drT) (trE S en path j) (.returned (.int .i64 (trE S en path j))) (w2.alloc o)) := fun w2 hB o => by
      have hB2 : Below w.heap.size w (w2.alloc o) := hB.alloc hB.size o
      refine ⟨rfl, ⟨vs, ?_⟩, Kept.of_below hB2⟩
      unfold takeS
      rw [if_neg hE]
      exact h.later hB2
    generalize trE S en path j = c at *
    clear h
    go_enter Try.func18, Try.ntmps18
    go_wp2_with fail
    refine Calls.mono TR.out ?_
    rintro e' w2 ⟨rfl, hB⟩
    have HD := hidden (FIN.out _ hB)
    clear hB
    go_wp2
    go_ret
    exact HD.out _
end
end Go.Proofs.Ytmogacccffkkbaa.Nt
