/-
  A packet is taken out of a row.
  Conditions: the row lies in memory, the packet is there.
-/
import Derived.Test.YtmogacccffkkbaaNtG
namespace Go.Proofs.Ytmogacccffkkbaa.Nt
open Go.ChangeShapes Go.WideShapes Go.ChangeAt Go.RowKit
open Ba (hidden Only In Has own_ne own_stay own_len own_some own_mono cell_lt heap_lt)
set_option linter.unusedVariables false
theorem sl_to (g n cap : Nat) (j : Int) (h0 : 0 ≤ j) (h1 : j ≤ cap) (w : World) : (Instr.sliceAt 83 (.slice (some ⟨g, 0, none⟩) n cap) none (some (.int .i64 j)) none).run Try.prog w = .ok (.slice (some ⟨g, 0, none⟩) j.toNat cap) w := by
  simp [go_sem]
  intro hx
  exact absurd (hx h0) (by omega)
theorem sl_from (g n cap : Nat) (j : Int) (h0 : 0 ≤ j) (h1 : j ≤ n) (h2 : n ≤ cap) (w : World) : (Instr.sliceAt 83 (.slice (some ⟨g, 0, none⟩) n cap) (some (.int .i64 j)) none none).run Try.prog w = .ok (.slice (if cap = j.toNat then some ⟨g, 0, none⟩ else some ⟨g, j.toNat * 5, none⟩) (n - j.toNat) (cap - j.toNat)) w := by
  simp [go_sem]
  intro hx
  exact absurd (hx h0) (by omega)
def zpc : List Value := [.int .i64 0, .int .i64 0, .int .i64 0, .bool false, .string ByteArray.empty]
theorem clear_one {w : World} {g : Nat} {cur : Array Value} (hg : w.heap[g]? = some (.cells cur 88 (0, 0))) (o c : Nat) (ho : o + 5 ≤ cur.size) (ty : TypeId) : (Builtin.clear_ #[83] ty #[.slice (some ⟨g, o, none⟩) 1 c]).run Try.prog w = .ok (.tuple #[]) (w.setRow g (cur.toList.take o ++ zpc ++ cur.toList.drop (o + 5)).toArray) := by
  have hst := run_storeCells_at Try.prog g o 88 zpc 0 cur w hg (by simpa [zpc] using ho) (by intro v hv; simp only [zpc, List.mem_cons, List.not_mem_nil, or_false] at hv; rcases hv with rfl | rfl | rfl | rfl | rfl <;> rfl)
  have hz : (Builtin.zeroCells #[.int .i64 0, .int .i64 0, .int .i64 0, .bool false, .string ByteArray.empty] 1).toList = zpc := by kernel_rfl
  have hv : ∀ w, (zeroValue 88).run Try.prog w = .ok (.agg #[.int .i64 0, .int .i64 0, .int .i64 0, .bool false, .string ByteArray.empty]) w := fun w => by kernel_rfl
  rw [Nat.add_zero] at hst
  simp only [Builtin.clear_]
  simp [run_underlying Try.underlying83, hv, Value.cells, hz, hst]
  rfl
/-- worlds while a row closes up -/
theorem pcs_erase (L : List Pk) (j : Nat) : pcs (L.eraseIdx j) = pcs (L.take j) ++ pcs (L.drop (j + 1)) := by
  unfold pcs
  rw [← List.flatMap_append, List.eraseIdx_eq_take_drop_succ]
theorem setRow_get {w : World} {g : Nat} {cur cs : Array Value} {E : TypeId} (hg : w.heap[g]? = some (.cells cur E (0, 0))) : (w.setRow g cs).heap[g]? = some (.cells cs E (0, 0)) := setRow_heap w g cur cs E (0, 0) hg
theorem setRow_only {w : World} {g : Nat} {cs : Array Value} : Only [g] w (w.setRow g cs) := ⟨rfl, rfl, rfl, by simp, fun k _ hn => setRow_other w g k cs (by simpa using hn)⟩
/-- how a row's cells stand when one packet is gone -/
theorem close_up {cur : Array Value} {L : List Pk} {j n1 cap : Nat} (hn : L.length = n1 + 1) (hj : j < L.length) (hcap : n1 + 1 ≤ cap) (hs : cur.size = cap * 5) (ht : cur.toList.take (L.length * 5) = pcs L) :
    ∃ c1 c2 : Array Value, c1 = (cur.toList.take (j * 5) ++ pcs (L.drop (j + 1)) ++ cur.toList.drop (j * 5 + (pcs (L.drop (j + 1))).length)).toArray ∧ c2 = (c1.toList.take (n1 * 5) ++ zpc ++ c1.toList.drop (n1 * 5 + 5)).toArray ∧ c1.size = cap * 5 ∧ c2.size = cap * 5 ∧ c2.toList.take (n1 * 5) = pcs (L.eraseIdx j) := by
  have hd : (pcs (L.drop (j + 1))).length = (n1 - j) * 5 := by rw [pcs_len, List.length_drop, hn]; congr 1; omega
  have hcl : cur.toList.length = cap * 5 := by simpa using hs
  refine ⟨_, _, rfl, rfl, ?_, ?_, ?_⟩
  · simp only [List.size_toArray, List.length_append, List.length_take, List.length_drop, hd, hcl]
    omega
  · simp only [List.size_toArray, List.length_append, List.length_take, List.length_drop, hd, hcl, zpc, List.length_cons, List.length_nil]
    omega
  · rw [pcs_erase]
    have e1 : cur.toList.take (j * 5) = pcs (L.take j) := by
      have := congrArg (List.take (j * 5)) ht
      rw [List.take_take, Nat.min_eq_left (by omega)] at this
      rw [this]
      exact flat_take pc_len L j
    rw [e1]
    have l1 : (pcs (L.take j)).length = j * 5 := by rw [pcs_len, List.length_take, Nat.min_eq_left (by omega)]
    have l2 : (pcs (L.take j) ++ pcs (L.drop (j + 1))).length = n1 * 5 := by rw [List.length_append, l1, hd]; omega
    rw [List.append_assoc, List.take_append_of_le_length (by simp; rw [l1, hd, hs]; omega)]
    rw [List.take_take, Nat.min_self, List.take_append_of_le_length (by rw [l2]; exact Nat.le_refl _), List.take_of_length_le (by rw [l2]; exact Nat.le_refl _)]
set_option maxHeartbeats 2000000 in
theorem delete {w : World} {base g cap : Nat} {L : List Pk} (h : w.ownsRow base 88 5 (.slice (some ⟨g, 0, none⟩) L.length cap) L.length (pcs L)) {j : Int} (h0 : 0 ≤ j) (hj : j < (L.length : Int)) (hl : L.length ≤ 1000) : Calls Try.prog 56 #[.slice (some ⟨g, 0, none⟩) L.length cap, .int .i64 j, .int .i64 (j + 1)] w fun e w' =>
    e = .returned (.slice (some ⟨g, 0, none⟩) (L.eraseIdx j.toNat).length cap) ∧ w'.ownsRow base 88 5 (.slice (some ⟨g, 0, none⟩) (L.eraseIdx j.toNat).length cap) (L.eraseIdx j.toNat).length (pcs (L.eraseIdx j.toNat)) ∧ Only [g] w w' := by
  obtain ⟨n1, hn1⟩ : ∃ n1, L.length = n1 + 1 := ⟨L.length - 1, by omega⟩
  have hlen : (L.eraseIdx j.toNat).length = n1 := by rw [List.length_eraseIdx, if_pos (by omega)]; omega
  rw [hlen]
  rcases h.2 with ⟨hh, _⟩ | ⟨g', cap', cur, hh, hbg, hg, hnc, hcm, hcs, htake⟩
  · cases hh
  cases hh
  obtain ⟨c1, c2, e1, e2, s1, s2, tk⟩ := close_up hn1 (j := j.toNat) (by omega) (by omega) hcs htake
  obtain ⟨W2, hW2⟩ : ∃ W2, W2 = w.drew.setRow g c1 := ⟨_, rfl⟩
  have hg2 : W2.heap[g]? = some (.cells c1 88 (0, 0)) := by rw [hW2]; exact setRow_get (w := w.drew) hg
  obtain ⟨A, hA, hsrc⟩ : ∃ A : Addr, (if cap = (j + 1).toNat then some (⟨g, 0, none⟩ : Addr) else some ⟨g, (j + 1).toNat * 5, none⟩) = some A ∧ Hid (∀ t u, (pcs (L.drop (j.toNat + 1)))[t]? = some u → w.drew.cell? (A.add t) = some u) := by
    by_cases hq : cap = (j + 1).toNat
    · refine ⟨⟨g, 0, none⟩, by simp [hq], fun t u hu => ?_⟩
      have e0 : L.drop (j.toNat + 1) = [] := List.drop_of_length_le (by omega)
      rw [e0] at hu
      simp [pcs] at hu
    · refine ⟨⟨g, (j + 1).toNat * 5, none⟩, by simp [hq], fun t u hu => ?_⟩
      have e3 : pcs (L.drop (j.toNat + 1)) = (pcs L).drop ((j.toNat + 1) * 5) := (flat_drop pc_len L _).symm
      rw [e3, List.getElem?_drop] at hu
      have hlt := (List.getElem?_eq_some_iff.1 hu).1
      rw [pcs_len] at hlt
      have ea : (⟨g, (j + 1).toNat * 5, none⟩ : Addr).add t = ⟨g, (j.toNat + 1) * 5 + t, none⟩ := by
        rw [Go.WideShapes.add_plain]
        congr 1
        omega
      rw [ea]
      exact (h.cellAt _ hlt).trans hu
  have AP : Hid (∀ ty, (Builtin.append_ #[83, 83] ty #[.slice (some ⟨g, 0, none⟩) j.toNat cap, .slice (some A) (L.length - (j + 1).toNat) (cap - (j + 1).toNat)]).run Try.prog w.drew = .ok (.slice (some ⟨g, 0, none⟩) n1 cap) W2) := fun ty => by
    obtain ⟨i, hi, _, hz, _⟩ := info_parts info_pkt
    have hl2 : (pcs (L.drop (j.toNat + 1))).length = (L.length - (j + 1).toNat) * i.size := by rw [pcs_len, List.length_drop, hz, show L.length - (j.toNat + 1) = L.length - (j + 1).toNat by omega]
    have := run_append_room (P := Try.prog) w.drew 83 ty 88 i Try.underlying83 hi g j.toNat cap cur hg A (L.length - (j + 1).toNat) (cap - (j + 1).toNat) (pcs (L.drop (j.toNat + 1))) hl2 hsrc.out (by
      intro u hu
      obtain ⟨q, _, hq⟩ := List.mem_flatMap.1 hu
      exact pc_one q u hq) (by omega) (by rw [hl2, hz, hcs]; omega)
    rw [hz, show j.toNat + (L.length - (j + 1).toNat) = n1 by omega, ← e1, ← hW2] at this
    exact this
  have HTO : Hid (∀ w, (Instr.sliceAt 83 (.slice (some ⟨g, 0, none⟩) L.length cap) none (some (.int .i64 j)) none).run Try.prog w = .ok (.slice (some ⟨g, 0, none⟩) j.toNat cap) w) := fun w => sl_to g L.length cap j h0 (by omega) w
  have HFR : Hid (∀ w, (Instr.sliceAt 83 (.slice (some ⟨g, 0, none⟩) L.length cap) (some (.int .i64 (j + 1))) none none).run Try.prog w = .ok (.slice (some A) (L.length - (j + 1).toNat) (cap - (j + 1).toNat)) w) := fun w => by
    rw [sl_from g L.length cap (j + 1) (by omega) (by omega) hnc w, hA]
  have hcl : ∀ ty c, (Builtin.clear_ #[83] ty #[.slice (some ⟨g, n1 * 5, none⟩) 1 c]).run Try.prog W2 = .ok (.tuple #[]) (W2.setRow g c2) := fun ty c => by
    rw [clear_one hg2 (n1 * 5) c (by rw [s1]; omega) ty, e2]
  have FIN : Hid (∀ w3, w3 = W2.setRow g c2 → w3.ownsRow base 88 5 (.slice (some ⟨g, 0, none⟩) n1 cap) n1 (pcs (L.eraseIdx j.toNat)) ∧ Only [g] w w3) := fun w3 e3 => by
    subst e3
    refine ⟨⟨by rw [pcs_len, hlen], .inr ⟨g, cap, c2, rfl, hbg, setRow_get hg2, by omega, hcm, s2, tk⟩⟩, ?_⟩
    rw [hW2]
    exact (Only.of_drew (setRow_only (w := w.drew))).then setRow_only
  generalize L.length = n at *
  subst hn1
  have hcap1 : n1 + 1 ≤ cap := hnc
  have hcap2 : cap ≤ 9223372036854775807 := by unfold maxLen at hcm; omega
  have HW2 := hidden hW2
  clear h hg hnc hcm hcs htake e1 e2 s1 s2 tk hW2 hg2 hA hsrc hlen
  go_enter Try.func56, Try.ntmps56
  go_upto_region 5 with fail
  refine Ord.wp_region_ex0 (X := Unit) (by kernel_rfl) 33 (fun x => [(some 20, .slice (some ⟨g, 0, none⟩) (n1 + 1) cap), (some 21, .int .i64 j), (some 22, .slice (some ⟨g, 0, none⟩) j.toNat cap), (some 23, .slice (some ⟨g, 0, none⟩) (n1 + 1) cap), (some 24, .int .i64 (j + 1)), (some 25, .slice (some A) (n1 + 1 - (j + 1).toNat) (cap - (j + 1).toNat)), (some 26, .slice (some ⟨g, 0, none⟩) n1 cap), (some 0, .slice (some ⟨g, 0, none⟩) n1 cap)]) [some 20, some 21, some 22, some 23, some 24, some 25, some 26, some 0] rfl (fun listed hsz hr => Ord.all_listedC (rank := [0, 1, 2, 3, 4, 5, 6, 7]) (by kernel_rfl) hsz hr) (by rfl) (fun _ => rfl) (by kernel_rfl) (Rg.StM [6] (fun k _ w' => (k = 0 → w' = w.drew) ∧ (k = 1 → w' = W2))) (fun _ _ _ _ hL h => h.ext (n := 8) (by decide) hL) ?_ ?_ () ?_
  case refine_1 =>
    intro x Lq iq oq ac w' ho hi hcl hdep hF hW
    have f1 : ac.tmps.size = 33 := hF.1
    match iq, ho, hi, hdep with
    | 0, ho, hi, hdep =>
      cases ho
      have da0 : ac.eval (.tmp 0) = .slice (some ⟨g, 0, none⟩) (n1 + 1) cap := hF.yet 0 7 (by rfl) (Rg.no_of (fun h => hcl 7 _ rfl (h) ⟨0, .phase⟩ (by simp) rfl) hi)
      exact Ord.ex_value x rfl rfl (Rg.mv da0 rfl) rfl (hW.keep (by decide))
    | 1, ho, hi, hdep =>
      cases ho
      have da0 : ac.eval (.tmp 1) = .int .i64 j := hF.old 1 rfl
      exact Ord.ex_value x rfl rfl (Rg.mv da0 rfl) rfl (hW.keep (by decide))
    | 2, ho, hi, hdep =>
      cases ho
      have da0 : ac.eval (.tmp 20) = .slice (some ⟨g, 0, none⟩) (n1 + 1) cap := hF.2.2.2 0 20 _ rfl (hdep ⟨0, .data⟩ (by simp) rfl)
      have da1 : ac.eval (.tmp 21) = .int .i64 j := hF.2.2.2 1 21 _ rfl (hdep ⟨1, .data⟩ (by simp) rfl)
      exact Ord.ex_value x rfl rfl (Rg.slc (lo := none) (hi := some (.tmp 21)) (mx := none) da0 rfl (congrArg some da1) rfl rfl (HTO.out _)) rfl (hW.keep (by decide))
    | 3, ho, hi, hdep =>
      cases ho
      have da0 : ac.eval (.tmp 0) = .slice (some ⟨g, 0, none⟩) (n1 + 1) cap := hF.yet 0 7 (by rfl) (Rg.no_of (fun h => hcl 7 _ rfl (h) ⟨3, .phase⟩ (by simp) rfl) hi)
      exact Ord.ex_value x rfl rfl (Rg.mv da0 rfl) rfl (hW.keep (by decide))
    | 4, ho, hi, hdep =>
      cases ho
      have da0 : ac.eval (.tmp 2) = .int .i64 (j + 1) := hF.old 2 rfl
      exact Ord.ex_value x rfl rfl (Rg.mv da0 rfl) rfl (hW.keep (by decide))
    | 5, ho, hi, hdep =>
      cases ho
      have da0 : ac.eval (.tmp 23) = .slice (some ⟨g, 0, none⟩) (n1 + 1) cap := hF.2.2.2 3 23 _ rfl (hdep ⟨3, .data⟩ (by simp) rfl)
      have da1 : ac.eval (.tmp 24) = .int .i64 (j + 1) := hF.2.2.2 4 24 _ rfl (hdep ⟨4, .data⟩ (by simp) rfl)
      exact Ord.ex_value x rfl rfl (Rg.slc (lo := some (.tmp 24)) (hi := none) (mx := none) da0 (congrArg some da1) rfl rfl rfl (HFR.out _)) rfl (hW.keep (by decide))
    | 6, ho, hi, hdep =>
      cases ho
      have da0 : ac.eval (.tmp 22) = .slice (some ⟨g, 0, none⟩) j.toNat cap := hF.2.2.2 2 22 _ rfl (hdep ⟨2, .data⟩ (by simp) rfl)
      have da1 : ac.eval (.tmp 25) = .slice (some A) (n1 + 1 - (j + 1).toNat) (cap - (j + 1).toNat) := hF.2.2.2 5 25 _ rfl (hdep ⟨5, .data⟩ (by simp) rfl)
      have hA := hW.at (k := 0) rfl hi (.inl rfl)
      have hw := hA.1 rfl
      subst hw
      exact Ord.ex_value x rfl rfl (Rg.app da0 da1 rfl (AP.out _)) rfl (hW.next (k := 0) rfl (by decide) hi (.inl rfl) ⟨fun e => absurd e (by decide), fun _ => rfl⟩)
    | 7, ho, hi, hdep =>
      cases ho
      have da0 : ac.eval (.tmp 26) = .slice (some ⟨g, 0, none⟩) n1 cap := hF.2.2.2 6 26 _ rfl (hdep ⟨6, .data⟩ (by simp) rfl)
      exact Ord.ex_value x rfl rfl (Rg.asg da0 rfl) rfl (hW.keep (by decide))
  case refine_3 => exact Rg.StM.first ⟨fun _ => rfl, fun e => absurd e (by decide)⟩
  case refine_2 =>
    intro x w2 hW
    have hw := hW.last.2 rfl
    subst hw
    simp only [Ord.puts, Ord.prs]
    go_simp
    go_wp2
    go_ret
    exact ⟨rfl, FIN.out _ rfl⟩
end Go.Proofs.Ytmogacccffkkbaa.Nt
