/-
  A heap of timers: an item is put in.
  Conditions: the heap lies in memory, in order, its places as they are.
-/
import Derived.Test.YtinhhfnknlmdgaaTmE
namespace Go.Proofs.Ytinhhfnknlmdgaa.Tm
open Go.ChangeShapes Go.WideShapes Go.ChangeAt Go.RowKit Go.Sort
open Ba (hidden Only In Has own_ne own_stay own_len own_some own_mono cell_lt heap_lt)
set_option linter.unusedVariables false

/-- worlds while an item's number is looked up -/
structure PutA (w : World) (b : Nat) (v : Value) (m : Nat) (X : List D) (f : Int → Option Int) (n : Nat) (d : D) (w' : World) : Prop where
  box : Has w' w.heap.size #[.int .i64 d.1, .int .i64 d.2] 43
  hp : Hp w' b v m X f n
  below : Below w.heap.size w w'
theorem PutA.start {w : World} {b m n : Nat} {v : Value} {X : List D} {f : Int → Option Int} (h : Hp w b v m X f n) (d : D) : PutA w b v m X f n d (w.alloc (.cells #[.int .i64 d.1, .int .i64 d.2] 43)).drew :=
  ⟨Has.new w _ _, h.later ((Below.refl _ w).alloc (Nat.le_refl _) _).drew, ((Below.refl _ w).alloc (Nat.le_refl _) _).drew⟩
theorem PutA.later {w w' w2 : World} {b m n : Nat} {v : Value} {X : List D} {f : Int → Option Int} {d : D} (h : PutA w b v m X f n d w') (hb : Below w'.heap.size w' w2) : PutA w b v m X f n d w2 :=
  ⟨h.box.later hb, h.hp.later hb, h.below.trans (hb.mono h.below.size)⟩
theorem info_due : (Try.prog.info? 43).map (fun i => (i.zero, i.size, i.bytes)) = some (some (.agg #[.int .i64 0, .int .i64 0]), 2, 16) := by kernel_rfl
/-- worlds while an item is appended -/
structure PushA (w1 : World) (b : Nat) (v : Value) (m : Nat) (X : List D) (f : Int → Option Int) (n : Nat) (d : D) (k : Nat) (x : Value) (w' : World) : Prop where
  h0 : k = 0 → w' = w1.drew
  h1 : k = 1 → w' = w1.drew.alloc (.cells #[.int .i64 d.1, .int .i64 d.2] 43)
  h2 : k = 2 → Own w' x (X ++ [d]) ∧ (w1.drew.alloc (.cells #[.int .i64 d.1, .int .i64 d.2] 43)).grownBy w' v.ownBlock ∧ (x.ownBlock = v.ownBlock ∨ x.ownBlock = some (w1.heap.size + 1))
  h3 : k = 3 → Hp w' b x m (X ++ [d]) f n ∧ Only (hfoot v b m) w1 w' ∧ In (hfoot v b m) (hfoot x b m) w1
theorem PushA.cell {w1 w' : World} {b m n k : Nat} {v x : Value} {X : List D} {f : Int → Option Int} {d : D} (h : PushA w1 b v m X f n d k x w') (hH : Hp w1 b v m X f n) (hk : k ≤ 1) : w'.cell? ⟨b, 0, none⟩ = some v := by
  have hc := hH.1.cell 0 rfl
  have : k = 0 ∨ k = 1 := by omega
  rcases this with e | e
  · rw [h.h0 e]; exact hc
  · rw [h.h1 e]; exact (((Below.refl _ w1.drew).alloc (Nat.le_refl _) _).cell (p := ⟨b, 0, none⟩) hH.1.lt).trans hc
theorem run_bs1 (d : D) (w : World) : (Instr.buildSlice 26 1 #[(0, .agg #[.int .i64 d.1, .int .i64 d.2])]).run Try.prog w = .ok (.slice (some ⟨w.heap.size, 0, none⟩) 1 1) (w.alloc (.cells #[.int .i64 d.1, .int .i64 d.2] 43)) := by kernel_rfl
theorem addr_add (g j : Nat) : (⟨g, 0, none⟩ : Addr).add j = ⟨g, j, none⟩ := by unfold Addr.add; split <;> simp_all
theorem PushA.two {w1 w' : World} {b m n : Nat} {v x : Value} {X : List D} {f : Int → Option Int} {d : D} (h : PushA w1 b v m X f n d 1 x w') (hH : Hp w1 b v m X f n) (hX : X.length ≤ 1000000) (ty : TypeId) :
    ∃ v' w2, (Builtin.append_ #[26, 26] ty #[v, .slice (some ⟨w1.heap.size, 0, none⟩) 1 1]).run Try.prog w' = .ok v' w2 ∧ PushA w1 b v m X f n d (1 + 1) v' w2 := by
  have hw := h.h1 rfl
  subst hw
  have hB : Below w1.heap.size w1 (w1.drew.alloc (.cells #[.int .i64 d.1, .int .i64 d.2] 43)) := (Below.refl _ w1).drew.alloc (Nat.le_refl _) _
  have hN : Has (w1.drew.alloc (.cells #[.int .i64 d.1, .int .i64 d.2] 43)) w1.heap.size #[.int .i64 d.1, .int .i64 d.2] 43 := Has.new w1.drew _ _
  obtain ⟨v', w2, hr, g1, g2, g3⟩ := Ba.append_at (P := Try.prog) (ty := ty) (m := 1) (c := 1) (ad := ⟨w1.heap.size, 0, none⟩) (news := dc d) Try.underlying26 info_due rfl (by decide) (hH.later hB).2.1 rfl
    (fun j u hj => by
      rw [addr_add]
      match j, hj with
      | 0, hj => exact hN.cell 0 hj
      | 1, hj => exact hN.cell 1 hj)
    (by intro u hu; simp only [dc, List.mem_cons, List.not_mem_nil, or_false] at hu; rcases hu with rfl | rfl <;> rfl) (.inl (by decide)) (by unfold maxLen; omega) (by omega) (Nat.zero_le _)
  refine ⟨v', w2, hr, fun e => absurd e (by decide), fun e => absurd e (by decide), fun _ => ⟨?_, g2, g3.imp id (fun e => by rw [e]; simp)⟩, fun e => absurd e (by decide)⟩
  unfold Own
  rw [dcs_app, List.length_append]
  exact g1
theorem PushA.three {w1 w' : World} {b m n : Nat} {v x : Value} {X : List D} {f : Int → Option Int} {d : D} (h : PushA w1 b v m X f n d 2 x w') (hH : Hp w1 b v m X f n) :
    (Instr.storeAt 26 (.pointer (some ⟨b, 0, none⟩)) x).run Try.prog w' = .ok () (w'.setCell ⟨b, 0, none⟩ x) ∧ PushA w1 b v m X f n d (2 + 1) x (w'.setCell ⟨b, 0, none⟩ x) := by
  obtain ⟨g1, g2, g3⟩ := h.h2 rfl
  have hB : Below w1.heap.size w1 (w1.drew.alloc (.cells #[.int .i64 d.1, .int .i64 d.2] 43)) := (Below.refl _ w1).drew.alloc (Nat.le_refl _) _
  have hH2 := hH.later hB
  have hO : Only (v.ownBlock.toList) (w1.drew.alloc (.cells #[.int .i64 d.1, .int .i64 d.2] 43)) w' := Only.grown g2 (by intro k hk; simp [hk])
  have hb : Has w' b #[v, .map (some m), fkey, ford] 66 := hH2.1.stay hO (by intro hh; exact own_ne hH2.2.1 hH2.1 (by decide) b (by simpa using hh) rfl)
  have hm : Mp w' m f n := hH2.2.2.stay hO (by intro hh; exact hH2.2.2.ne_own hH2.2.1 m (by simpa using hh) rfl)
  obtain ⟨a, cap, rfl⟩ := own_len g1
  have c0 := hb.cell 0 rfl
  have f0 := hb.frozen 0
  refine ⟨by simp [go_sem, c0, f0], fun e => absurd e (by decide), fun e => absurd e (by decide), fun e => absurd e (by decide), fun _ => ⟨⟨hb.set 0 _, ?_, ?_⟩, ?_, ?_⟩⟩
  · exact own_stay g1 (Only.setCell (F := [b]) w' (p := ⟨b, 0, none⟩) (by simp) _) (by intro k hk; simp; exact fun e => own_ne g1 hb (by decide) k hk e.symm)
  · exact hm.stay (Only.setCell (F := [b]) w' (p := ⟨b, 0, none⟩) (by simp) _) (by simp; exact hm.ne hb)
  · refine ((Only.of_below hB).then (hO.mono ?_)).then (Only.setCell w' (p := ⟨b, 0, none⟩) (by simp [hfoot]) _)
    intro k hk; simp only [hfoot, List.mem_cons]; exact .inr (.inr hk)
  · intro k hk
    simp only [hfoot, List.mem_cons] at hk ⊢
    rcases hk with rfl | rfl | hk
    · exact .inl (.inl rfl)
    · exact .inl (.inr (.inl rfl))
    · rcases g3 with e | e
      · rw [e] at hk; exact .inl (.inr (.inr hk))
      · rw [e] at hk; simp at hk; exact .inr (by omega)
/-- what put leaves -/
def PutO (w : World) (b : Nat) (v : Value) (m : Nat) (X : List D) (d : D) (e : Ending) (w' : World) : Prop := ∃ (v' : Value) (Y : List D) (f' : Int → Option Int), e = .returned (.tuple #[]) ∧ Hp w' b v' m Y f' Y.length ∧ Posn f' Y ∧ Heap Y ∧ Y.Perm (d :: rm d.1 X) ∧ Only (hfoot v b m) w w' ∧ In (hfoot v b m) (hfoot v' b m) w
theorem more_out {f : Int → Option Int} {k : Int} {n : Nat} (h : f k = none) : more f k n = n + 1 := by unfold more; rw [h]; rfl
set_option maxHeartbeats 2000000 in
theorem put {w : World} {b m n : Nat} {v : Value} {X : List D} {f : Int → Option Int} (h : Hp w b v m X f n) (hn : n = X.length) (hpo : Posn f X) (hh : Heap X) (hk : ∀ d ∈ X, Ok d) (d : D) (hd : Ok d) : Calls Try.prog 33 #[.pointer (some ⟨b, 0, none⟩), dv d] w fun e w' => PutO w b v m X d e w' := by
  have hX : X.length ≤ 4096 := few hpo.nodup hk
  have hd64 : I64 d.1 := by unfold I64; have := hd.1; omega
  have C := hidden keyF
  unfold dv at C ⊢
  have EC : Hid (∀ (args : Array Value) (w : World), (callFunc 20 args).run Try.prog w = .ok (.enter 20 args) w) := enters_of Try.func20 (by kernel_rfl) rfl
  obtain ⟨pl, hb, hlk, hplb⟩ : ∃ (pl : Int) (hb : Bool), (∀ w', Mp w' m f n → (Instr.lookup 64 (.map (some m)) (.int .i64 d.1) true).run Try.prog w' = .ok (.tuple #[.int .i64 pl, .bool hb]) w') ∧ (f d.1 = if hb then some pl else none) := by
    cases hf : f d.1 with
    | none => exact ⟨0, false, fun w' hM => by have := mp_look hM hd64; rw [hf] at this; exact this, rfl⟩
    | some u => exact ⟨u, true, fun w' hM => by have := mp_look hM hd64; rw [hf] at this; exact this, rfl⟩
  have HLK := hidden hlk
  have HPL := hidden hplb
  have H := hidden h
  have HN := hidden hn
  have HPO := hidden hpo
  have HHP := hidden hh
  have HK := hidden hk
  have HX : Hid (X.length ≤ 1000000) := by unfold Hid; omega
  have hX2 : (X.length : Int) ≤ 4096 := by omega
  clear hlk hplb h hn hpo hh hk hX
  go_enter Try.func33, Try.ntmps33
  go_upto_region 1 with fail
  refine Ord.wp_region_ex0 (X := Unit) (by kernel_rfl) 44 (fun x => [(some 7, .pointer (some ⟨b, 0, none⟩)), (some 8, .pointer (some ⟨b, 0, none⟩)), (some 9, .pointer (some ⟨b, 1, none⟩)), (some 10, .map (some m)), (some 11, .pointer (some ⟨b, 0, none⟩)), (some 12, .pointer (some ⟨b, 0, none⟩)), (some 13, .pointer (some ⟨b, 2, none⟩)), (some 14, fkey), (some 15, .agg #[.int .i64 d.1, .int .i64 d.2]), (some 16, .int .i64 d.1), (some 17, .tuple #[.int .i64 pl, .bool hb]), (some 6, .tuple #[.int .i64 pl, .bool hb]), (some 18, .int .i64 pl), (some 19, .bool hb), (some 4, .int .i64 pl), (some 5, .bool hb)]) [some 7, some 8, some 9, some 10, some 11, some 12, some 13, some 14, some 15, some 16, some 17, some 6, some 18, some 19, some 4, some 5] rfl (fun listed hsz hr => Ord.all_listedC (rank := [0, 1, 2, 3, 4, 5, 6, 7, 8, 9, 10, 11, 12, 13, 14, 15]) (by kernel_rfl) hsz hr) (by rfl) (fun _ => rfl) (by kernel_rfl) (Rg.StM [9] (fun _ _ w' => PutA w b v m X f n d w')) (fun _ _ _ _ hL h => h.ext (n := 16) (by decide) hL) ?_ ?_ () ?_
  case refine_1 =>
    intro x Lq iq oq ac w' ho hi hcl hdep hF hW
    have f1 : ac.tmps.size = 44 := hF.1
    match iq, ho, hi, hdep with
    | 0, ho, hi, hdep =>
      cases ho
      have da0 : ac.eval (.tmp 0) = .pointer (some ⟨b, 0, none⟩) := hF.old 0 rfl
      exact Ord.ex_value x rfl rfl (Rg.mv da0 rfl) rfl (hW.keep (by decide))
    | 1, ho, hi, hdep =>
      cases ho
      have da0 : ac.eval (.tmp 7) = .pointer (some ⟨b, 0, none⟩) := hF.2.2.2 0 7 _ rfl (hdep ⟨0, .data⟩ (by simp) rfl)
      exact Ord.ex_value x rfl rfl (Rg.nilc da0 rfl) rfl (hW.keep (by decide))
    | 2, ho, hi, hdep =>
      cases ho
      have da0 : ac.eval (.tmp 8) = .pointer (some ⟨b, 0, none⟩) := hF.2.2.2 1 8 _ rfl (hdep ⟨1, .data⟩ (by simp) rfl)
      exact Ord.ex_value x rfl rfl (Rg.fa da0 rfl (by simp [go_sem])) rfl (hW.keep (by decide))
    | 3, ho, hi, hdep =>
      cases ho
      have da0 : ac.eval (.tmp 9) = .pointer (some ⟨b, 1, none⟩) := hF.2.2.2 2 9 _ rfl (hdep ⟨2, .data⟩ (by simp) rfl)
      obtain ⟨kq, hlo, hhi, hA⟩ := hW.range 0 1 (.inl rfl) (.inl rfl)
      exact Ord.ex_value x rfl rfl (Rg.load da0 rfl (by simp [go_sem, hA.hp.1.cell 1 rfl])) rfl (hW.keep (by decide))
    | 4, ho, hi, hdep =>
      cases ho
      have da0 : ac.eval (.tmp 0) = .pointer (some ⟨b, 0, none⟩) := hF.old 0 rfl
      exact Ord.ex_value x rfl rfl (Rg.mv da0 rfl) rfl (hW.keep (by decide))
    | 5, ho, hi, hdep =>
      cases ho
      have da0 : ac.eval (.tmp 11) = .pointer (some ⟨b, 0, none⟩) := hF.2.2.2 4 11 _ rfl (hdep ⟨4, .data⟩ (by simp) rfl)
      exact Ord.ex_value x rfl rfl (Rg.nilc da0 rfl) rfl (hW.keep (by decide))
    | 6, ho, hi, hdep =>
      cases ho
      have da0 : ac.eval (.tmp 12) = .pointer (some ⟨b, 0, none⟩) := hF.2.2.2 5 12 _ rfl (hdep ⟨5, .data⟩ (by simp) rfl)
      exact Ord.ex_value x rfl rfl (Rg.fa da0 rfl (by simp [go_sem])) rfl (hW.keep (by decide))
    | 7, ho, hi, hdep =>
      cases ho
      have da0 : ac.eval (.tmp 13) = .pointer (some ⟨b, 2, none⟩) := hF.2.2.2 6 13 _ rfl (hdep ⟨6, .data⟩ (by simp) rfl)
      obtain ⟨kq, hlo, hhi, hA⟩ := hW.range 0 0 (.inl rfl) (.inr ⟨9, rfl, (Rg.no_of (fun h => hcl 9 _ rfl (h) ⟨7, .data⟩ (by simp) rfl) hi)⟩)
      exact Ord.ex_value x rfl rfl (Rg.load da0 rfl (by simp [go_sem, hA.hp.1.cell 2 rfl])) rfl (hW.keep (by decide))
    | 8, ho, hi, hdep =>
      cases ho
      have da0 : ac.eval (.tmp 3) = .pointer (some ⟨w.heap.size, 0, none⟩) := hF.old 3 rfl
      obtain ⟨kq, hlo, hhi, hA⟩ := hW.range 0 0 (.inl rfl) (.inr ⟨9, rfl, (Rg.no_of (fun h => hcl 9 _ rfl (h) ⟨8, .data⟩ (by simp) rfl) hi)⟩)
      exact Ord.ex_value x rfl rfl (Rg.load da0 rfl (by simp [go_sem, hA.box.cell 0 rfl, hA.box.cell 1 rfl])) rfl (hW.keep (by decide))
    | 9, ho, hi, hdep =>
      cases ho
      have da0 : ac.eval (.tmp 14) = fkey := hF.2.2.2 7 14 _ rfl (hdep ⟨7, .data⟩ (by simp) rfl)
      have da1 : ac.eval (.tmp 15) = .agg #[.int .i64 d.1, .int .i64 d.2] := hF.2.2.2 8 15 _ rfl (hdep ⟨8, .data⟩ (by simp) rfl)
      have hA := hW.at (k := 0) rfl hi (.inl rfl)
      exact Rg.ex_call x rfl rfl (Rg.enter (args := #[.agg #[.int .i64 d.1, .int .i64 d.2]]) rfl da0 (by simp [da1]) EC.out) (Calls.mono (C.out d _) (by rintro e w2 ⟨rfl, hb2⟩; exact ⟨rfl, hW.next (k := 0) rfl (by decide) hi (.inl rfl) (hA.later hb2)⟩))
    | 10, ho, hi, hdep =>
      cases ho
      have da0 : ac.eval (.tmp 10) = .map (some m) := hF.2.2.2 3 10 _ rfl (hdep ⟨3, .data⟩ (by simp) rfl)
      have da1 : ac.eval (.tmp 16) = .int .i64 d.1 := hF.2.2.2 9 16 _ rfl (hdep ⟨9, .data⟩ (by simp) rfl)
      obtain ⟨kq, hlo, hhi, hA⟩ := hW.range 1 1 (.inr ⟨9, rfl, (hdep ⟨9, .data⟩ (by simp) rfl)⟩) (.inl rfl)
      exact Ord.ex_value x rfl rfl (Rg.lku da0 da1 rfl (HLK.out _ hA.hp.2.2)) rfl (hW.keep (by decide))
    | 11, ho, hi, hdep =>
      cases ho
      have da0 : ac.eval (.tmp 17) = .tuple #[.int .i64 pl, .bool hb] := hF.2.2.2 10 17 _ rfl (hdep ⟨10, .data⟩ (by simp) rfl)
      exact Ord.ex_value x rfl rfl (Rg.mv da0 rfl) rfl (hW.keep (by decide))
    | 12, ho, hi, hdep =>
      cases ho
      have da0 : ac.eval (.tmp 6) = .tuple #[.int .i64 pl, .bool hb] := hF.2.2.2 11 6 _ rfl (hdep ⟨11, .data⟩ (by simp) rfl)
      exact Ord.ex_value x rfl rfl (Rg.ext da0 rfl rfl) rfl (hW.keep (by decide))
    | 13, ho, hi, hdep =>
      cases ho
      have da0 : ac.eval (.tmp 6) = .tuple #[.int .i64 pl, .bool hb] := hF.2.2.2 11 6 _ rfl (hdep ⟨11, .data⟩ (by simp) rfl)
      exact Ord.ex_value x rfl rfl (Rg.ext da0 rfl rfl) rfl (hW.keep (by decide))
    | 14, ho, hi, hdep =>
      cases ho
      have da0 : ac.eval (.tmp 18) = .int .i64 pl := hF.2.2.2 12 18 _ rfl (hdep ⟨12, .data⟩ (by simp) rfl)
      exact Ord.ex_value x rfl rfl (Rg.asg da0 rfl) rfl (hW.keep (by decide))
    | 15, ho, hi, hdep =>
      cases ho
      have da0 : ac.eval (.tmp 19) = .bool hb := hF.2.2.2 13 19 _ rfl (hdep ⟨13, .data⟩ (by simp) rfl)
      exact Ord.ex_value x rfl rfl (Rg.asg da0 rfl) rfl (hW.keep (by decide))
  case refine_3 => exact Rg.StM.first (PutA.start H.out d)
  case refine_2 =>
    intro x w1 hW
    have H1 := hidden hW.last
    clear hW
    simp only [Ord.puts, Ord.prs]
    go_simp
    have cb0 := H1.out.box.cell 0 rfl
    have cb1 := H1.out.box.cell 1 rfl
    cases hb with
    | true =>
      have hf : f d.1 = some pl := HPL.out
      obtain ⟨q1, q2, q3⟩ := HPO.out.2 _ _ hf
      have LA := hidden (lay H1.out.hp pl.toNat q2 d hd64 (by have := HN.out; have := HX.out; omega) HX.out)
      rw [more_in (by rw [hf]; rfl)] at LA
      rw [Int.toNat_of_nonneg q1] at LA
      have SE : Hid (∀ W, Hp W b v m (X.set pl.toNat d) (upd f d.1 pl) n → Calls Try.prog 41 #[.pointer (some ⟨b, 0, none⟩), .int .i64 pl] W fun e w' => SinkO W b v m n (X.set pl.toNat d) e w') := fun W hW => by
        have hps := posn_set HPO.out q2 q3
        rw [Int.toNat_of_nonneg q1] at hps
        have := settle hW hps (by intro x hx; rcases List.mem_or_eq_of_mem_set hx with h | h; exact HK.out x h; rw [h]; exact hd) (by have := HN.out; have := HX.out; omega) (by rw [List.length_set]; exact HX.out) pl.toNat (by rw [List.length_set]; exact q2) (heap_set HHP.out q2)
        rw [Int.toNat_of_nonneg q1] at this
        exact this
      have HPE : Hid ((X.set pl.toNat d).Perm (d :: rm d.1 X)) := by
        have := set_perm (d := d) q2
        rw [← rm_erase HPO.out q2, q3] at this
        exact this
      have HOF := hidden (fun k hk => H.out.lt k hk)
      unfold dv at LA
      clear hf q1 q2 q3
      go_wp2_with fail
      refine Calls.mono LA.out ?_
      rintro e w2 ⟨rfl, hH2, hO2⟩
      have HH2 := hidden hH2
      have HO2 := hidden hO2
      clear hH2 hO2
      go_wp2_with fail
      refine Calls.mono (SE.out _ HH2.out) ?_
      rintro e w3 ⟨Y, f', rfl, g1, g2⟩
      have G1 := hidden g1
      have G2 := hidden g2
      clear g1 g2
      go_wp2
      go_end0
      refine ⟨v, Y, f', rfl, ?_, G2.out.pos, G1.out, G2.out.perm.trans HPE.out, ((Only.of_below H1.out.below).then HO2.out).then G2.out.only, In.refl _ _⟩
      have hl := G2.out.len
      rw [List.length_set, ← HN.out] at hl
      rw [hl]
      exact G2.out.hp
    | false =>
      have hf : Hid (f d.1 = none) := HPL.out
      obtain ⟨va, vcap, hv⟩ := own_len H1.out.hp.2.1
      have HV := hidden hv
      have ch0 := H1.out.hp.1.cell 0 rfl
      rw [show (#[v, .map (some m), fkey, ford] : Array Value)[0] = .slice va X.length vcap from hv] at ch0
      clear hv
      go_upto_region 4 with fail
      refine Ord.wp_region_ex0 (X := Value) (by kernel_rfl) 44 (fun x => [(some 27, .pointer (some ⟨b, 0, none⟩)), (some 28, .pointer (some ⟨b, 0, none⟩)), (some 29, .pointer (some ⟨b, 0, none⟩)), (some 30, .pointer (some ⟨b, 0, none⟩)), (some 31, v), (some 32, .agg #[.int .i64 d.1, .int .i64 d.2]), (some 33, .slice (some ⟨w1.heap.size, 0, none⟩) 1 1), (some 34, x), (some 35, .pointer (some ⟨b, 0, none⟩)), (some 36, .pointer (some ⟨b, 0, none⟩)), (none, undef)]) [some 27, some 28, some 29, some 30, some 31, some 32, some 33, some 34, some 35, some 36, none] rfl (fun listed hsz hr => Ord.all_listedC (rank := [0, 1, 2, 3, 4, 5, 6, 7, 8, 9, 10]) (by kernel_rfl) hsz hr) (by rfl) (fun _ => rfl) (by kernel_rfl) (Rg.StM [6, 7, 10] (fun k x w' => PushA w1 b v m X f n d k x w')) (fun _ _ _ _ hL h => h.ext (n := 11) (by decide) hL) ?_ ?_ undef ?_
      case refine_1 =>
        intro x Lq iq oq ac w' ho hi hcl hdep hF hW
        have f1 : ac.tmps.size = 44 := hF.1
        match iq, ho, hi, hdep with
        | 0, ho, hi, hdep =>
          cases ho
          have da0 : ac.eval (.tmp 0) = .pointer (some ⟨b, 0, none⟩) := hF.old 0 rfl
          exact Ord.ex_value x rfl rfl (Rg.mv da0 rfl) rfl (hW.keep (by decide))
        | 1, ho, hi, hdep =>
          cases ho
          have da0 : ac.eval (.tmp 0) = .pointer (some ⟨b, 0, none⟩) := hF.old 0 rfl
          exact Ord.ex_value x rfl rfl (Rg.mv da0 rfl) rfl (hW.keep (by decide))
        | 2, ho, hi, hdep =>
          cases ho
          have da0 : ac.eval (.tmp 28) = .pointer (some ⟨b, 0, none⟩) := hF.2.2.2 1 28 _ rfl (hdep ⟨1, .data⟩ (by simp) rfl)
          exact Ord.ex_value x rfl rfl (Rg.nilc da0 rfl) rfl (hW.keep (by decide))
        | 3, ho, hi, hdep =>
          cases ho
          have da0 : ac.eval (.tmp 29) = .pointer (some ⟨b, 0, none⟩) := hF.2.2.2 2 29 _ rfl (hdep ⟨2, .data⟩ (by simp) rfl)
          exact Ord.ex_value x rfl rfl (Rg.fa da0 rfl (by simp [go_sem])) rfl (hW.keep (by decide))
        | 4, ho, hi, hdep =>
          cases ho
          have da0 : ac.eval (.tmp 30) = .pointer (some ⟨b, 0, none⟩) := hF.2.2.2 3 30 _ rfl (hdep ⟨3, .data⟩ (by simp) rfl)
          obtain ⟨kq, hlo, hhi, hA⟩ := hW.range 0 1 (.inl rfl) (.inr ⟨7, rfl, (Rg.no_of (fun h => hcl 7 _ rfl (h) ⟨4, .data⟩ (by simp) rfl) hi)⟩)
          exact Ord.ex_value x rfl rfl (Rg.load da0 rfl (by rw [show v = .slice va X.length vcap from HV.out] at hA ⊢; have := hA.cell (HV.out ▸ H1.out.hp) hhi; simp [go_sem, this])) rfl (hW.keep (by decide))
        | 5, ho, hi, hdep =>
          cases ho
          have da0 : ac.eval (.tmp 3) = .pointer (some ⟨w.heap.size, 0, none⟩) := hF.old 3 rfl
          obtain ⟨kq, hlo, hhi, hA⟩ := hW.range 0 0 (.inl rfl) (.inr ⟨6, rfl, (Rg.no_of (fun h => hcl 6 _ rfl (h) ⟨5, .data⟩ (by simp) rfl) hi)⟩)
          exact Ord.ex_value x rfl rfl (Rg.load da0 rfl (by rw [hA.h0 (by omega)]; simp [go_sem, H1.out.box.cell 0 rfl, H1.out.box.cell 1 rfl])) rfl (hW.keep (by decide))
        | 6, ho, hi, hdep =>
          cases ho
          have da0 : ac.eval (.tmp 32) = .agg #[.int .i64 d.1, .int .i64 d.2] := hF.2.2.2 5 32 _ rfl (hdep ⟨5, .data⟩ (by simp) rfl)
          have hA := hW.at (k := 0) rfl hi (.inl rfl)
          have hw := hA.h0 rfl
          subst hw
          exact Ord.ex_value x rfl rfl (Rg.bsl rfl (by simp [da0]) (run_bs1 d _)) rfl (hW.next (k := 0) rfl (by decide) hi (.inl rfl) ⟨fun e => absurd e (by decide), fun _ => rfl, fun e => absurd e (by decide), fun e => absurd e (by decide)⟩)
        | 7, ho, hi, hdep =>
          cases ho
          have da0 : ac.eval (.tmp 31) = v := hF.2.2.2 4 31 _ rfl (hdep ⟨4, .data⟩ (by simp) rfl)
          have da1 : ac.eval (.tmp 33) = .slice (some ⟨w1.heap.size, 0, none⟩) 1 1 := hF.2.2.2 6 33 _ rfl (hdep ⟨6, .data⟩ (by simp) rfl)
          have hA := hW.at (k := 1) rfl hi (.inr ⟨6, rfl, (hdep ⟨6, .data⟩ (by simp) rfl)⟩)
          obtain ⟨v', w2, hr, hA2⟩ := hA.two H1.out.hp HX.out 26
          exact Ord.ex_letter x v' rfl rfl (Rg.app da0 da1 rfl hr) rfl (fun j hj => match j, hj with | 0, _ => rfl | 1, _ => rfl | 2, _ => rfl | 3, _ => rfl | 4, _ => rfl | 5, _ => rfl | 6, _ => rfl | 7, hj => absurd hj (by rw [hi]; decide) | 8, _ => rfl | 9, _ => rfl | 10, _ => rfl | _ + 11, _ => rfl) (hW.next (k := 1) rfl (by decide) hi (.inr ⟨6, rfl, (hdep ⟨6, .data⟩ (by simp) rfl)⟩) hA2)
        | 8, ho, hi, hdep =>
          cases ho
          have da0 : ac.eval (.tmp 27) = .pointer (some ⟨b, 0, none⟩) := hF.2.2.2 0 27 _ rfl (hdep ⟨0, .data⟩ (by simp) rfl)
          exact Ord.ex_value x rfl rfl (Rg.nilc da0 rfl) rfl (hW.keep (by decide))
        | 9, ho, hi, hdep =>
          cases ho
          have da0 : ac.eval (.tmp 35) = .pointer (some ⟨b, 0, none⟩) := hF.2.2.2 8 35 _ rfl (hdep ⟨8, .data⟩ (by simp) rfl)
          exact Ord.ex_value x rfl rfl (Rg.fa da0 rfl (by simp [go_sem])) rfl (hW.keep (by decide))
        | 10, ho, hi, hdep =>
          cases ho
          have da0 : ac.eval (.tmp 36) = .pointer (some ⟨b, 0, none⟩) := hF.2.2.2 9 36 _ rfl (hdep ⟨9, .data⟩ (by simp) rfl)
          have da1 : ac.eval (.tmp 34) = x := hF.2.2.2 7 34 _ rfl (hdep ⟨7, .data⟩ (by simp) rfl)
          have hA := hW.at (k := 2) rfl hi (.inr ⟨7, rfl, (hdep ⟨7, .data⟩ (by simp) rfl)⟩)
          obtain ⟨hr, hA2⟩ := hA.three H1.out.hp
          exact Rg.ex_skip x rfl rfl (Rg.sto da0 da1 rfl hr) rfl (hW.next (k := 2) rfl (by decide) hi (.inr ⟨7, rfl, (hdep ⟨7, .data⟩ (by simp) rfl)⟩) hA2)
      case refine_3 => exact Rg.StM.first ⟨fun _ => rfl, fun e => absurd e (by decide), fun e => absurd e (by decide), fun e => absurd e (by decide)⟩
      case refine_2 =>
        intro v' w2 hW
        obtain ⟨p1, p2, p3⟩ := hW.last.h3 rfl
        have P1 := hidden p1
        have P2 := hidden p2
        have P3 := hidden p3
        clear hW p1 p2 p3 cb0 cb1 ch0
        have hbx : Has w2 w.heap.size #[.int .i64 d.1, .int .i64 d.2] 43 := H1.out.box.stay P2.out (fun hh => by have := H.out.lt _ hh; omega)
        have cb0 := hbx.cell 0 rfl
        have cb1 := hbx.cell 1 rfl
        have LA := hidden (lay P1.out X.length (by simp) d hd64 (by have := HN.out; have := HX.out; omega) (by simp; omega))
        rw [more_out hf.out, show (X ++ [d]).set X.length d = X ++ [d] by rw [List.set_append_right _ _ (Nat.le_refl _)]; simp] at LA
        have SE : Hid (∀ W, Hp W b v' m (X ++ [d]) (upd f d.1 X.length) (n + 1) → Calls Try.prog 41 #[.pointer (some ⟨b, 0, none⟩), .int .i64 (X.length : Int)] W fun e w' => SinkO W b v' m (n + 1) (X ++ [d]) e w') := fun W hW =>
          settle hW (posn_push HPO.out hf.out) (by intro x hx; rcases List.mem_append.1 hx with h | h; exact HK.out x h; simp at h; rw [h]; exact hd) (by have := HN.out; have := HX.out; omega) (by simp; omega) X.length (by simp) (heap_push HHP.out)
        have HPE : Hid ((X ++ [d]).Perm (d :: rm d.1 X)) := by
          rw [show rm d.1 X = X from rm_none (fun x hx e => by
            obtain ⟨j, hj, rfl⟩ := List.mem_iff_getElem.1 hx
            have h1 := HPO.out.1 j hj
            have ej : at_ X j = X[j] := by unfold at_; rw [List.getD_eq_getElem?_getD, List.getElem?_eq_getElem hj]; rfl
            rw [ej, e, hf.out] at h1
            cases h1)]
          exact List.perm_append_comm
        unfold dv at LA
        clear hbx
        simp only [Ord.puts, Ord.prs]
        go_simp
        go_wp2_with fail
        refine Calls.mono LA.out ?_
        rintro e w3 ⟨rfl, hH2, hO2⟩
        have HH2 := hidden hH2
        have HO2 := hidden hO2
        clear hH2 hO2
        go_wp2_with fail
        refine Calls.mono (SE.out _ HH2.out) ?_
        rintro e w4 ⟨Y, f', rfl, g1, g2⟩
        have G1 := hidden g1
        have G2 := hidden g2
        clear g1 g2
        go_wp2
        go_end0
        have hl := G2.out.len
        refine ⟨v', Y, f', rfl, ?_, G2.out.pos, G1.out, G2.out.perm.trans HPE.out, ?_, fun k hk => ?_⟩
        · rw [List.length_append, ← HN.out] at hl
          rw [hl]
          exact G2.out.hp
        · exact (((Only.of_below H1.out.below).then P2.out).trans HO2.out (Ba.In.earlier P3.out H1.out.below.size)).trans G2.out.only (Ba.In.earlier P3.out H1.out.below.size)
        · exact Ba.In.earlier P3.out H1.out.below.size k hk
end Go.Proofs.Ytinhhfnknlmdgaa.Tm
