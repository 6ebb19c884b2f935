/-
  A heap of timers: an item is taken out.
  Conditions: the heap lies in memory, in order, its places as they are.
-/
import Derived.Test.YtinhhfnknlmdgaaTmF
namespace Go.Proofs.Ytinhhfnknlmdgaa.Tm
open Go.ChangeShapes Go.WideShapes Go.ChangeAt Go.RowKit Go.Sort
open Ba (hidden Only In Has own_ne own_stay own_len own_some own_mono cell_lt heap_lt)
set_option linter.unusedVariables false

theorem wpList_mdel {ops : Array Oper} {rest : List Oper} {o : Oper} {a : Act} {Q : Exit → Act → World → Prop} {w : World} {b n : Nat} {f : Int → Option Int} {k v : Int} (hg : o.guard = none) (m x : Operand) (hop : o.op = Op.call { callee := Callee.builtin Builtin.delete, args := #[m, x], argTypes := #[64, 3] })
    (hm : a.eval m = .map (some b)) (hx : a.eval x = .int .i64 k) (hM : Mp w b f (n + 1)) (hk : I64 k) (hf : f k = some v) (hK : ∀ w', Mp w' b (del f k) n → w.mapTurned w' b → wpList Try.prog ops Q rest (a.put o.dst (.tuple #[])) w') :
    wpList Try.prog ops Q (o :: rest) a w := by
  refine wpList_plain hg fun K' hK' => ?_
  obtain ⟨w', hrun, r1, r2⟩ := mp_drop hM hk hf o.type
  unfold Oper.wp
  simp [execOp, hop, resolve, invoke, builtin, hm, hx, hrun, Result.andThen]
  exact hK' _ _ (hK w' r1 r2)
/-- what take leaves -/
def TakeO (w : World) (b : Nat) (v : Value) (m : Nat) (X : List D) (f : Int → Option Int) (k : Int) (e : Ending) (w' : World) : Prop := ∃ (v' : Value) (Y : List D) (f' : Int → Option Int), e = .returned (.bool (f k).isSome) ∧ Hp w' b v' m Y f' Y.length ∧ Posn f' Y ∧ Heap Y ∧ Y.Perm (rm k X) ∧ Only (hfoot v b m) w w' ∧ In (hfoot v b m) (hfoot v' b m) w
theorem move_perm {X : List D} {l p : Nat} (hl : X.length = l + 1) (hp : p < l) : ((X.take l).set p (at_ X l)).Perm (X.eraseIdx p) := by
  have hX : X = X.take l ++ [at_ X l] := by
    have e : at_ X l = X[l] := by unfold at_; rw [List.getD_eq_getElem?_getD, List.getElem?_eq_getElem (by omega)]; rfl
    have h2 : X.drop l = [X[l]] := by rw [List.drop_eq_getElem_cons (by omega), List.drop_eq_nil_of_le (by omega)]
    rw [e, ← h2, List.take_append_drop]
  have hlt : (X.take l).length = l := by rw [List.length_take]; omega
  have hE : X.eraseIdx p = (X.take l).eraseIdx p ++ [at_ X l] := by
    have := List.eraseIdx_append_of_lt_length (l := X.take l) (k := p) (by omega) [at_ X l]
    rw [← hX] at this
    exact this
  rw [hE]
  exact (set_perm (by omega)).trans (List.perm_append_comm (l₁ := [at_ X l]))
/-- worlds behind the item's being cut off and its number deleted -/
structure TakA (w : World) (b : Nat) (v : Value) (m : Nat) (v2 : Value) (Y : List D) (f2 : Int → Option Int) (n2 : Nat) (d : D) (w' : World) : Prop where
  box : Has w' w.heap.size #[.int .i64 d.1, .int .i64 d.2] 43
  hp : Hp w' b v2 m Y f2 n2
  only : Only (hfoot v b m) w w'
theorem tak {w w' : World} {b m l g cap k2 : Nat} {X : List D} {f : Int → Option Int} {k : Int} {d : D} (h : Hp w b (.slice (some ⟨g, 0, none⟩) k2 cap) m X f (l + 1)) (hl : l ≤ X.length)
    (hM : Mp w' m (del f k) l) (ht : ((w.setCell ⟨b, 0, none⟩ (.slice (some ⟨g, 0, none⟩) l cap)).alloc (.cells #[.int .i64 d.1, .int .i64 d.2] 43)).mapTurned w' m) :
    TakA w b (.slice (some ⟨g, 0, none⟩) k2 cap) m (.slice (some ⟨g, 0, none⟩) l cap) (X.take l) (del f k) l d w' := by
  have hlt := h.lt
  have ho := turned_only ht
  have hs : (w.setCell ⟨b, 0, none⟩ (.slice (some ⟨g, 0, none⟩) l cap)).heap.size = w.heap.size := by simp [World.setCell]
  have o1 : Only [b] w (w.setCell ⟨b, 0, none⟩ (.slice (some ⟨g, 0, none⟩) l cap)) := Only.setCell w (p := ⟨b, 0, none⟩) (by simp) _
  have o2 : Only [b] w ((w.setCell ⟨b, 0, none⟩ (.slice (some ⟨g, 0, none⟩) l cap)).alloc (.cells #[.int .i64 d.1, .int .i64 d.2] 43)) := o1.then (Only.alloc _ _ _)
  have hml := hlt m (by simp [hfoot])
  have nbm : m ≠ b := h.2.2.ne h.1
  have nbg : b ≠ g := own_ne h.2.1 h.1 (by decide) g rfl
  have nmg : m ≠ g := h.2.2.ne_own h.2.1 g rfl
  refine ⟨?_, ⟨?_, ?_, hM⟩, ?_⟩
  · have := Has.new (w.setCell ⟨b, 0, none⟩ (.slice (some ⟨g, 0, none⟩) l cap)) #[.int .i64 d.1, .int .i64 d.2] 43
    rw [hs] at this
    exact this.stay ho (by simp; omega)
  · exact ((h.1.set 0 _).stay (Only.alloc [] _ _) (by simp)).stay ho (by simp; exact fun e => nbm e.symm)
  · exact own_stay (own_stay (h.2.1.pop hl) o2 (by intro k hk; cases hk; simp; exact fun e => nbg e.symm)) ho (by intro k hk; cases hk; simp; exact fun e => nmg e.symm)
  · exact (o2.mono (by simp [hfoot])).then (ho.mono (by simp [hfoot]))
set_option maxHeartbeats 2000000 in
set_option maxRecDepth 20000 in
theorem take {w : World} {b m n : Nat} {v : Value} {X : List D} {f : Int → Option Int} (h : Hp w b v m X f n) (hn : n = X.length) (hpo : Posn f X) (hh : Heap X) (hk : ∀ d ∈ X, Ok d) (k : Int) (hk64 : I64 k) : Calls Try.prog 34 #[.pointer (some ⟨b, 0, none⟩), .int .i64 k] w fun e w' => TakeO w b v m X f k e w' := by
  have hX : X.length ≤ 4096 := few hpo.nodup hk
  have c0 := h.1.cell 0 rfl
  have c1 := h.1.cell 1 rfl
  have hr := mp_look h.2.2 hk64
  cases hf : f k with
  | none =>
    have HO : Hid (∀ e, e = Ending.returned (.bool false) → TakeO w b v m X f k e w) := fun e he => ⟨v, X, f, by rw [hf]; exact he, hn ▸ h, hpo, hh, by
      rw [rm_none (fun x hx e => by
        obtain ⟨j, hj, rfl⟩ := List.mem_iff_getElem.1 hx
        have h1 := hpo.1 j hj
        have ej : at_ X j = X[j] := by unfold at_; rw [List.getD_eq_getElem?_getD, List.getElem?_eq_getElem hj]; rfl
        rw [ej, e, hf] at h1
        cases h1)], Only.refl _ _, In.refl _ _⟩
    rw [hf] at hr
    simp only [Option.getD_none, Option.isSome_none] at hr
    clear h hpo hh hk hf c0
    go_enter Try.func34, Try.ntmps34
    go_wp2
    go_ret
    exact HO.out _ rfl
  | some p =>
    obtain ⟨q1, q2, q3⟩ := hpo.2 k p hf
    obtain ⟨l, hl⟩ : ∃ l, X.length = l + 1 := ⟨X.length - 1, by omega⟩
    obtain ⟨g, cap, hv, hg, hcl, hcm⟩ := h.2.1.get q2
    subst hv
    obtain ⟨a1, a2, _⟩ := h.2.1.cell (i := l) (by omega)
    have hb := h.1.lt
    have f0 := h.1.frozen 0
    rw [hf] at hr
    simp only [Option.getD_some, Option.isSome_some] at hr
    obtain ⟨d, hd⟩ : ∃ d, d = at_ X l := ⟨_, rfl⟩
    have hdk : Ok d := by rw [hd]; exact hk _ (at_mem (by omega))
    rw [← hd] at a1 a2
    have hM0 : Mp ((w.setCell ⟨b, 0, none⟩ (.slice (some ⟨g, 0, none⟩) l cap)).alloc (.cells #[.int .i64 d.1, .int .i64 d.2] 43)) m f (l + 1) := by
      rw [hn, hl] at h
      exact (h.2.2.stay (Only.setCell (F := [b]) w (p := ⟨b, 0, none⟩) (by simp) _) (by simp; exact h.2.2.ne h.1)).stay (Only.alloc [] _ _) (by simp)
    have HT : Hid (∀ w', Mp w' m (del f k) l → ((w.setCell ⟨b, 0, none⟩ (.slice (some ⟨g, 0, none⟩) l cap)).alloc (.cells #[.int .i64 d.1, .int .i64 d.2] 43)).mapTurned w' m → TakA w b (.slice (some ⟨g, 0, none⟩) X.length cap) m (.slice (some ⟨g, 0, none⟩) l cap) (X.take l) (del f k) l d w') := fun w' hM ht => by
      rw [hn, hl] at h
      exact tak (hl ▸ h) (by omega) hM ht
    have HM0 := hidden hM0
    have HF := hidden hf
    have HD := hidden hd
    have HL := hidden hl
    have HPO := hidden hpo
    have HHP := hidden hh
    have HK := hidden hk
    have HQ3 := hidden q3
    have HE : Hid (∀ e, e = Ending.returned (.bool true) → e = .returned (.bool (f k).isSome)) := fun e he => by rw [hf]; exact he
    have c0' : w.cell? ⟨b, 0, none⟩ = some (.slice (some ⟨g, 0, none⟩) (l + 1) cap) := by rw [← hl]; exact c0
    have e1 : ((l + 1 : Nat) : Int) - 1 = (l : Int) := by omega
    have i1 : (l : Int) < ((l + 1 : Nat) : Int) := by omega
    have i2 : (l : Int) ≤ 4096 := by omega
    have i3 : (l : Int) ≤ ((cap : Nat) : Int) := by omega
    have i4 : p ≤ (l : Int) := by omega
    clear c0 h hpo hh hk hf hM0 hd hl q2 q3 hcl hcm hX hn
    obtain ⟨w2, hrun, hM2, ht2⟩ := mp_drop HM0.out hk64 HF.out 0
    have TA := hidden (HT.out w2 hM2 ht2)
    have cb0 := TA.out.box.cell 0 rfl
    have cb1 := TA.out.box.cell 1 rfl
    clear hM2 ht2 HT HM0
    by_cases hpl : p < (l : Int)
    · have hpt : p.toNat < (X.take l).length := by rw [List.length_take]; have := HL.out; omega
      have hlt : (X.take l).length = l := by rw [List.length_take]; have := HL.out; omega
      have hdp : (f d.1) = some (l : Int) := by rw [HD.out]; exact HPO.out.1 l (by have := HL.out; omega)
      have hne : d.1 ≠ k := fun e => by
        rw [e, HF.out] at hdp
        have := Option.some.inj hdp
        omega
      have LA := hidden (lay TA.out.hp p.toNat hpt d (by unfold I64; have := hdk.1; omega) (by omega) (by omega))
      rw [more_in (by unfold del; rw [if_neg hne, hdp]; rfl), Int.toNat_of_nonneg q1] at LA
      have SE : Hid (∀ W, Hp W b (.slice (some ⟨g, 0, none⟩) l cap) m ((X.take l).set p.toNat d) (upd (del f k) d.1 p) l → Calls Try.prog 41 #[.pointer (some ⟨b, 0, none⟩), .int .i64 p] W fun e w' => SinkO W b (.slice (some ⟨g, 0, none⟩) l cap) m l ((X.take l).set p.toNat d) e w') := fun W hW => by
        have hpm := posn_move (p := p.toNat) HPO.out HL.out (by omega)
        rw [HQ3.out, ← HD.out, Int.toNat_of_nonneg q1] at hpm
        have := settle hW hpm (by intro x hx; rcases List.mem_or_eq_of_mem_set hx with h | h; exact HK.out x (List.mem_of_mem_take h); rw [h]; exact hdk) (by omega) (by rw [List.length_set]; omega) p.toNat (by rw [List.length_set]; exact hpt) (heap_set (heap_take HHP.out (by have := HL.out; omega)) hpt)
        rw [Int.toNat_of_nonneg q1] at this
        exact this
      have HPE : Hid (((X.take l).set p.toNat d).Perm (rm k X)) := by
        have := move_perm (p := p.toNat) HL.out (by omega)
        rw [← HD.out] at this
        rw [← HQ3.out, rm_erase HPO.out (by have := HL.out; omega)]
        exact this
      unfold dv at LA
      clear hdp hne hpt
      have HLT := hidden hlt
      clear hlt
      go_enter Try.func34, Try.ntmps34
      go_wp2_with fail
      refine Calls.mono LA.out ?_
      rintro e w3 ⟨rfl, hH2, hO2⟩
      have HH2 := hidden hH2
      have HO2 := hidden hO2
      clear hH2 hO2
      go_wp2_with fail
      refine Calls.mono (SE.out _ HH2.out) ?_
      rintro e w4 ⟨Y, f', rfl, g1, g2⟩
      have G1 := hidden g1
      have G2 := hidden g2
      clear g1 g2
      go_wp2
      go_ret
      refine ⟨.slice (some ⟨g, 0, none⟩) l cap, Y, f', HE.out _ rfl, ?_, G2.out.pos, G1.out, G2.out.perm.trans HPE.out, ?_, fun k hk => .inl hk⟩
      · have hl := G2.out.len
        rw [List.length_set, HLT.out] at hl
        rw [hl]
        exact G2.out.hp
      · exact (TA.out.only.then HO2.out).then G2.out.only
    · have HP : Hid (p = (l : Int)) := by unfold Hid; omega
      go_enter Try.func34, Try.ntmps34
      go_wp2
      go_ret
      have hdk2 : d.1 = k := by rw [HD.out, ← HQ3.out, HP.out]; simp
      have hlt : (X.take l).length = l := by rw [List.length_take]; have := HL.out; omega
      refine ⟨.slice (some ⟨g, 0, none⟩) l cap, X.take l, del f k, HE.out _ rfl, hlt.symm ▸ TA.out.hp, ?_, heap_take HHP.out (by have := HL.out; omega), ?_, TA.out.only, fun k hk => .inl hk⟩
      · have := posn_pop HPO.out HL.out
        rw [← HD.out, hdk2] at this
        exact this
      · rw [← hdk2, HD.out, rm_erase HPO.out (by have := HL.out; omega), List.eraseIdx_eq_take_drop_succ, List.drop_eq_nil_of_le (by have := HL.out; omega), List.append_nil]
end Go.Proofs.Ytinhhfnknlmdgaa.Tm
