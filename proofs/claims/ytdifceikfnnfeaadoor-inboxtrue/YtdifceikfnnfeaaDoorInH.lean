/-
  The document's box: a new one, what cum has reached is taken out, what is fixed, what came above cum, a packet that was heard of.
  Conditions: as at each lemma.
-/
import Derived.Test.YtdifceikfnnfeaaDoorInG
namespace Go.Proofs.YtdifceikfnnfeaaDoor.Sp.Inb
open Go.ChangeShapes Go.WideShapes Go.ChangeAt Go.RowKit
open Ba (hidden Has cell_lt heap_lt)
set_option linter.unusedVariables false
set_option maxRecDepth 20000
section
variable {n0 : Nat} {w : World} {r bs : Nat} {fx dp : Value} {P : List Nat} {s : St} {K : Nat}
theorem rcells_of {w : World} {r bs : Nat} {nr : Bool} {delay n time : Int} {fx dp : Value} {made set : Bool} (hq : Has w r (rb bs nr delay fx dp n made set time) 64) : w.cell? ⟨r, 0, none⟩ = some (.pointer (some ⟨bs, 0, none⟩)) ∧ w.cell? ⟨r, 1, none⟩ = some (.bool nr) ∧ w.cell? ⟨r, 2, none⟩ = some (.int .i64 delay) ∧ w.cell? ⟨r, 3, none⟩ = some fx ∧ w.cell? ⟨r, 4, none⟩ = some dp ∧ w.cell? ⟨r, 5, none⟩ = some (.int .i64 n) ∧ w.cell? ⟨r, 6, none⟩ = some (.bool made) ∧ w.cell? ⟨r, 7, none⟩ = some (.bool set) ∧ w.cell? ⟨r, 8, none⟩ = some (.int .i64 time) ∧ ∀ i, w.frozen? ⟨r, i, none⟩ = false :=
  ⟨hq.cell 0 rfl, hq.cell 1 rfl, hq.cell 2 rfl, hq.cell 3 rfl, hq.cell 4 rfl, hq.cell 5 rfl, hq.cell 6 rfl, hq.cell 7 rfl, hq.cell 8 rfl, fun i => hq.frozen i⟩
/-- a new box of the document -/
theorem r_new (first : Nat) (hc : first < 4294967296) (delay : Int) (nr : Bool) (w : World) (hw : 0 < w.heap.size) : Calls Tryd.prog 9 #[.int .u32 (first : Int), .int .i64 delay, .bool nr] w fun e w' =>
    (¬ (0 ≤ delay ∧ delay ≤ 500) ∧ e = .returned (.tuple #[.pointer none, .int .i64 190]) ∧ w = w') ∨
    ((0 ≤ delay ∧ delay ≤ 500) ∧ ∃ r bs, e = .returned (.tuple #[.pointer (some ⟨r, 0, none⟩), .int .i64 0]) ∧ Rf w.heap.size w' r bs (.slice none 0 0) (.slice none 0 0) [] (newS first delay nr) ∧ Below w.heap.size w w') := by
  have hu : IntKind.u32.wrap ((first : Int) - 1) = ((((first : Int) - 1) % 4294967296).toNat : Int) := by show ((first : Int) - 1) % 4294967296 = _; omega
  have hcl : (((first : Int) - 1) % 4294967296).toNat < 4294967296 := by omega
  by_cases h1 : delay < 0
  · go_enter Tryd.func9, Tryd.ntmps9
    go_wp2
    go_ret2
    exact .inl ⟨by omega, rfl, rfl⟩
  · by_cases h2 : 500 < delay
    · have HZ := hidden (show ¬ (0 ≤ delay ∧ delay ≤ 500) by omega)
      go_enter Tryd.func9, Tryd.ntmps9
      go_wp2
      go_ret2
      left
      first | exact ⟨HZ.out, rfl, rfl⟩ | exact ⟨rfl, rfl⟩
    · have RN := hidden (rnew _ hcl w)
      have HN := hidden (show newS first delay nr = ⟨(((first : Int) - 1) % 4294967296).toNat, [], [], [], 0, false, 0, delay, nr⟩ from rfl)
      generalize (((first : Int) - 1) % 4294967296).toNat = c at *
      have hz := hidden (show (0 ≤ delay ∧ delay ≤ 500) by omega)
      go_enter Tryd.func9, Tryd.ntmps9
      go_wp2_with fail
      refine Calls.mono RN.out ?_
      rintro e w1 ⟨rfl, hR, hB⟩
      have hs1 := hB.size
      go_wp2
      go_ret2
      refine .inr ⟨hz.out, w1.heap.size, w.heap.size, rfl, ?_, hB.alloc hs1 _⟩
      rw [HN.out]
      have hBa : Below w1.heap.size w1 (w1.alloc (.cells (rb w.heap.size nr delay (.slice none 0 0) (.slice none 0 0) 0 false false 0) 64)) := below_new _ _
      exact ⟨Has.new w1 (rb w.heap.size nr delay (.slice none 0 0) (.slice none 0 0) 0 false false 0) 64, hR.below hBa, World.ownsRow_nil _ _ _ _, List.Perm.nil, World.ownsRow_nil _ _ _ _, fun k hk => (by cases hk), by omega, by omega, hw, by rw [World.size_alloc]; omega⟩
/-- is a number among the fixed ones? -/
theorem r_fixed {nr : Bool} {delay n time : Int} {made set : Bool} (hq : Has w r (rb bs nr delay fx dp n made set time) 64) (hf : w.ownsRow n0 22 1 fx P.length (us P)) (hl : P.length ≤ 65536) (t : Nat) : Calls Tryd.prog 53 #[.pointer (some ⟨r, 0, none⟩), .int .u32 (t : Int)] w fun e w' => e = .returned (.bool (decide (t ∈ P))) ∧ w = w' := by
  obtain ⟨c0, c1, c2, c3, c4, c5, c6, c7, c8, cf⟩ := rcells_of hq
  obtain ⟨a, cap, hv⟩ := Ba.own_len hf
  have HN := hidden (nums_us hf)
  rw [hv] at c3 HN
  clear hq hf hv
  obtain ⟨N, hN⟩ : ∃ N, Hid (P.length = N) := ⟨_, rfl⟩
  rw [hN.out] at c3 HN hl
  go_enter Tryd.func53, Tryd.ntmps53
  go_wp2_with fail
  go_loopw [5] (fun i wr => ∃ k : Nat, k ≤ N ∧ i = .int .i64 (k : Int) ∧ w = wr ∧ ∀ x ∈ P.take k, x ≠ t) (fun i wr => N - (intOf i).toNat)
  case atStart => exact ⟨0, by omega, rfl, rfl, by simp⟩
  case round =>
    obtain ⟨k, hk, rfl, rfl, hno⟩ := hrel
    by_cases hlt : k < N
    · have hkl : k < P.length := by rw [hN.out]; exact hlt
      obtain ⟨x, hx⟩ : ∃ x, P[k]? = some x := ⟨_, List.getElem?_eq_getElem hkl⟩
      obtain ⟨rb_, off, rfl, hrb, hc⟩ := Nums.nat HN.out hlt
      rw [nf_some hx] at hc
      have hlt' : (k : Int) < (N : Int) := by omega
      by_cases hxt : x = t
      · have HR := hidden (decide_eq_true (hxt ▸ List.mem_of_getElem? hx : t ∈ P))
        have he : ((x : Int) == (t : Int)) = true := by rw [hxt]; simp
        clear hxt hx hno
        generalize (x : Int) = xI at *
        generalize (t : Int) = tI at *
        go_wp2
        go_ret
        exact ⟨by rw [HR.out]; rfl, rfl⟩
      · have he : ((x : Int) == (t : Int)) = false := by rw [beq_eq_false_iff_ne]; omega
        have HR := hidden (show ∀ y ∈ P.take (k + 1), y ≠ t by
          intro y hy
          rw [take_some hx] at hy
          rcases List.mem_append.1 hy with h | h
          · exact hno y h
          · simp at h; subst h; exact hxt)
        clear hxt hx hno
        generalize (x : Int) = xI at *
        generalize (t : Int) = tI at *
        go_wp2
        go_roundw
        case rel => first | exact ⟨k + 1, hlt, rfl, rfl, HR.out⟩ | exact ⟨k + 1, hlt, rfl, trivial, HR.out⟩
        case measure => simp only [intOf]; omega
    · obtain rfl : k = N := by omega
      have HR := hidden (show decide (t ∈ P) = false from decide_eq_false (by
        intro hm
        rw [← hN.out, List.take_length] at hno
        exact hno t hm rfl))
      clear hno
      go_wp2
      go_ret
      exact ⟨by rw [HR.out]; rfl, rfl⟩
theorem rless_ (a b : Nat) (ha : a < 4294967296) (hb : b < 4294967296) (w : World) : Calls Tryd.prog 28 #[.int .u32 (a : Int), .int .u32 (b : Int)] w fun e w' => e = .returned (.bool (decide (0 < ds a b))) ∧ w = w' := by
  refine (Ser.rless (a : Int) (b : Int) (by omega) (by omega) w).mono ?_
  rintro e w' ⟨rfl, rfl⟩
  exact ⟨rfl, rfl⟩
/-- what cum has reached is not among the fixed ones -/
theorem r_tidy {nr : Bool} {delay n time : Int} {made set : Bool} {c : Nat} {L : List Nat} (hq : Has w r (rb bs nr delay fx dp n made set time) 64) (ha : IsRef w bs c L) (hf : w.ownsRow n0 22 1 fx P.length (us P)) (hP : ∀ t ∈ P, t < 4294967296) (hl : P.length ≤ 65536) (hn : n0 ≤ w.heap.size) :
    Calls Tryd.prog 50 #[.pointer (some ⟨r, 0, none⟩)] w fun e w' => ∃ fx', e = .returned (.tuple #[]) ∧ Has w' r (rb bs nr delay fx' dp n made set time) 64 ∧ w'.ownsRow w.heap.size 22 1 fx' (P.filter fun t => decide (0 < ds c t)).length (us (P.filter fun t => decide (0 < ds c t))) ∧ Mod (fun k => k = r) w w' := by
  obtain ⟨a, cap, hv⟩ := Ba.own_len hf
  have hc : c < 4294967296 := ha.1
  have HQ := hidden hq
  have HN := hidden (nums_us hf)
  have HR := hidden ha.read
  obtain ⟨d0, ra, rcap, d1, _⟩ := ha.read
  have hbl := ha.lt
  have HL := hidden (fun (t : Nat) (ht : t < 4294967296) (X : World) => rless_ c t hc ht X)
  have HP := hidden hP
  have HC := hidden (fun (X : World) (hX : Below w.heap.size w X) => (by
    obtain ⟨c0, c1, c2, c3, c4, c5, c6, c7, c8, cf⟩ := rcells_of (hq.later hX)
    exact ⟨c0, hv ▸ c3, (hX.cell (p := ⟨bs, 0, none⟩) hbl).trans d0⟩ : X.cell? ⟨r, 0, none⟩ = some (.pointer (some ⟨bs, 0, none⟩)) ∧ X.cell? ⟨r, 3, none⟩ = some (.slice a P.length cap) ∧ X.cell? ⟨bs, 0, none⟩ = some (.int .u32 (c : Int))))
  rw [hv] at HN
  have HV := hidden hv
  clear hq ha hf d0 d1 hP hv
  obtain ⟨N, hN⟩ : ∃ N, Hid (P.length = N) := ⟨_, rfl⟩
  rw [hN.out] at HC HN hl
  go_enter Tryd.func50, Tryd.ntmps50
  go_wp2_with fail
  go_loopw [2, 3] (fun l i wr => ∃ k : Nat, k ≤ N ∧ i = .int .i64 (k : Int) ∧ wr.ownsRow w.heap.size 22 1 l ((P.take k).filter fun t => decide (0 < ds c t)).length (us ((P.take k).filter fun t => decide (0 < ds c t))) ∧ Below w.heap.size w wr) (fun l i wr => N - (intOf i).toNat)
  case atStart => exact ⟨0, by omega, rfl, World.ownsRow_nil _ _ _ _, Below.refl _ _⟩
  case round =>
    obtain ⟨k, hk, rfl, ho, hB⟩ := hrel
    obtain ⟨c0, c3, b0⟩ := HC.out _ hB
    by_cases hlt : k < N
    · have hkl : k < P.length := by rw [hN.out]; exact hlt
      obtain ⟨x, hx⟩ : ∃ x, P[k]? = some x := ⟨_, List.getElem?_eq_getElem hkl⟩
      obtain ⟨rb_, off, rfl, hrb, hcx⟩ := Nums.nat (HN.out.later hB) hlt
      rw [nf_some hx] at hcx
      have hlt' : (k : Int) < (N : Int) := by omega
      have LE : Hid (∀ m : Nat, Calls Tryd.prog 28 #[.int .u32 (c : Int), .int .u32 (x : Int)] (wr.drewN m) fun e w' => e = .returned (.bool (decide (0 < ds c x))) ∧ w' = wr.drewN m) := fun m => (HL.out x (HP.out x (List.mem_of_getElem? hx)) _).mono fun e w' h => ⟨h.1, h.2.symm⟩
      have HO := hidden ho
      have HB := hidden hB
      have E1 := hidden (show (P.take (k + 1)).filter (fun t => decide (0 < ds c t)) = (P.take k).filter (fun t => decide (0 < ds c t)) ++ (if 0 < ds c x then [x] else []) by
        rw [take_some hx, List.filter_append]
        congr 1
        by_cases h : 0 < ds c x
        · rw [if_pos h, List.filter_cons_of_pos (by simp [h])]; rfl
        · rw [if_neg h, List.filter_cons_of_neg (by simp [h])]; rfl)
      have hpl : ((P.take k).filter fun t => decide (0 < ds c t)).length ≤ 65536 := by
        have := List.length_filter_le (fun t => decide (0 < ds c t)) (P.take k)
        rw [List.length_take] at this
        omega
      obtain ⟨la, lcap, rfl⟩ := Ba.own_len ho
      generalize hnl : ((P.take k).filter fun t => decide (0 < ds c t)).length = nl at *
      have HNL := hidden hnl
      clear ho hB hx hnl
      by_cases hd : 0 < ds c x
      · rw [decide_eq_true hd] at LE
        have E2 := E1.out
        rw [if_pos hd] at E2
        have HE := hidden E2
        have AP := hidden (fun (X : World) (h1 : X.ownsRow w.heap.size 22 1 (.slice la nl lcap) ((P.take k).filter fun t => decide (0 < ds c t)).length (us ((P.take k).filter fun t => decide (0 < ds c t)))) (h2 : w.heap.size ≤ X.heap.size) => app1 (w := X) x h1 (by rw [HNL.out]; omega) h2)
        clear E1 E2 hd
        generalize hxI : (x : Int) = xI at *
        clear hxI
        go_wp2_with fail
        go_quiet (first | (go_at_call 28; exact Calls.quiet_of_same (LE.out _)))
        obtain ⟨X, hX, hBX⟩ : ∃ X, wr.drewN nq = X ∧ Hid (Below wr.heap.size wr X) := ⟨_, rfl, below_drewN (Below.refl _ _) _⟩
        rw [hX]
        have hB2 := HB.out.trans (hBX.out.mono HB.out.size)
        have ho2 := own_later HO.out hBX.out
        obtain ⟨k0, k3, kb⟩ := HC.out _ hB2
        have kx := (hBX.out.cell (p := ⟨rb_, off + k, none⟩) (cell_lt hcx)).trans hcx
        obtain ⟨v', w2, hr, ho3, hg3, hv3⟩ := AP.out X (by rw [HNL.out]; exact ho2) hB2.size
        have HR2 := hidden hr
        have hBn := hB2.trans (((below_new X (.cells #[.int .u32 xI] 22)).mono hB2.size))
        have hB3 : Below w.heap.size w w2 := hBn.trans ((Mod.grown (F := fun k => w.heap.size ≤ k) hg3 (fun q hq => (own_type ho2 hq).2)).below hBn.size (fun k h => h))
        have FN := hidden (⟨by rw [HE.out]; exact ho3, hB3⟩ : w2.ownsRow w.heap.size 22 1 v' ((P.take (k + 1)).filter fun t => decide (0 < ds c t)).length (us ((P.take (k + 1)).filter fun t => decide (0 < ds c t))) ∧ Below w.heap.size w w2)
        clear hX hBX hB2 ho2 hr ho3 hg3 hv3 hBn hB3 c0 c3 b0 hcx LE AP HE
        go_wp2_with (at_builtin; refine Rg.wpList_app rfl _ _ 33 rfl rfl rfl HR2.out ?_)
        go_wp2
        go_roundw
        case rel => exact ⟨k + 1, hlt, rfl, FN.out⟩
        case measure => simp only [intOf]; omega
      · rw [decide_eq_false hd] at LE
        have E2 := E1.out
        rw [if_neg hd, List.append_nil] at E2
        have FN := hidden (fun m => ⟨by rw [E2, HNL.out]; exact own_later HO.out (below_drewN (Below.refl _ _) m), below_drewN HB.out m⟩ : ∀ m, (wr.drewN m).ownsRow w.heap.size 22 1 (.slice la nl lcap) ((P.take (k + 1)).filter fun t => decide (0 < ds c t)).length (us ((P.take (k + 1)).filter fun t => decide (0 < ds c t))) ∧ Below w.heap.size w (wr.drewN m))
        clear E1 E2 hd
        generalize hxI : (x : Int) = xI at *
        clear hxI
        go_wp2_with fail
        go_quiet (first | (go_at_call 28; exact Calls.quiet_of_same (LE.out _)))
        go_wp2
        go_roundw
        case rel => exact ⟨k + 1, hlt, rfl, FN.out _⟩
        case measure => simp only [intOf]; omega
    · obtain rfl : k = N := by omega
      have e1 : P.take k = P := by rw [← hN.out]; exact List.take_length
      rw [e1] at ho
      obtain ⟨la, lcap, rfl⟩ := Ba.own_len ho
      have hq2 := HQ.out.later hB
      have hqs := hq2.set 3 (.slice la (P.filter fun t => decide (0 < ds c t)).length lcap)
      have hm := Mod.setCell (F := fun k => k = r) wr (p := ⟨r, 3, none⟩) rfl (.slice la (P.filter fun t => decide (0 < ds c t)).length lcap)
      have FN := hidden (⟨hqs, keep_any hm hq2 (by decide) ho, (Mod.of_below hB).trans hm (fun x hx => .inl hx)⟩ : _ ∧ _ ∧ Mod (fun k => k = r) w _)
      have cf := hq2.frozen 3
      have cc3 : wr.cell? ⟨r, 3, none⟩ = some fx := hq2.cell 3 rfl
      rw [HV.out] at cc3
      generalize hnl : (P.filter fun t => decide (0 < ds c t)).length = nl at *
      have HNL := hidden hnl
      clear ho hB hq2 hqs hm hnl
      go_wp2
      go_end0
      exact ⟨.slice la nl lcap, rfl, FN.out.1, by rw [HNL.out]; exact FN.out.2.1, FN.out.2.2⟩
/-- the loads of a box of the document -/
theorem Rf.cells (h : Rf n0 w r bs fx dp P s) : ∃ ra rcap, w.cell? ⟨r, 0, none⟩ = some (.pointer (some ⟨bs, 0, none⟩)) ∧ w.cell? ⟨r, 1, none⟩ = some (.bool s.nr) ∧ w.cell? ⟨r, 2, none⟩ = some (.int .i64 s.delay) ∧ w.cell? ⟨r, 3, none⟩ = some fx ∧ w.cell? ⟨r, 4, none⟩ = some dp ∧ w.cell? ⟨r, 5, none⟩ = some (.int .i64 s.n) ∧ w.cell? ⟨r, 6, none⟩ = some (.bool s.made) ∧ w.cell? ⟨r, 7, none⟩ = some (.bool (decide (0 < s.n))) ∧ w.cell? ⟨r, 8, none⟩ = some (.int .i64 s.time) ∧ (∀ i, w.frozen? ⟨r, i, none⟩ = false) ∧ w.cell? ⟨bs, 0, none⟩ = some (.int .u32 (s.c : Int)) ∧ w.cell? ⟨bs, 1, none⟩ = some (.slice ra s.L.length rcap) := by
  obtain ⟨c0, c1, c2, c3, c4, c5, c6, c7, c8, cf⟩ := rcells_of h.q
  obtain ⟨d0, ra, rcap, d1, _⟩ := h.a.read
  exact ⟨ra, rcap, c0, c1, c2, c3, c4, c5, c6, c7, c8, cf, d0, d1⟩
theorem Rf.plen (h : Rf n0 w r bs fx dp P s) (hk : Ok K s) : P.length ≤ 65536 := by rw [h.p.len]; exact good_len hk.F
theorem fixed_ (h : Rf n0 w r bs fx dp P s) (hk : Ok K s) (t : Nat) (ht : t < 4294967296) : Calls Tryd.prog 53 #[.pointer (some ⟨r, 0, none⟩), .int .u32 (t : Int)] w fun e w' => e = .returned (.bool (decide ((ds s.c t).toNat ∈ s.F))) ∧ w = w' := by
  have := r_fixed h.q h.f (h.plen hk) t
  rw [decide_eq_decide.2 (h.p.mem hk.c hk.F ht)] at this
  exact this
/-- did a number above cum come? -/
theorem above_ (h : Rf n0 w r bs fx dp P s) (hk : Ok K s) (t : Nat) (ht : t < 4294967296) : Calls Tryd.prog 52 #[.pointer (some ⟨r, 0, none⟩), .int .u32 (t : Int)] w fun e w' => e = .returned (.bool (decide ((ds s.c t).toNat ∈ s.L))) ∧ w = w' := by
  obtain ⟨ra, rcap, c0, c1, c2, c3, c4, c5, c6, c7, c8, cf, d0, d1⟩ := h.cells
  have LE := hidden (rless_ s.c t hk.c ht w)
  have HA := hidden (rHas t ht w h.a)
  have hL := hk.L
  by_cases hd : 0 < ds s.c t
  · have e1 : isIn s.c s.L t = decide ((ds s.c t).toNat ∈ s.L) := by
      unfold isIn
      rw [decide_eq_false (show ¬ Ser.dist 4294967296 (s.c : Int) (t : Int) ≤ 0 from by unfold ds at hd; omega)]
      rfl
    rw [e1] at HA
    rw [decide_eq_true hd] at LE
    clear h hk hd e1
    generalize decide ((ds s.c t).toNat ∈ s.L) = B at *
    generalize (t : Int) = tI at *
    generalize (s.c : Int) = cI at *
    go_enter Tryd.func52, Tryd.ntmps52
    go_wp2_with fail
    refine Calls.mono LE.out ?_
    rintro e w' ⟨rfl, rfl⟩
    go_wp2_with fail
    refine Calls.mono HA.out ?_
    rintro e w' ⟨rfl, rfl⟩
    go_wp2
    go_ret
    exact ⟨rfl, rfl⟩
  · have e1 : decide ((ds s.c t).toNat ∈ s.L) = false := decide_eq_false fun hm => by have := hL.2 _ hm; omega
    rw [decide_eq_false hd] at LE
    rw [e1]
    clear h hk hd e1 HA
    generalize (t : Int) = tI at *
    generalize (s.c : Int) = cI at *
    go_enter Tryd.func52, Tryd.ntmps52
    go_wp2_with fail
    refine Calls.mono LE.out ?_
    rintro e w' ⟨rfl, rfl⟩
    go_wp2
    go_ret
    exact ⟨rfl, rfl⟩
theorem drop_fin {w' : World} {D : Nat} (h : Rf n0 w r bs fx dp P s) (hS : IsRef w' bs s.c (del D s.L)) (hg : w.grownBy w' (some bs)) : Rf n0 w' r bs fx dp P { s with L := del D s.L } ∧ Mod (FD r bs fx dp) w w' := by
  obtain ⟨g1, g2, g3⟩ := h.nb
  have hm : Mod (fun k => k = bs) w w' := Mod.grown hg (by rintro k e; cases e; rfl)
  exact ⟨⟨hm.has h.q (show ¬ r = bs from g1), hS, hm.own h.f (fun k hk => show ¬ k = bs from (g2 k hk).2), h.p, hm.own h.d (fun k hk => show ¬ k = bs from (g3 k hk).2), h.ne, h.hr, h.hs, h.h0, Nat.le_trans h.hn hm.size⟩, hm.mono fun k hk => .inr (.inl hk)⟩
/-- a number is given up -/
theorem r_drop (h : Rf n0 w r bs fx dp P s) (hk : Ok K s) (t : Nat) (ht : t < 4294967296) : Calls Tryd.prog 38 #[.pointer (some ⟨r, 0, none⟩), .int .u32 (t : Int)] w fun e w' => e = .returned (.bool (free t s)) ∧ Rf n0 w' r bs fx dp P (dropS t s) ∧ Mod (FD r bs fx dp) w w' := by
  obtain ⟨ra, rcap, c0, c1, c2, c3, c4, c5, c6, c7, c8, cf, d0, d1⟩ := h.cells
  have AB := hidden (above_ h hk t ht)
  have FI := hidden (fixed_ h hk t ht)
  have DE := hidden (rDel t ht w h.a)
  have same := (⟨h, Mod.refl _ _⟩ : Rf n0 w r bs fx dp P s ∧ Mod (FD r bs fx dp) w w)
  by_cases h1 : (ds s.c t).toNat ∈ s.L
  · rw [decide_eq_true h1] at AB
    by_cases h2 : (ds s.c t).toNat ∈ s.F
    · rw [decide_eq_true h2] at FI
      have e1 : free t s = false := free_not.2 (.inr h2)
      have e2 : dropS t s = s := by unfold dropS; rw [if_neg (by rw [e1]; simp)]
      rw [e1, e2]
      have FN := hidden same
      clear h hk same DE h1 h2 e1 e2
      generalize (t : Int) = tI at *
      go_enter Tryd.func38, Tryd.ntmps38
      go_wp2_with fail
      refine Calls.mono AB.out ?_
      rintro e w' ⟨rfl, rfl⟩
      go_wp2_with fail
      refine Calls.mono FI.out ?_
      rintro e w' ⟨rfl, rfl⟩
      go_wp2
      go_ret
      exact ⟨rfl, FN.out⟩
    · rw [decide_eq_false h2] at FI
      have e1 : free t s = true := free_iff.2 ⟨h1, h2⟩
      have e2 : dropS t s = { s with L := del (ds s.c t).toNat s.L } := by unfold dropS; rw [if_pos e1]
      rw [e1, e2]
      have FN := hidden (fun (w' : World) (hS : IsRef w' bs s.c (del (ds s.c t).toNat s.L)) (hg : w.grownBy w' (some bs)) => drop_fin (D := (ds s.c t).toNat) h hS hg)
      change Hid (Calls _ _ _ _ fun e w' => e = .returned (.bool (decide ((ds s.c t).toNat ∈ s.L))) ∧ IsRef w' bs s.c (del (ds s.c t).toNat s.L) ∧ w.grownBy w' (some bs)) at DE
      rw [decide_eq_true h1] at DE
      clear h hk same h1 h2 e1 e2
      generalize (t : Int) = tI at *
      go_enter Tryd.func38, Tryd.ntmps38
      go_wp2_with fail
      refine Calls.mono AB.out ?_
      rintro e w' ⟨rfl, rfl⟩
      go_wp2_with fail
      refine Calls.mono FI.out ?_
      rintro e w' ⟨rfl, rfl⟩
      go_wp2_with fail
      refine Calls.mono DE.out ?_
      rintro e w1 ⟨rfl, hS, hg⟩
      go_wp2
      go_ret
      exact ⟨rfl, FN.out _ hS hg⟩
  · rw [decide_eq_false h1] at AB
    have e1 : free t s = false := free_not.2 (.inl h1)
    have e2 : dropS t s = s := by unfold dropS; rw [if_neg (by rw [e1]; simp)]
    rw [e1, e2]
    have FN := hidden same
    clear h hk same DE h1 e1 e2 FI
    generalize (t : Int) = tI at *
    go_enter Tryd.func38, Tryd.ntmps38
    go_wp2_with fail
    refine Calls.mono AB.out ?_
    rintro e w' ⟨rfl, rfl⟩
    go_wp2
    go_ret
    exact ⟨rfl, FN.out⟩
end
end Go.Proofs.YtdifceikfnnfeaaDoor.Sp.Inb
