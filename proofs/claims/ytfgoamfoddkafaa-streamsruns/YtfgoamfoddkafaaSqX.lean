/-
  Both queues side by side: one call of both.
  Conditions: both queues lie in memory, what comes in can be read.
-/
import Derived.Test.YtfgoamfoddkafaaSqW
import Derived.Test.YtfgoamfoddkafaaSqArgs
import Derived.Deep.CutBlock
namespace Go.Proofs.Ytfgoamfoddkafaa.Sq
open Go.ChangeShapes Go.WideShapes Go.ChangeAt Go.RowKit
open Ba (hidden Has Only cell_lt heap_lt)
set_option linter.unusedVariables false
section
variable {w : World} {a a' : Option Addr} {l l' c c' : Nat} {zs : List Int}
set_option maxRecDepth 20000 in
theorem sameM (h : Row w a l zs) (h' : Row w a' l' zs) (st sn pr : Int) (un : Bool) : Calls Try.prog 35 #[mv st sn pr un (.slice a l c), mv st sn pr un (.slice a' l' c')] w fun e w' => e = .returned (.bool true) ∧ Below w.heap.size w w' := by
  obtain ⟨W2, hW2⟩ : ∃ W2, W2 = (w.alloc (.cells #[.int .u16 st, .int .u16 sn, .int .u32 pr, .bool un, .slice a l c] 42)).alloc (.cells #[.int .u16 st, .int .u16 sn, .int .u32 pr, .bool un, .slice a' l' c'] 42) := ⟨_, rfl⟩
  have hB : Below w.heap.size w W2 := by rw [hW2]; exact ((Below.refl _ w).alloc (Nat.le_refl _) _).alloc (by simp) _
  obtain ⟨ss, hss⟩ : ∃ ss, ss = strOfNums zs := ⟨_, rfl⟩
  have cvA : (convert 34 9 (.slice a l c)).run Try.prog W2 = .ok (.string ss) W2 := by rw [hss]; exact (h.later hB).conv c
  have cvB : (convert 34 9 (.slice a' l' c')).run Try.prog W2 = .ok (.string ss) W2 := by rw [hss]; exact (h'.later hB).conv c'
  rw [hW2] at cvA cvB
  have HB : Hid (Below w.heap.size w ((w.alloc (.cells #[.int .u16 st, .int .u16 sn, .int .u32 pr, .bool un, .slice a l c] 42)).alloc (.cells #[.int .u16 st, .int .u16 sn, .int .u32 pr, .bool un, .slice a' l' c'] 42))) := hW2 ▸ hB
  clear h h' hB hW2 hss
  unfold mv
  go_enter Try.func35, Try.ntmps35
  go_wp2
  go_ret
  exact ⟨by simp, HB.out⟩
set_option maxRecDepth 20000 in
theorem sameP (h : Row w a l zs) (h' : Row w a' l' zs) (st sn pr : Int) (un bg en : Bool) : Calls Try.prog 23 #[.agg #[.int .u16 st, .int .u16 sn, .int .u32 pr, .bool un, .slice a l c, .bool bg, .bool en], .agg #[.int .u16 st, .int .u16 sn, .int .u32 pr, .bool un, .slice a' l' c', .bool bg, .bool en]] w fun e w' => e = .returned (.bool true) ∧ Below w.heap.size w w' := by
  obtain ⟨W2, hW2⟩ : ∃ W2, W2 = (w.alloc (.cells #[.int .u16 st, .int .u16 sn, .int .u32 pr, .bool un, .slice a l c, .bool bg, .bool en] 44)).alloc (.cells #[.int .u16 st, .int .u16 sn, .int .u32 pr, .bool un, .slice a' l' c', .bool bg, .bool en] 44) := ⟨_, rfl⟩
  have hB : Below w.heap.size w W2 := by rw [hW2]; exact ((Below.refl _ w).alloc (Nat.le_refl _) _).alloc (by simp) _
  have hb0 : Has W2 w.heap.size #[.int .u16 st, .int .u16 sn, .int .u32 pr, .bool un, .slice a l c, .bool bg, .bool en] 44 := by rw [hW2]; exact (Has.new w _ _).later ((Below.refl _ _).alloc (Nat.le_refl _) _)
  have hb1 : Has W2 (w.heap.size + 1) #[.int .u16 st, .int .u16 sn, .int .u32 pr, .bool un, .slice a' l' c', .bool bg, .bool en] 44 := by
    rw [hW2]
    have := Has.new (w.alloc (.cells #[.int .u16 st, .int .u16 sn, .int .u32 pr, .bool un, .slice a l c, .bool bg, .bool en] 44)) #[.int .u16 st, .int .u16 sn, .int .u32 pr, .bool un, .slice a' l' c', .bool bg, .bool en] 44
    simpa using this
  have SM := hidden (sameM (c := c) (c' := c') (h.later hB) (h'.later hB) st sn pr un)
  have HW2 := hidden hW2
  have HB := hidden hB
  have HB0 := hidden hb0
  have HB1 := hidden hb1
  clear h h' hB hW2 hb0 hb1
  go_enter Try.func23, Try.ntmps23
  go_wp2_with fail
  rw [← HW2.out]
  refine Calls.mono (by have := SM.out; unfold mv at this; exact this) ?_
  rintro e W3 ⟨rfl, hB3⟩
  have x5 := (HB0.out.later hB3).cell 5 rfl
  have x6 := (HB0.out.later hB3).cell 6 rfl
  have y5 := (HB1.out.later hB3).cell 5 rfl
  have y6 := (HB1.out.later hB3).cell 6 rfl
  have HB3 := hidden (HB.out.trans (hB3.mono HB.out.size))
  clear hB3
  go_wp2
  go_ret
  exact ⟨by simp, HB3.out⟩
end
theorem tak_no {S : St} {n : Int} (hg : Good S) (h : tak S n = none) : n < 1 ∨ nxt S = none := by
  rcases tak_cases S n with ⟨_, h2⟩ | ⟨i, r, rs, _, _, _, h4⟩ | ⟨i, h1, h2⟩
  · exact h2
  · rw [h] at h4; cases h4
  · exact absurd h2 (nxt_some hg.n1 h1).2
theorem nextV_shape (S : St) : ∃ x y z, nextV S = .tuple #[.int .u16 x, .int .i64 y, .bool z] := by
  unfold nextV
  split
  · exact ⟨_, _, _, rfl⟩
  · split
    · exact ⟨_, _, _, rfl⟩
    · exact ⟨_, _, _, rfl⟩
/-- both queues -/
structure Bo (base : Nat) (w : World) (t r : Nat) (S : St) (F : Nat → Prop) : Prop where
  cd : Cd (fun _ => True) w t S F
  fb : ∀ k, F k → base ≤ k
  rf : Rf base w r S
/-- while a call is made of both -/
structure PA (W0 : World) (t r : Nat) (S S' : St) (bx : Nat) (box : Array Value) (k : Nat) (w' : World) : Prop where
  bx : Has w' bx box 36
  bw : Below W0.heap.size W0 w'
  c0 : k = 0 → ∃ F, Cd (fun _ => True) w' t S F ∧ ∀ k, F k → W0.heap.size ≤ k
  c1 : 1 ≤ k → ∃ F, Cd (fun _ => True) w' t S' F ∧ ∀ k, F k → W0.heap.size ≤ k
  r0 : k ≤ 1 → Rf W0.heap.size w' r S
  r1 : 2 ≤ k → Rf W0.heap.size w' r S'
section
variable {W0 w w' : World} {t r bx : Nat} {S S' : St} {box : Array Value} {F F' : Nat → Prop}
theorem PA.one (h : PA W0 t r S S' bx box 0 w) (hc : Cd (fun _ => True) w t S F) (hf : ∀ k, F k → W0.heap.size ≤ k) (hc' : Cd (fun _ => True) w' t S' F') (hF : ∀ k, F' k → F k ∨ w.heap.size ≤ k) (hm : Mod F w w') : PA W0 t r S S' bx box (0 + 1) w' := by
  refine ⟨hm.has h.bx (fun hf' => ?_), h.bw.trans (hm.below h.bw.size hf), fun e => absurd e (by decide), fun _ => ⟨F', hc', fun k hk => (hF k hk).elim (hf k) (fun h1 => Nat.le_trans h.bw.size h1)⟩, fun _ => ?_, fun e => absurd e (by decide)⟩
  · obtain ⟨cs, ty, hh, ht⟩ := hc.type hf'
    have := has_type h.bx hh
    subst this
    rcases ht with e | e | e <;> exact absurd e (by decide)
  · obtain ⟨bs, vL, Q, rl, hr⟩ := h.r0 (by decide)
    exact ⟨bs, vL, Q, rl, hr.code hc hm⟩
theorem PA.two (h : PA W0 t r S S' bx box 1 w) (hr : Rf W0.heap.size w' r S') (hm : Mod (Gr W0.heap.size w) w w') : PA W0 t r S S' bx box (1 + 1) w' := by
  refine ⟨hm.has h.bx (fun hg => ?_), h.bw.trans (gr_below hm h.bw.size), fun e => absurd e (by decide), fun _ => ?_, fun e => absurd e (by decide), fun _ => hr⟩
  · obtain ⟨_, cs, ty, hh, ht⟩ := hg
    have := has_type h.bx hh
    subst this
    rcases ht with e | e | e <;> exact absurd e (by decide)
  · obtain ⟨F, hc, hf⟩ := h.c1 (by decide)
    exact ⟨F, hc.doc hm, hf⟩
theorem PA.later {k : Nat} (h : PA W0 t r S S' bx box k w) (hB : Below w.heap.size w w') : PA W0 t r S S' bx box k w' :=
  ⟨h.bx.later hB, h.bw.trans (hB.mono h.bw.size), fun e => by obtain ⟨F, hc, hf⟩ := h.c0 e; exact ⟨F, hc.later hB, hf⟩, fun e => by obtain ⟨F, hc, hf⟩ := h.c1 e; exact ⟨F, hc.later hB, hf⟩, fun e => by obtain ⟨bs, vL, Q, rl, hr⟩ := h.r0 e; exact ⟨bs, vL, Q, rl, hr.later hB⟩, fun e => by obtain ⟨bs, vL, Q, rl, hr⟩ := h.r1 e; exact ⟨bs, vL, Q, rl, hr.later hB⟩⟩
theorem PA.start (hb : Bo W0.heap.size w t r S F) (hB : Below W0.heap.size W0 w) (hx : Has w bx box 36) : PA W0 t r S S' bx box 0 w :=
  ⟨hx, hB, fun _ => ⟨F, hb.cd, hb.fb⟩, fun e => absurd e (by decide), fun _ => hb.rf, fun e => absurd e (by decide)⟩
theorem PA.end (h : PA W0 t r S S' bx box 2 w) : ∃ F, Bo W0.heap.size w t r S' F := by
  obtain ⟨F, hc, hf⟩ := h.c1 (by decide)
  exact ⟨F, hc, hf, h.r1 (by decide)⟩
/-- behind a step -/
def SpO (W0 : World) (t r : Nat) (e : Ending) (w' : World) : Prop := e = .returned (.bool true) ∧ ∃ S' F', Bo W0.heap.size w' t r S' F' ∧ Below W0.heap.size W0 w'
theorem cut_row {x : World} {base : Nat} {v : Value} {zs : List Int} (h : Mine base x v zs) : ∃ a l c, v = .slice a l c ∧ Row x a l zs := by
  obtain ⟨a, c, e, hr, _⟩ := h.row
  exact ⟨a, zs.length, c, e, hr⟩
set_option maxRecDepth 20000 in
set_option maxHeartbeats 4000000 in
theorem step_ {kd st pr n : Int} {un : Bool} {a : Option Addr} {l c : Nat} {zs : List Int} (hb : Bo W0.heap.size w t r S F) (hB : Below W0.heap.size W0 w) (hrow : Row W0 a l zs) (hnil : a = none → l = 0 ∧ c = 0) (hst : 0 ≤ st ∧ st < 65536) (hpr : 0 ≤ pr ∧ pr < 4294967296) :
    Calls Try.prog 12 #[.pointer (some ⟨t, 0, none⟩), .pointer (some ⟨r, 0, none⟩), .agg #[.int .i64 kd, .int .u16 st, .int .u32 pr, .bool un, .slice a l c, .int .i64 n]] w fun e w' => SpO W0 t r e w' := by
  obtain ⟨w1, hw1⟩ : ∃ w1, w1 = w.alloc (.cells #[.int .i64 kd, .int .u16 st, .int .u32 pr, .bool un, .slice a l c, .int .i64 n] 36) := ⟨_, rfl⟩
  obtain ⟨bx, hbx⟩ : ∃ bx, bx = w.heap.size := ⟨_, rfl⟩
  have hB1 : Below w.heap.size w w1 := by rw [hw1]; exact (Below.refl _ w).alloc (Nat.le_refl _) _
  have hx1 : Has w1 bx #[.int .i64 kd, .int .u16 st, .int .u32 pr, .bool un, .slice a l c, .int .i64 n] 36 := by rw [hw1, hbx]; exact Has.new w _ _
  have hb1 : Bo W0.heap.size w1 t r S F := ⟨hb.cd.later hB1, hb.fb, by obtain ⟨bs, vL, Q, rl, hr⟩ := hb.rf; exact ⟨bs, vL, Q, rl, hr.later hB1⟩⟩
  have P1 : Hid (∀ S', PA W0 t r S S' bx #[.int .i64 kd, .int .u16 st, .int .u32 pr, .bool un, .slice a l c, .int .i64 n] 0 w1) := fun S' => PA.start hb1 (hB.trans (hB1.mono hB.size)) hx1
  have HW1 := hidden (And.intro hw1 hbx)
  have HROW := hidden hrow
  have HNIL := hidden hnil
  have HST := hidden (And.intro hst hpr)
  have EP1 : Hid (∀ (args : Array Value) (w : World), (callFunc 13 args).run Try.prog w = .ok (.enter 13 args) w) := fun _ _ => by kernel_rfl
  have EP2 : Hid (∀ (args : Array Value) (w : World), (callFunc 21 args).run Try.prog w = .ok (.enter 21 args) w) := fun _ _ => by kernel_rfl
  have EF1 : Hid (∀ (args : Array Value) (w : World), (callFunc 18 args).run Try.prog w = .ok (.enter 18 args) w) := fun _ _ => by kernel_rfl
  have EF2 : Hid (∀ (args : Array Value) (w : World), (callFunc 24 args).run Try.prog w = .ok (.enter 24 args) w) := fun _ _ => by kernel_rfl
  have x0 := hx1.cell 0 rfl
  clear hb hB hw1 hbx hB1 hx1 hb1 hrow hnil hst hpr
  go_enter Try.func12, Try.ntmps12
  go_upto_region 1 with fail
  rw [← HW1.out.1, ← HW1.out.2]
  go_upto_block 0 with fail
  go_cut [] from 17 (fun wx => ∃ (S' : St), Hid (PA W0 t r S' S' bx #[.int .i64 kd, .int .u16 st, .int .u32 pr, .bool un, .slice a l c, .int .i64 n] 2 wx))
  case first =>
    by_cases hk1 : kd = 1
    · subst hk1
      obtain ⟨E, hE⟩ : ∃ E, E = pushE S st zs := ⟨_, rfl⟩
      obtain ⟨S', hS'⟩ : ∃ S', S' = (if pushE S st zs = 0 then pushS S st.toNat pr un zs else S) := ⟨_, rfl⟩
      have C1 : Hid (∀ v : World, PA W0 t r S S' bx #[.int .i64 1, .int .u16 st, .int .u32 pr, .bool un, .slice a l c, .int .i64 n] 0 v → Calls Try.prog 13 #[.pointer (some ⟨t, 0, none⟩), .int .u16 st, .int .u32 pr, .bool un, .slice a l c] v fun e w' => e = .returned (.int .i64 E) ∧ PA W0 t r S S' bx #[.int .i64 1, .int .u16 st, .int .u32 pr, .bool un, .slice a l c, .int .i64 n] (0 + 1) w') := fun v hv => by
        obtain ⟨F, hc, hf⟩ := hv.c0 rfl
        refine (pushX hc HST.out.1 HST.out.2 un (cap := c) (HROW.out.later hv.bw) (fun _ _ => trivial)).mono ?_
        rintro e w' ⟨rfl, ⟨F', h1, h2⟩, h3⟩
        rw [← hS'] at h1
        exact ⟨by rw [hE], hv.one hc hf h1 h2 h3⟩
      have C2 : Hid (∀ v : World, PA W0 t r S S' bx #[.int .i64 1, .int .u16 st, .int .u32 pr, .bool un, .slice a l c, .int .i64 n] 1 v → Calls Try.prog 21 #[.pointer (some ⟨r, 0, none⟩), .int .u16 st, .int .u32 pr, .bool un, .slice a l c] v fun e w' => e = .returned (.int .i64 E) ∧ PA W0 t r S S' bx #[.int .i64 1, .int .u16 st, .int .u32 pr, .bool un, .slice a l c, .int .i64 n] (1 + 1) w') := fun v hv => by
        obtain ⟨bs, vL, Q, rl, hr⟩ := hv.r0 (by decide)
        refine (rpushX hr hv.bw.size HST.out.1 HST.out.2 (un := un) (cap := c) (HROW.out.later hv.bw) HNIL.out).mono ?_
        rintro e w' ⟨rfl, h1, h2⟩
        rw [← hS'] at h1
        exact ⟨by rw [hE], hv.two h1 h2⟩
      clear hE hS'
      go_upto_region 3 with fail
      refine Ord.wp_region_ex0 (X := Unit) (by kernel_rfl) 142 (fun x => [(some 21, .pointer (some ⟨t, 0, none⟩)), (some 22, .pointer (some ⟨bx, 1, none⟩)), (some 23, .int .u16 st), (some 24, .pointer (some ⟨bx, 2, none⟩)), (some 25, .int .u32 pr), (some 26, .pointer (some ⟨bx, 3, none⟩)), (some 27, .bool un), (some 28, .pointer (some ⟨bx, 4, none⟩)), (some 29, .slice a l c), (some 30, .int .i64 E), (some 31, .pointer (some ⟨r, 0, none⟩)), (some 32, .pointer (some ⟨bx, 1, none⟩)), (some 33, .int .u16 st), (some 34, .pointer (some ⟨bx, 2, none⟩)), (some 35, .int .u32 pr), (some 36, .pointer (some ⟨bx, 3, none⟩)), (some 37, .bool un), (some 38, .pointer (some ⟨bx, 4, none⟩)), (some 39, .slice a l c), (some 40, .int .i64 E), (some 41, .bool false)]) [some 21, some 22, some 23, some 24, some 25, some 26, some 27, some 28, some 29, some 30, some 31, some 32, some 33, some 34, some 35, some 36, some 37, some 38, some 39, some 40, some 41] rfl (fun listed hsz hr => Ord.all_listedC (rank := [0, 1, 2, 3, 4, 5, 6, 7, 8, 9, 10, 11, 12, 13, 14, 15, 16, 17, 18, 19, 20]) (by kernel_rfl) hsz hr) (by rfl) (fun _ => rfl) (by kernel_rfl) (Rg.StM [9, 19] (fun k x w' => PA W0 t r S S' bx #[.int .i64 1, .int .u16 st, .int .u32 pr, .bool un, .slice a l c, .int .i64 n] k w')) (fun _ _ _ _ hL h => h.ext (n := 21) (by decide) hL) ?_ ?_ () ?_
      case refine_1 =>
        intro x Lq iq oq ac w' ho hi hcl hdep hF hW
        have f1 : ac.tmps.size = 142 := hF.1
        match iq, ho, hi, hdep with
        | 0, ho, hi, hdep =>
          cases ho
          have da0 : ac.eval (.tmp 0) = .pointer (some ⟨t, 0, none⟩) := hF.old 0 rfl
          exact Ord.ex_value x rfl rfl (Rg.mv da0 rfl) rfl (hW.keep (by decide))
        | 1, ho, hi, hdep =>
          cases ho
          have da0 : ac.eval (.tmp 5) = .pointer (some ⟨bx, 0, none⟩) := hF.old 5 rfl
          exact Ord.ex_value x rfl rfl (Rg.fa da0 rfl (by simp [go_sem])) rfl (hW.keep (by decide))
        | 2, ho, hi, hdep =>
          cases ho
          have da0 : ac.eval (.tmp 22) = .pointer (some ⟨bx, 1, none⟩) := hF.2.2.2 1 22 _ rfl (hdep ⟨1, .data⟩ (by simp) rfl)
          obtain ⟨kq, hlo, hhi, hA⟩ := hW.range 0 0 (.inl rfl) (.inr ⟨9, rfl, (Rg.no_of (fun h => hcl 9 _ rfl (h) ⟨2, .data⟩ (by simp) rfl) hi)⟩)
          exact Ord.ex_value x rfl rfl (Rg.load da0 rfl (by have hcl := hA.bx.cell 1 rfl; simp [go_sem, hcl])) rfl (hW.keep (by decide))
        | 3, ho, hi, hdep =>
          cases ho
          have da0 : ac.eval (.tmp 5) = .pointer (some ⟨bx, 0, none⟩) := hF.old 5 rfl
          exact Ord.ex_value x rfl rfl (Rg.fa da0 rfl (by simp [go_sem])) rfl (hW.keep (by decide))
        | 4, ho, hi, hdep =>
          cases ho
          have da0 : ac.eval (.tmp 24) = .pointer (some ⟨bx, 2, none⟩) := hF.2.2.2 3 24 _ rfl (hdep ⟨3, .data⟩ (by simp) rfl)
          obtain ⟨kq, hlo, hhi, hA⟩ := hW.range 0 0 (.inl rfl) (.inr ⟨9, rfl, (Rg.no_of (fun h => hcl 9 _ rfl (h) ⟨4, .data⟩ (by simp) rfl) hi)⟩)
          exact Ord.ex_value x rfl rfl (Rg.load da0 rfl (by have hcl := hA.bx.cell 2 rfl; simp [go_sem, hcl])) rfl (hW.keep (by decide))
        | 5, ho, hi, hdep =>
          cases ho
          have da0 : ac.eval (.tmp 5) = .pointer (some ⟨bx, 0, none⟩) := hF.old 5 rfl
          exact Ord.ex_value x rfl rfl (Rg.fa da0 rfl (by simp [go_sem])) rfl (hW.keep (by decide))
        | 6, ho, hi, hdep =>
          cases ho
          have da0 : ac.eval (.tmp 26) = .pointer (some ⟨bx, 3, none⟩) := hF.2.2.2 5 26 _ rfl (hdep ⟨5, .data⟩ (by simp) rfl)
          obtain ⟨kq, hlo, hhi, hA⟩ := hW.range 0 0 (.inl rfl) (.inr ⟨9, rfl, (Rg.no_of (fun h => hcl 9 _ rfl (h) ⟨6, .data⟩ (by simp) rfl) hi)⟩)
          exact Ord.ex_value x rfl rfl (Rg.load da0 rfl (by have hcl := hA.bx.cell 3 rfl; simp [go_sem, hcl])) rfl (hW.keep (by decide))
        | 7, ho, hi, hdep =>
          cases ho
          have da0 : ac.eval (.tmp 5) = .pointer (some ⟨bx, 0, none⟩) := hF.old 5 rfl
          exact Ord.ex_value x rfl rfl (Rg.fa da0 rfl (by simp [go_sem])) rfl (hW.keep (by decide))
        | 8, ho, hi, hdep =>
          cases ho
          have da0 : ac.eval (.tmp 28) = .pointer (some ⟨bx, 4, none⟩) := hF.2.2.2 7 28 _ rfl (hdep ⟨7, .data⟩ (by simp) rfl)
          obtain ⟨kq, hlo, hhi, hA⟩ := hW.range 0 0 (.inl rfl) (.inr ⟨9, rfl, (Rg.no_of (fun h => hcl 9 _ rfl (h) ⟨8, .data⟩ (by simp) rfl) hi)⟩)
          exact Ord.ex_value x rfl rfl (Rg.load da0 rfl (by have hcl := hA.bx.cell 4 rfl; simp [go_sem, hcl])) rfl (hW.keep (by decide))
        | 9, ho, hi, hdep =>
          cases ho
          have da0 : ac.eval (.tmp 21) = .pointer (some ⟨t, 0, none⟩) := hF.2.2.2 0 21 _ rfl (hdep ⟨0, .data⟩ (by simp) rfl)
          have da1 : ac.eval (.tmp 23) = .int .u16 st := hF.2.2.2 2 23 _ rfl (hdep ⟨2, .data⟩ (by simp) rfl)
          have da2 : ac.eval (.tmp 25) = .int .u32 pr := hF.2.2.2 4 25 _ rfl (hdep ⟨4, .data⟩ (by simp) rfl)
          have da3 : ac.eval (.tmp 27) = .bool un := hF.2.2.2 6 27 _ rfl (hdep ⟨6, .data⟩ (by simp) rfl)
          have da4 : ac.eval (.tmp 29) = .slice a l c := hF.2.2.2 8 29 _ rfl (hdep ⟨8, .data⟩ (by simp) rfl)
          have hA := hW.at (k := 0) rfl hi (.inl rfl)
          refine Rg.ex_call x rfl rfl (Rg.enter (args := #[.pointer (some ⟨t, 0, none⟩), .int .u16 st, .int .u32 pr, .bool un, .slice a l c]) rfl rfl (by simp [da0, da1, da2, da3, da4]) EP1.out) (Calls.mono (C1.out _ hA) ?_)
          rintro e w2 ⟨rfl, hh⟩
          exact ⟨rfl, hW.next (k := 0) rfl (by decide) hi (.inl rfl) hh⟩
        | 10, ho, hi, hdep =>
          cases ho
          have da0 : ac.eval (.tmp 1) = .pointer (some ⟨r, 0, none⟩) := hF.old 1 rfl
          exact Ord.ex_value x rfl rfl (Rg.mv da0 rfl) rfl (hW.keep (by decide))
        | 11, ho, hi, hdep =>
          cases ho
          have da0 : ac.eval (.tmp 5) = .pointer (some ⟨bx, 0, none⟩) := hF.old 5 rfl
          exact Ord.ex_value x rfl rfl (Rg.fa da0 rfl (by simp [go_sem])) rfl (hW.keep (by decide))
        | 12, ho, hi, hdep =>
          cases ho
          have da0 : ac.eval (.tmp 32) = .pointer (some ⟨bx, 1, none⟩) := hF.2.2.2 11 32 _ rfl (hdep ⟨11, .data⟩ (by simp) rfl)
          obtain ⟨kq, hlo, hhi, hA⟩ := hW.range 0 1 (.inl rfl) (.inr ⟨19, rfl, (Rg.no_of (fun h => hcl 19 _ rfl (h) ⟨12, .data⟩ (by simp) rfl) hi)⟩)
          exact Ord.ex_value x rfl rfl (Rg.load da0 rfl (by have hcl := hA.bx.cell 1 rfl; simp [go_sem, hcl])) rfl (hW.keep (by decide))
        | 13, ho, hi, hdep =>
          cases ho
          have da0 : ac.eval (.tmp 5) = .pointer (some ⟨bx, 0, none⟩) := hF.old 5 rfl
          exact Ord.ex_value x rfl rfl (Rg.fa da0 rfl (by simp [go_sem])) rfl (hW.keep (by decide))
        | 14, ho, hi, hdep =>
          cases ho
          have da0 : ac.eval (.tmp 34) = .pointer (some ⟨bx, 2, none⟩) := hF.2.2.2 13 34 _ rfl (hdep ⟨13, .data⟩ (by simp) rfl)
          obtain ⟨kq, hlo, hhi, hA⟩ := hW.range 0 1 (.inl rfl) (.inr ⟨19, rfl, (Rg.no_of (fun h => hcl 19 _ rfl (h) ⟨14, .data⟩ (by simp) rfl) hi)⟩)
          exact Ord.ex_value x rfl rfl (Rg.load da0 rfl (by have hcl := hA.bx.cell 2 rfl; simp [go_sem, hcl])) rfl (hW.keep (by decide))
        | 15, ho, hi, hdep =>
          cases ho
          have da0 : ac.eval (.tmp 5) = .pointer (some ⟨bx, 0, none⟩) := hF.old 5 rfl
          exact Ord.ex_value x rfl rfl (Rg.fa da0 rfl (by simp [go_sem])) rfl (hW.keep (by decide))
        | 16, ho, hi, hdep =>
          cases ho
          have da0 : ac.eval (.tmp 36) = .pointer (some ⟨bx, 3, none⟩) := hF.2.2.2 15 36 _ rfl (hdep ⟨15, .data⟩ (by simp) rfl)
          obtain ⟨kq, hlo, hhi, hA⟩ := hW.range 0 1 (.inl rfl) (.inr ⟨19, rfl, (Rg.no_of (fun h => hcl 19 _ rfl (h) ⟨16, .data⟩ (by simp) rfl) hi)⟩)
          exact Ord.ex_value x rfl rfl (Rg.load da0 rfl (by have hcl := hA.bx.cell 3 rfl; simp [go_sem, hcl])) rfl (hW.keep (by decide))
        | 17, ho, hi, hdep =>
          cases ho
          have da0 : ac.eval (.tmp 5) = .pointer (some ⟨bx, 0, none⟩) := hF.old 5 rfl
          exact Ord.ex_value x rfl rfl (Rg.fa da0 rfl (by simp [go_sem])) rfl (hW.keep (by decide))
        | 18, ho, hi, hdep =>
          cases ho
          have da0 : ac.eval (.tmp 38) = .pointer (some ⟨bx, 4, none⟩) := hF.2.2.2 17 38 _ rfl (hdep ⟨17, .data⟩ (by simp) rfl)
          obtain ⟨kq, hlo, hhi, hA⟩ := hW.range 0 1 (.inl rfl) (.inr ⟨19, rfl, (Rg.no_of (fun h => hcl 19 _ rfl (h) ⟨18, .data⟩ (by simp) rfl) hi)⟩)
          exact Ord.ex_value x rfl rfl (Rg.load da0 rfl (by have hcl := hA.bx.cell 4 rfl; simp [go_sem, hcl])) rfl (hW.keep (by decide))
        | 19, ho, hi, hdep =>
          cases ho
          have da0 : ac.eval (.tmp 31) = .pointer (some ⟨r, 0, none⟩) := hF.2.2.2 10 31 _ rfl (hdep ⟨10, .data⟩ (by simp) rfl)
          have da1 : ac.eval (.tmp 33) = .int .u16 st := hF.2.2.2 12 33 _ rfl (hdep ⟨12, .data⟩ (by simp) rfl)
          have da2 : ac.eval (.tmp 35) = .int .u32 pr := hF.2.2.2 14 35 _ rfl (hdep ⟨14, .data⟩ (by simp) rfl)
          have da3 : ac.eval (.tmp 37) = .bool un := hF.2.2.2 16 37 _ rfl (hdep ⟨16, .data⟩ (by simp) rfl)
          have da4 : ac.eval (.tmp 39) = .slice a l c := hF.2.2.2 18 39 _ rfl (hdep ⟨18, .data⟩ (by simp) rfl)
          have hA := hW.at (k := 1) rfl hi (.inr ⟨9, rfl, (hdep ⟨9, .chain⟩ (by simp) rfl)⟩)
          refine Rg.ex_call x rfl rfl (Rg.enter (args := #[.pointer (some ⟨r, 0, none⟩), .int .u16 st, .int .u32 pr, .bool un, .slice a l c]) rfl rfl (by simp [da0, da1, da2, da3, da4]) EP2.out) (Calls.mono (C2.out _ hA) ?_)
          rintro e w2 ⟨rfl, hh⟩
          exact ⟨rfl, hW.next (k := 1) rfl (by decide) hi (.inr ⟨9, rfl, (hdep ⟨9, .chain⟩ (by simp) rfl)⟩) hh⟩
        | 20, ho, hi, hdep =>
          cases ho
          have da0 : ac.eval (.tmp 30) = .int .i64 E := hF.2.2.2 9 30 _ rfl (hdep ⟨9, .data⟩ (by simp) rfl)
          have da1 : ac.eval (.tmp 40) = .int .i64 E := hF.2.2.2 19 40 _ rfl (hdep ⟨19, .data⟩ (by simp) rfl)
          exact Ord.ex_value x rfl rfl (Rg.bin da0 da1 rfl (by simp [go_sem])) rfl (hW.keep (by decide))
      case refine_3 => exact Rg.StM.first ((P1.out S').later ⟨rfl, rfl, rfl, Nat.le_refl _, fun _ _ => rfl⟩)
      case refine_2 =>
        intro _ w2 hW
        have HP : Hid (∃ F, Bo W0.heap.size w2 t r S' F ∧ Below W0.heap.size W0 w2 ∧ Has w2 bx #[.int .i64 1, .int .u16 st, .int .u32 pr, .bool un, .slice a l c, .int .i64 n] 36) := by
          have h := hW.last
          obtain ⟨F, hb⟩ := PA.end h
          exact ⟨F, hb, h.bw, h.bx⟩
        clear hW
        simp only [Ord.puts, Ord.prs]
        go_simp
        go_wp2_with fail
        go_meet
        case rel =>
          obtain ⟨F, h1, h2, h3⟩ := HP.out
          exact ⟨S', ⟨h3, h2, fun e => absurd e (by decide), fun _ => ⟨F, h1.cd, h1.fb⟩, fun e => absurd e (by decide), fun _ => h1.rf⟩⟩
    · by_cases hk2 : kd = 2
      · subst hk2
        have h0 := P1.out S
        obtain ⟨F0, hc0, hf0⟩ := h0.c0 rfl
        have x5 := h0.bx.cell 5 rfl
        have TK := hidden (takX hc0 n)
        have HC0 := hidden (And.intro hc0 hf0)
        clear h0 hc0 hf0
        go_wp2_with fail
        refine Calls.mono TK.out ?_
        rintro e w2 hT
        rcases hT with ⟨ht1, rfl, hb2⟩ | ⟨i, rr, rs, hn1, hx, hR, _, x, rfl, hmx, ⟨F2, hc2, hF2⟩, hm2⟩
        · have hno := tak_no HC0.out.1.1 ht1
          unfold zPv
          obtain ⟨w3, hw3⟩ : ∃ w3, w3 = w2.alloc (.cells #[.int .u16 0, .int .u16 0, .int .u32 0, .bool false, .slice none 0 0, .bool false, .bool false] 44) := ⟨_, rfl⟩
          have hB3 : Below w1.heap.size w1 w3 := by rw [hw3]; exact hb2.alloc hb2.size _
          have p3 := (P1.out S).later hB3
          have hz3 : Has w3 w2.heap.size #[.int .u16 0, .int .u16 0, .int .u32 0, .bool false, .slice none 0 0, .bool false, .bool false] 44 := by rw [hw3]; exact Has.new _ _ _
          have x5' := p3.bx.cell 5 rfl
          obtain ⟨bs, vL, Q, rl, hr3⟩ := p3.r0 (by decide)
          have RT := hidden (rtake_none (n := n) hr3 hno)
          have HW3 := hidden hw3
          have P3 := hidden p3
          have HZ3 := hidden hz3
          clear hno hw3 hB3 p3 hz3 hr3 ht1 hb2 TK x5
          go_upto_region 7 with fail
          rw [← HW3.out]
          go_wp2_with fail
          refine Calls.mono RT.out ?_
          rintro e w4 ⟨rfl, hb4⟩
          unfold zPv
          obtain ⟨w5, hw5⟩ : ∃ w5, w5 = w4.alloc (.cells #[.int .u16 0, .int .u16 0, .int .u32 0, .bool false, .slice none 0 0, .bool false, .bool false] 44) := ⟨_, rfl⟩
          have hB5 : Below w3.heap.size w3 w5 := by rw [hw5]; exact hb4.alloc hb4.size _
          have hz5 := HZ3.out.later hB5
          have hy5 : Has w5 w4.heap.size #[.int .u16 0, .int .u16 0, .int .u32 0, .bool false, .slice none 0 0, .bool false, .bool false] 44 := by rw [hw5]; exact Has.new _ _ _
          have SM := hidden (sameP (c := 0) (c' := 0) (Row.nil w5 none) (Row.nil w5 none) 0 0 0 false false false)
          have P5 := hidden (P3.out.later hB5)
          have o0 := hz5.cell 0 rfl
          have m0 := hy5.cell 0 rfl
          have o1 := hz5.cell 1 rfl
          have m1 := hy5.cell 1 rfl
          have o2 := hz5.cell 2 rfl
          have m2 := hy5.cell 2 rfl
          have o3 := hz5.cell 3 rfl
          have m3 := hy5.cell 3 rfl
          have o4 := hz5.cell 4 rfl
          have m4 := hy5.cell 4 rfl
          have o5 := hz5.cell 5 rfl
          have m5 := hy5.cell 5 rfl
          have o6 := hz5.cell 6 rfl
          have m6 := hy5.cell 6 rfl
          have HW5 := hidden hw5
          clear hB5 hz5 hy5 hw5 hb4 x5'
          go_upto_region 8 with fail
          rw [← HW5.out]
          go_wp2_with fail
          refine Calls.mono SM.out ?_
          rintro e w6 ⟨rfl, hb6⟩
          have P6 := hidden (P5.out.later hb6)
          clear hb6
          go_wp2_with fail
          go_meet
          case rel =>
            have h := P6.out
            obtain ⟨F, hc, hf⟩ := h.c0 rfl
            exact ⟨S, ⟨h.bx, h.bw, fun e => absurd e (by decide), fun _ => ⟨F, hc, hf⟩, fun e => absurd e (by decide), fun _ => h.r0 (by decide)⟩⟩
        · obtain ⟨S', hS'⟩ : ∃ S', S' = takeS S i rr rs n := ⟨_, rfl⟩
          rw [← hS'] at hc2
          have p2 : PA W0 t r S S' bx #[.int .i64 2, .int .u16 st, .int .u32 pr, .bool un, .slice a l c, .int .i64 n] (0 + 1) w2 := (P1.out S').one HC0.out.1 HC0.out.2 hc2 (fun k hk => .inl (hF2 k hk)) hm2
          obtain ⟨xa, xl, xc, hxe, _⟩ := cut_row hmx
          obtain ⟨cc, hcc⟩ : ∃ cc, cc = cut rr (S.sn i) n := ⟨_, rfl⟩
          rw [← hcc] at hmx ⊢
          subst hxe
          obtain ⟨cst, csn, cpr, cun, cdd, cbg, cen⟩ := cc
          unfold pcv
          obtain ⟨w3, hw3⟩ : ∃ w3, w3 = w2.alloc (.cells #[.int .u16 cst, .int .u16 csn, .int .u32 cpr, .bool cun, .slice xa xl xc, .bool cbg, .bool cen] 44) := ⟨_, rfl⟩
          have hB3 : Below w2.heap.size w2 w3 := by rw [hw3]; exact (Below.refl _ w2).alloc (Nat.le_refl _) _
          have p3 : PA W0 t r S S' bx #[.int .i64 2, .int .u16 st, .int .u32 pr, .bool un, .slice a l c, .int .i64 n] 1 w3 := p2.later hB3
          have hz3 : Has w3 w2.heap.size #[.int .u16 cst, .int .u16 csn, .int .u32 cpr, .bool cun, .slice xa xl xc, .bool cbg, .bool cen] 44 := by rw [hw3]; exact Has.new _ _ _
          have x5' := p3.bx.cell 5 rfl
          obtain ⟨bs, vL, Q, rl, hr3⟩ := p3.r0 (by decide)
          have rt := rtake_some hr3 p3.bw.size hx hR hn1
          have RT := hidden rt
          have HW3 := hidden hw3
          have P3 := hidden p3
          have HZ3 := hidden hz3
          have HMX := hidden (hmx.later hB3)
          have HCC := hidden (And.intro hcc hS')
          clear hw3 hB3 p3 hz3 hr3 TK x5 hx hR hn1 rt hmx hc2 hF2 hm2 p2 hcc hS'
          go_upto_region 7 with fail
          rw [← HW3.out]
          go_wp2_with fail
          refine Calls.mono RT.out ?_
          rintro e w4 ⟨y, rfl, hmy, hrf4, hm4⟩
          rw [← HCC.out.1] at hmy ⊢
          rw [← HCC.out.2] at hrf4
          obtain ⟨ya, yl, yc, hye, _⟩ := cut_row hmy
          subst hye
          unfold pcv
          simp only at hmy
          obtain ⟨w5, hw5⟩ : ∃ w5, w5 = w4.alloc (.cells #[.int .u16 cst, .int .u16 csn, .int .u32 cpr, .bool cun, .slice ya yl yc, .bool cbg, .bool cen] 44) := ⟨_, rfl⟩
          have hB5 : Below w4.heap.size w4 w5 := by rw [hw5]; exact (Below.refl _ w4).alloc (Nat.le_refl _) _
          have hz4 : Has w4 w2.heap.size #[.int .u16 cst, .int .u16 csn, .int .u32 cpr, .bool cun, .slice xa xl xc, .bool cbg, .bool cen] 44 := hm4.has HZ3.out (fun hg => by
            obtain ⟨_, cs, ty, hh, ht⟩ := hg
            have := has_type HZ3.out hh
            subst this
            rcases ht with e | e | e <;> exact absurd e (by decide))
          have hmx4 := HMX.out.stay hm4 (fun k hk hg => by
            obtain ⟨cu, hcu, _⟩ := HMX.out.obj hk
            obtain ⟨_, cs, ty, hh, ht⟩ := hg
            have := has_type hcu hh
            subst this
            rcases ht with e | e | e <;> exact absurd e (by decide))
          have hz5 := hz4.later hB5
          have hy5 : Has w5 w4.heap.size #[.int .u16 cst, .int .u16 csn, .int .u32 cpr, .bool cun, .slice ya yl yc, .bool cbg, .bool cen] 44 := by rw [hw5]; exact Has.new _ _ _
          obtain ⟨xa', xl', xc', hxe', hxr⟩ := cut_row (hmx4.later hB5)
          cases hxe'
          obtain ⟨ya', yl', yc', hye', hyr⟩ := cut_row (hmy.later hB5)
          cases hye'
          have SM := hidden (sameP (c := xc) (c' := yc) hxr hyr cst csn cpr cun cbg cen)
          have P5 : Hid (PA W0 t r S S' bx #[.int .i64 2, .int .u16 st, .int .u32 pr, .bool un, .slice a l c, .int .i64 n] 2 w5) := (P3.out.two hrf4 hm4).later hB5
          have o0 := hz5.cell 0 rfl
          have m0 := hy5.cell 0 rfl
          have o1 := hz5.cell 1 rfl
          have m1 := hy5.cell 1 rfl
          have o2 := hz5.cell 2 rfl
          have m2 := hy5.cell 2 rfl
          have o3 := hz5.cell 3 rfl
          have m3 := hy5.cell 3 rfl
          have o4 := hz5.cell 4 rfl
          have m4 := hy5.cell 4 rfl
          have o5 := hz5.cell 5 rfl
          have m5 := hy5.cell 5 rfl
          have o6 := hz5.cell 6 rfl
          have m6 := hy5.cell 6 rfl
          have HW5 := hidden hw5
          clear hB5 hz5 hy5 hw5 x5' hmy hmx4 hz4 hxr hyr hrf4 hm4
          go_upto_region 8 with fail
          rw [← HW5.out]
          go_wp2_with fail
          refine Calls.mono SM.out ?_
          rintro e w6 ⟨rfl, hb6⟩
          have P6 := hidden (P5.out.later hb6)
          clear hb6
          go_wp2_with fail
          go_meet
          case rel =>
            have h := P6.out
            exact ⟨S', ⟨h.bx, h.bw, fun e => absurd e (by decide), fun _ => h.c1 (by decide), fun e => absurd e (by decide), fun _ => h.r1 (by decide)⟩⟩
      · by_cases hk3 : kd = 3
        · subst hk3
          obtain ⟨E, hE⟩ : ∃ E, E = freeE S n := ⟨_, rfl⟩
          obtain ⟨S', hS'⟩ : ∃ S', S' = (if freeE S n = 0 then freeS S n else S) := ⟨_, rfl⟩
          have C1 : Hid (∀ v : World, PA W0 t r S S' bx #[.int .i64 3, .int .u16 st, .int .u32 pr, .bool un, .slice a l c, .int .i64 n] 0 v → Calls Try.prog 18 #[.pointer (some ⟨t, 0, none⟩), .int .i64 n] v fun e w' => e = .returned (.int .i64 E) ∧ PA W0 t r S S' bx #[.int .i64 3, .int .u16 st, .int .u32 pr, .bool un, .slice a l c, .int .i64 n] (0 + 1) w') := fun v hv => by
            obtain ⟨F, hc, hf⟩ := hv.c0 rfl
            refine (freeX hc n).mono ?_
            rintro e w' ⟨rfl, h1, h3⟩
            rw [← hS'] at h1
            exact ⟨by rw [hE], hv.one hc hf h1 (fun k hk => .inl hk) h3⟩
          have C2 : Hid (∀ v : World, PA W0 t r S S' bx #[.int .i64 3, .int .u16 st, .int .u32 pr, .bool un, .slice a l c, .int .i64 n] 1 v → Calls Try.prog 24 #[.pointer (some ⟨r, 0, none⟩), .int .i64 n] v fun e w' => e = .returned (.int .i64 E) ∧ PA W0 t r S S' bx #[.int .i64 3, .int .u16 st, .int .u32 pr, .bool un, .slice a l c, .int .i64 n] (1 + 1) w') := fun v hv => by
            obtain ⟨bs, vL, Q, rl, hr⟩ := hv.r0 (by decide)
            refine (rfree hr n).mono ?_
            rintro e w' ⟨rfl, h1, h2⟩
            rw [← hS'] at h1
            exact ⟨by rw [hE], hv.two ⟨_, _, _, _, h1⟩ h2⟩
          clear hE hS' EP1 EP2
          have EP1 := EF1
          have EP2 := EF2
          go_upto_region 11 with fail
          refine Ord.wp_region_ex0 (X := Unit) (by kernel_rfl) 142 (fun x => [(some 69, .pointer (some ⟨t, 0, none⟩)), (some 70, .pointer (some ⟨bx, 5, none⟩)), (some 71, .int .i64 n), (some 72, .int .i64 E), (some 73, .pointer (some ⟨r, 0, none⟩)), (some 74, .pointer (some ⟨bx, 5, none⟩)), (some 75, .int .i64 n), (some 76, .int .i64 E), (some 77, .bool false)]) [some 69, some 70, some 71, some 72, some 73, some 74, some 75, some 76, some 77] rfl (fun listed hsz hr => Ord.all_listedC (rank := [0, 1, 2, 3, 4, 5, 6, 7, 8]) (by kernel_rfl) hsz hr) (by rfl) (fun _ => rfl) (by kernel_rfl) (Rg.StM [3, 7] (fun k x w' => PA W0 t r S S' bx #[.int .i64 3, .int .u16 st, .int .u32 pr, .bool un, .slice a l c, .int .i64 n] k w')) (fun _ _ _ _ hL h => h.ext (n := 9) (by decide) hL) ?_ ?_ () ?_
          case refine_1 =>
            intro x Lq iq oq ac w' ho hi hcl hdep hF hW
            have f1 : ac.tmps.size = 142 := hF.1
            match iq, ho, hi, hdep with
            | 0, ho, hi, hdep =>
              cases ho
              have da0 : ac.eval (.tmp 0) = .pointer (some ⟨t, 0, none⟩) := hF.old 0 rfl
              exact Ord.ex_value x rfl rfl (Rg.mv da0 rfl) rfl (hW.keep (by decide))
            | 1, ho, hi, hdep =>
              cases ho
              have da0 : ac.eval (.tmp 5) = .pointer (some ⟨bx, 0, none⟩) := hF.old 5 rfl
              exact Ord.ex_value x rfl rfl (Rg.fa da0 rfl (by simp [go_sem])) rfl (hW.keep (by decide))
            | 2, ho, hi, hdep =>
              cases ho
              have da0 : ac.eval (.tmp 70) = .pointer (some ⟨bx, 5, none⟩) := hF.2.2.2 1 70 _ rfl (hdep ⟨1, .data⟩ (by simp) rfl)
              obtain ⟨kq, hlo, hhi, hA⟩ := hW.range 0 0 (.inl rfl) (.inr ⟨3, rfl, (Rg.no_of (fun h => hcl 3 _ rfl (h) ⟨2, .data⟩ (by simp) rfl) hi)⟩)
              exact Ord.ex_value x rfl rfl (Rg.load da0 rfl (by have hcl := hA.bx.cell 5 rfl; simp [go_sem, hcl])) rfl (hW.keep (by decide))
            | 3, ho, hi, hdep =>
              cases ho
              have da0 : ac.eval (.tmp 69) = .pointer (some ⟨t, 0, none⟩) := hF.2.2.2 0 69 _ rfl (hdep ⟨0, .data⟩ (by simp) rfl)
              have da1 : ac.eval (.tmp 71) = .int .i64 n := hF.2.2.2 2 71 _ rfl (hdep ⟨2, .data⟩ (by simp) rfl)
              have hA := hW.at (k := 0) rfl hi (.inl rfl)
              refine Rg.ex_call x rfl rfl (Rg.enter (args := #[.pointer (some ⟨t, 0, none⟩), .int .i64 n]) rfl rfl (by simp [da0, da1]) EP1.out) (Calls.mono (C1.out _ hA) ?_)
              rintro e w2 ⟨rfl, hh⟩
              exact ⟨rfl, hW.next (k := 0) rfl (by decide) hi (.inl rfl) hh⟩
            | 4, ho, hi, hdep =>
              cases ho
              have da0 : ac.eval (.tmp 1) = .pointer (some ⟨r, 0, none⟩) := hF.old 1 rfl
              exact Ord.ex_value x rfl rfl (Rg.mv da0 rfl) rfl (hW.keep (by decide))
            | 5, ho, hi, hdep =>
              cases ho
              have da0 : ac.eval (.tmp 5) = .pointer (some ⟨bx, 0, none⟩) := hF.old 5 rfl
              exact Ord.ex_value x rfl rfl (Rg.fa da0 rfl (by simp [go_sem])) rfl (hW.keep (by decide))
            | 6, ho, hi, hdep =>
              cases ho
              have da0 : ac.eval (.tmp 74) = .pointer (some ⟨bx, 5, none⟩) := hF.2.2.2 5 74 _ rfl (hdep ⟨5, .data⟩ (by simp) rfl)
              obtain ⟨kq, hlo, hhi, hA⟩ := hW.range 0 1 (.inl rfl) (.inr ⟨7, rfl, (Rg.no_of (fun h => hcl 7 _ rfl (h) ⟨6, .data⟩ (by simp) rfl) hi)⟩)
              exact Ord.ex_value x rfl rfl (Rg.load da0 rfl (by have hcl := hA.bx.cell 5 rfl; simp [go_sem, hcl])) rfl (hW.keep (by decide))
            | 7, ho, hi, hdep =>
              cases ho
              have da0 : ac.eval (.tmp 73) = .pointer (some ⟨r, 0, none⟩) := hF.2.2.2 4 73 _ rfl (hdep ⟨4, .data⟩ (by simp) rfl)
              have da1 : ac.eval (.tmp 75) = .int .i64 n := hF.2.2.2 6 75 _ rfl (hdep ⟨6, .data⟩ (by simp) rfl)
              have hA := hW.at (k := 1) rfl hi (.inr ⟨3, rfl, (hdep ⟨3, .chain⟩ (by simp) rfl)⟩)
              refine Rg.ex_call x rfl rfl (Rg.enter (args := #[.pointer (some ⟨r, 0, none⟩), .int .i64 n]) rfl rfl (by simp [da0, da1]) EP2.out) (Calls.mono (C2.out _ hA) ?_)
              rintro e w2 ⟨rfl, hh⟩
              exact ⟨rfl, hW.next (k := 1) rfl (by decide) hi (.inr ⟨3, rfl, (hdep ⟨3, .chain⟩ (by simp) rfl)⟩) hh⟩
            | 8, ho, hi, hdep =>
              cases ho
              have da0 : ac.eval (.tmp 72) = .int .i64 E := hF.2.2.2 3 72 _ rfl (hdep ⟨3, .data⟩ (by simp) rfl)
              have da1 : ac.eval (.tmp 76) = .int .i64 E := hF.2.2.2 7 76 _ rfl (hdep ⟨7, .data⟩ (by simp) rfl)
              exact Ord.ex_value x rfl rfl (Rg.bin da0 da1 rfl (by simp [go_sem])) rfl (hW.keep (by decide))
          case refine_3 => exact Rg.StM.first ((P1.out S').later ⟨rfl, rfl, rfl, Nat.le_refl _, fun _ _ => rfl⟩)
          case refine_2 =>
            intro _ w2 hW
            have HP : Hid (∃ F, Bo W0.heap.size w2 t r S' F ∧ Below W0.heap.size W0 w2 ∧ Has w2 bx #[.int .i64 3, .int .u16 st, .int .u32 pr, .bool un, .slice a l c, .int .i64 n] 36) := by
              have h := hW.last
              obtain ⟨F, hb⟩ := PA.end h
              exact ⟨F, hb, h.bw, h.bx⟩
            clear hW
            simp only [Ord.puts, Ord.prs]
            go_simp
            go_wp2_with fail
            go_meet
            case rel =>
              obtain ⟨F, h1, h2, h3⟩ := HP.out
              exact ⟨S', ⟨h3, h2, fun e => absurd e (by decide), fun _ => ⟨F, h1.cd, h1.fb⟩, fun e => absurd e (by decide), fun _ => h1.rf⟩⟩
        · go_wp2_with fail
          go_meet
          case rel =>
            have h := P1.out S
            obtain ⟨F, hc, hf⟩ := h.c0 rfl
            exact ⟨S, ⟨h.bx, h.bw, fun e => absurd e (by decide), fun _ => ⟨F, hc, hf⟩, fun e => absurd e (by decide), fun _ => h.r0 (by decide)⟩⟩
  case rest =>
  obtain ⟨S2, HP⟩ := hcut
  clear P1 EP1 EP2 EF1 EF2 HW1 x0
  obtain ⟨F, hc, hf⟩ := HP.out.c1 (by decide)
  obtain ⟨nx, ny, nz, hnx⟩ := nextV_shape S2
  have NX := NextX hc
  rw [hnx] at NX
  have HNX := hidden hnx
  clear hnx
  go_wp2_with fail
  refine Calls.mono NX ?_
  rintro e w2 ⟨rfl, hb2⟩
  have P2 := hidden (HP.out.later hb2)
  clear hb2 NX hc hf HP
  obtain ⟨bs, vL, Q, rl, hr⟩ := P2.out.r1 (by decide)
  have NR := rNext hr
  rw [HNX.out] at NR
  clear hr
  go_wp2_with fail
  refine Calls.mono NR ?_
  rintro e w3 ⟨rfl, hb3⟩
  have P3 := hidden (P2.out.later hb3)
  clear hb3 NR P2
  obtain ⟨F3, hc3, hf3⟩ := P3.out.c1 (by decide)
  obtain ⟨bs3, vL3, Q3, rl3, hr3⟩ := P3.out.r1 (by decide)
  have b1 := hr3.gd.h
  have b2 := hr3.gd.w1
  have b3 := hr3.gd.t0
  have b4 := hr3.gd.l2
  have hww : IntKind.i64.wrap (S2.wt + S2.tk) = S2.wt + S2.tk := by rw [IntKind.wrap_i64]; omega
  have c5 := hr3.q.cell 5 rfl
  have y1 := P3.out.bx.cell 1 rfl
  have CH : Hid (∀ v : World, v.heap = w3.heap → Calls Try.prog 16 #[.pointer (some ⟨t, 0, none⟩)] v fun e w' => e = .returned (.int .i64 (S2.wt + S2.tk)) ∧ w' = v) := fun v hv => (heldX (hc3.same hv)).mono (by rintro e w' ⟨rfl, rfl⟩; exact ⟨rfl, rfl⟩)
  have CW : Hid (∀ v : World, v.heap = w3.heap → Calls Try.prog 15 #[.pointer (some ⟨t, 0, none⟩)] v fun e w' => e = .returned (.int .i64 S2.wt) ∧ w' = v) := fun v hv => (waitingX (hc3.same hv)).mono (by rintro e w' ⟨rfl, rfl⟩; exact ⟨rfl, rfl⟩)
  have CT : Hid (∀ v : World, v.heap = w3.heap → Calls Try.prog 19 #[.pointer (some ⟨t, 0, none⟩)] v fun e w' => e = .returned (.int .i64 S2.tk) ∧ w' = v) := fun v hv => (takenX (hc3.same hv)).mono (by rintro e w' ⟨rfl, rfl⟩; exact ⟨rfl, rfl⟩)
  obtain ⟨cn, hcn⟩ : ∃ cn, cn = cntS S2 st := ⟨_, rfl⟩
  have CC : Hid (∀ v : World, v.heap = w3.heap → Calls Try.prog 20 #[.pointer (some ⟨t, 0, none⟩), .int .u16 st] v fun e w' => e = .returned (.int .i64 cn) ∧ w' = v) := fun v hv => (countX (hc3.same hv) st HST.out.1).mono (by rintro e w' ⟨rfl, rfl⟩; exact ⟨by rw [hcn], rfl⟩)
  have RC : Hid (∀ v : World, v.heap = w3.heap → Calls Try.prog 27 #[.pointer (some ⟨r, 0, none⟩), .int .u16 st] v fun e w' => e = .returned (.int .i64 cn) ∧ w' = v) := fun v hv => (rcount (hr3.same hv) st HST.out.1).mono (by rintro e w' ⟨rfl, rfl⟩; exact ⟨by rw [hcn], rfl⟩)
  have RW : Hid (∀ v : World, v.heap = w3.heap → Calls Try.prog 26 #[.pointer (some ⟨r, 0, none⟩)] v fun e w' => e = .returned (.int .i64 S2.wt) ∧ ∃ m, w' = v.drewN m) := fun v hv => rwaiting (hr3.same hv)
  clear hc3 hf3 hr3 b1 b2 b3 b4 hcn
  go_upto_region 15 with fail
  go_quiet (first
    | (go_at_call 16; exact Calls.quiet_of_same (CH.out _ rfl))
    | (go_at_call 15; exact Calls.quiet_of_same (CW.out _ rfl))
    | (go_at_call 19; exact Calls.quiet_of_same (CT.out _ rfl))
    | (go_at_call 20; exact Calls.quiet_of_same (CC.out _ rfl))
    | (go_at_call 27; exact Calls.quiet_of_same (RC.out _ rfl))
    | (go_at_call 26; exact Calls.quiet_of (RW.out _ rfl)))
  go_wp2
  go_ret
  have P4 := P3.out.later (w' := w3.drewN nq) ⟨rfl, rfl, rfl, Nat.le_refl _, fun _ _ => rfl⟩
  obtain ⟨F4, hb4⟩ := PA.end P4
  exact ⟨by simp, S2, F4, hb4, P4.bw⟩
end
end Go.Proofs.Ytfgoamfoddkafaa.Sq
