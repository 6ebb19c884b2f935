/-
  A queue of the law's own, beside what it keeps; the law's own three messages.
  Conditions: as at each lemma.
-/
import Derived.Test.YtfgoamfoddkafaaSqJ
namespace Go.Proofs.Ytfgoamfoddkafaa.Sq
open Go.ChangeShapes Go.WideShapes Go.ChangeAt Go.RowKit
open Ba (hidden Has Only cell_lt heap_lt)
open Ow (Bk)
set_option linter.unusedVariables false

section
variable {D F : Nat → Prop} {w w' : World} {t : Nat} {S S' : St} {n : Int}
theorem takK (h : Cd D w t S F) {c : Pc} (hk : tak S n = some (c, S')) : Calls Try.prog 14 #[.pointer (some ⟨t, 0, none⟩), .int .i64 n] w fun e w' => ∃ x, e = .returned (.tuple #[pcv c x, .bool true]) ∧ Mine w.heap.size w' x c.d ∧ (∃ F', Cd D w' t S' F' ∧ ∀ k, F' k → F k) ∧ Mod F w w' := by
  refine (takX h n).mono ?_
  rintro e w' (⟨h1, _⟩ | ⟨i, r, rs, _, _, _, h4, x, h5, h6, h7, h8⟩)
  · rw [hk] at h1; cases h1
  · rw [hk] at h4
    simp only [Option.some.injEq, Prod.mk.injEq] at h4
    obtain ⟨e1, e2⟩ := h4
    rw [← e1] at h5 h6
    rw [← e2] at h7
    exact ⟨x, h5, h6, h7, h8⟩
theorem pushK (h : Cd D w t S F) {s pr : Int} (hs : 0 ≤ s ∧ s < 65536) (hp : 0 ≤ pr ∧ pr < 4294967296) (un : Bool) {a : Option Addr} {len cap : Nat} {zs : List Int} (hr : Row w a len zs) (hD : ∀ k, w.heap.size ≤ k → D k) (hk : pushE S s zs = 0) :
    Calls Try.prog 13 #[.pointer (some ⟨t, 0, none⟩), .int .u16 s, .int .u32 pr, .bool un, .slice a len cap] w fun e w' => e = .returned (.int .i64 0) ∧ (∃ F', Cd D w' t (pushS S s.toNat pr un zs) F' ∧ ∀ k, F' k → F k ∨ w.heap.size ≤ k) ∧ Mod F w w' := by
  have := pushX h hs hp un (cap := cap) hr hD
  rw [hk, if_pos rfl] at this
  exact this
theorem Cd.mine {base : Nat} {v : Value} {zs : List Int} (h : Cd D w t S F) (hm : Mine base w v zs) (hM : Mod F w w') : Mine base w' v zs := by
  refine hm.stay hM (fun k hk hf => ?_)
  obtain ⟨cur, hc, _⟩ := hm.obj hk
  obtain ⟨cs, ty, hh, ht⟩ := h.type hf
  have := has_type hc hh
  subst this
  rcases ht with h | h | h <;> exact absurd h (by decide)
end
/-- a queue and what the law keeps beside it -/
structure Sys (D : Nat → Prop) (w0 w : World) (t : Nat) (S : St) (F : Nat → Prop) (L : List Bk) : Prop where
  cd : Cd D w t S F
  fb : ∀ k, F k → w0.heap.size ≤ k
  bl : Below w0.heap.size w0 w
  hs : ∀ x ∈ L, w0.heap.size ≤ x.1 ∧ Has w x.1 x.2.1 x.2.2 ∧ ¬ F x.1
section
variable {D F F' : Nat → Prop} {w0 w w' : World} {t : Nat} {S S' : St} {L : List Bk}
theorem Sys.step (h : Sys D w0 w t S F L) (hm : Mod F w w') (hc : Cd D w' t S' F') (hF : ∀ k, F' k → F k ∨ w.heap.size ≤ k) : Sys D w0 w' t S' F' L :=
  ⟨hc, fun k hk => (hF k hk).elim (h.fb k) (fun h1 => Nat.le_trans h.bl.size h1), h.bl.trans (hm.below h.bl.size h.fb), fun x hx => ⟨(h.hs x hx).1, hm.has (h.hs x hx).2.1 (h.hs x hx).2.2, fun hf => (hF _ hf).elim (h.hs x hx).2.2 (fun h1 => by have := (h.hs x hx).2.1.lt; omega)⟩⟩
theorem Sys.later (h : Sys D w0 w t S F L) (hB : Below w.heap.size w w') : Sys D w0 w' t S F L :=
  ⟨h.cd.later hB, h.fb, h.bl.trans (hB.mono h.bl.size), fun x hx => ⟨(h.hs x hx).1, (h.hs x hx).2.1.later hB, (h.hs x hx).2.2⟩⟩
theorem Sys.alloc (h : Sys D w0 w t S F L) (cs : Array Value) (ty : TypeId) : Sys D w0 (w.alloc (.cells cs ty)) t S F ((w.heap.size, cs, ty) :: L) := by
  have h1 := h.later ((Below.refl _ w).alloc (Nat.le_refl _) (.cells cs ty))
  refine ⟨h1.cd, h1.fb, h1.bl, fun x hx => ?_⟩
  rcases List.mem_cons.1 hx with rfl | hx
  · exact ⟨h.bl.size, Has.new w cs ty, fun hf => by have := h.cd.lt hf; simp only at this; omega⟩
  · exact h1.hs x hx
theorem Sys.has (h : Sys D w0 w t S F L) {b : Nat} {cs : Array Value} {ty : TypeId} (hx : (b, cs, ty) ∈ L) : Has w b cs ty := (h.hs _ hx).2.1
theorem Sys.start (hc : Cd D w' t S F) (hF : ∀ k, F k → w.heap.size ≤ k) (hB : Below w.heap.size w w') : Sys D w w' t S F [] := ⟨hc, hF, hB, fun x hx => by cases hx⟩
end
/-- a row of literal bytes, in a block of its own -/
theorem row_lit (w : World) (zs : List Int) (hb : Bytes zs) (hl : zs.length ≤ 65536) : Row (w.alloc (.cells (cs zs).toArray 5)) (some ⟨w.heap.size, 0, none⟩) zs.length zs := by
  refine ⟨rfl, hb, by omega, .inr ⟨w.heap.size, 0, rfl, fun j hj => ?_⟩⟩
  rw [Nat.zero_add]
  refine (Has.new w (cs zs).toArray 5).cell j ?_
  rw [List.getElem?_toArray, cs, List.getElem?_map, List.getElem?_eq_getElem hj, List.getD_eq_getElem?_getD, List.getElem?_eq_getElem hj]
  rfl
def A0 : St := newS 2 10
def A1 : St := pushS A0 0 0 false [97, 98]
def A2 : St := pushS A1 1 0 false [99]
def A3 : St := pushS A2 0 0 false [100]
def A4 : St := takeS A3 0 ⟨0, 0, 0, false, [97, 98], true⟩ [⟨0, 0, 0, false, [100], true⟩] 1
def A5 : St := takeS A4 0 ⟨0, 0, 0, false, [98], false⟩ [⟨0, 0, 0, false, [100], true⟩] 9
def A6 : St := takeS A5 1 ⟨1, 0, 0, false, [99], true⟩ [] 9
def A7 : St := takeS A6 0 ⟨0, 0, 0, false, [100], true⟩ [] 9
theorem p1 : pushE A0 0 [97, 98] = 0 := by decide +kernel
theorem p2 : pushE A1 1 [99] = 0 := by decide +kernel
theorem p3 : pushE A2 0 [100] = 0 := by decide +kernel
theorem t1 : tak A3 1 = some (⟨0, 0, 0, false, [97], true, false⟩, A4) := by rfl
theorem t2 : tak A4 9 = some (⟨0, 0, 0, false, [98], false, true⟩, A5) := by rfl
theorem t3 : tak A5 9 = some (⟨1, 0, 0, false, [99], true, true⟩, A6) := by rfl
theorem t4 : tak A6 9 = some (⟨0, 1, 0, false, [100], true, true⟩, A7) := by rfl
theorem held7 : A7.wt + A7.tk = 4 := by decide +kernel
set_option maxHeartbeats 1000000 in
theorem awake (w : World) : Calls Try.prog 11 #[] w fun e w' => e = .returned (.bool true) ∧ Below w.heap.size w w' := by
  have N := hidden (new (fun _ => True) 2 10 (by decide) (by decide) (by decide) (by decide) w)
  go_enter Try.func11, Try.ntmps11
  go_wp2_with fail
  refine Calls.mono N.out ?_
  rintro e w1 ⟨t, rfl, ⟨F1, hc1, hF1⟩, hB1⟩
  have H1 : Hid (Sys (fun _ => True) w w1 t A0 F1 []) := Sys.start hc1 hF1 hB1
  clear hc1 hF1 hB1 N
  go_wp2_with fail
  have h2 := H1.out.alloc (cs [97, 98]).toArray 5
  have P1 := pushK (cap := 2) h2.cd (s := 0) (pr := 0) (by decide) (by decide) false (row_lit w1 [97, 98] (by intro n hn; simp at hn; omega) (by decide)) (fun _ _ => trivial) p1
  refine Calls.mono P1 ?_
  rintro e w2 ⟨rfl, ⟨F2, hc2, hF2⟩, hm2⟩
  have H2 : Hid (Sys (fun _ => True) w w2 t A1 F2 _) := h2.step hm2 hc2 hF2
  clear h2 P1 hc2 hF2 hm2 H1
  go_wp2_with fail
  have h3 := H2.out.alloc (cs [99]).toArray 5
  have P2 := pushK (cap := 1) h3.cd (s := 1) (pr := 0) (by decide) (by decide) false (row_lit w2 [99] (by intro n hn; simp at hn; omega) (by decide)) (fun _ _ => trivial) p2
  refine Calls.mono P2 ?_
  rintro e w3 ⟨rfl, ⟨F3, hc3, hF3⟩, hm3⟩
  have H3 : Hid (Sys (fun _ => True) w w3 t A2 F3 _) := h3.step hm3 hc3 hF3
  clear h3 P2 hc3 hF3 hm3 H2
  go_wp2_with fail
  have h4 := H3.out.alloc (cs [100]).toArray 5
  have P3 := pushK (cap := 1) h4.cd (s := 0) (pr := 0) (by decide) (by decide) false (row_lit w3 [100] (by intro n hn; simp at hn; omega) (by decide)) (fun _ _ => trivial) p3
  refine Calls.mono P3 ?_
  rintro e w4 ⟨rfl, ⟨F4, hc4, hF4⟩, hm4⟩
  have H4 : Hid (Sys (fun _ => True) w w4 t A3 F4 []) := ⟨(h4.step hm4 hc4 hF4).cd, (h4.step hm4 hc4 hF4).fb, (h4.step hm4 hc4 hF4).bl, fun x hx => by cases hx⟩
  clear h4 P3 hc4 hF4 hm4 H3
  go_wp2_with fail
  refine Calls.mono (takK H4.out.cd t1) ?_
  rintro e w5 ⟨x1, rfl, hx1, ⟨F5, hc5, hF5⟩, hm5⟩
  have H5 : Hid (Sys (fun _ => True) w w5 t A4 F5 []) := H4.out.step hm5 hc5 (fun k hk => .inl (hF5 k hk))
  obtain ⟨a1, c1, hxe1, _⟩ := hx1.row
  have hxe1' : x1 = .slice a1 1 c1 := hxe1
  clear hxe1
  subst hxe1'
  have M1 := hidden hx1
  clear hc5 hF5 hm5 H4 hx1
  unfold pcv
  obtain ⟨v1, hv1⟩ : ∃ v, v = w5.alloc (.cells #[.int .u16 0, .int .u16 0, .int .u32 0, .bool false, .slice a1 1 c1, .bool true, .bool false] 44) := ⟨_, rfl⟩
  have HS2 : Hid (Sys (fun _ => True) w v1 t A4 F5 ((w5.heap.size, #[.int .u16 0, .int .u16 0, .int .u32 0, .bool false, .slice a1 1 c1, .bool true, .bool false], 44) :: [])) := by rw [hv1]; exact H5.out.alloc _ _
  have M1 := hidden (M1.out.later (w' := v1) (by rw [hv1]; exact (Below.refl _ w5).alloc (Nat.le_refl _) _))
  go_wp2_with fail
  rw [← hv1]
  refine Calls.mono (takK HS2.out.cd t2) ?_
  rintro e w6 ⟨x2, rfl, hx2, ⟨F6, hc6, hF6⟩, hm6⟩
  have H6 : Hid (Sys (fun _ => True) w w6 t A5 F6 ((w5.heap.size, #[.int .u16 0, .int .u16 0, .int .u32 0, .bool false, .slice a1 1 c1, .bool true, .bool false], 44) :: [])) := HS2.out.step hm6 hc6 (fun k hk => .inl (hF6 k hk))
  have M1 := hidden (HS2.out.cd.mine M1.out hm6)
  obtain ⟨a2, c2, hxe2, _⟩ := hx2.row
  have hxe2' : x2 = .slice a2 1 c2 := hxe2
  clear hxe2
  subst hxe2'
  have M2 := hidden hx2
  clear hc6 hF6 hm6 H5 HS2 hx2 hv1
  unfold pcv
  obtain ⟨v2, hv2⟩ : ∃ v, v = w6.alloc (.cells #[.int .u16 0, .int .u16 0, .int .u32 0, .bool false, .slice a2 1 c2, .bool false, .bool true] 44) := ⟨_, rfl⟩
  have HS3 : Hid (Sys (fun _ => True) w v2 t A5 F6 ((w6.heap.size, #[.int .u16 0, .int .u16 0, .int .u32 0, .bool false, .slice a2 1 c2, .bool false, .bool true], 44) :: (w5.heap.size, #[.int .u16 0, .int .u16 0, .int .u32 0, .bool false, .slice a1 1 c1, .bool true, .bool false], 44) :: [])) := by rw [hv2]; exact H6.out.alloc _ _
  have M1 := hidden (M1.out.later (w' := v2) (by rw [hv2]; exact (Below.refl _ w6).alloc (Nat.le_refl _) _))
  have M2 := hidden (M2.out.later (w' := v2) (by rw [hv2]; exact (Below.refl _ w6).alloc (Nat.le_refl _) _))
  go_wp2_with fail
  rw [← hv2]
  refine Calls.mono (takK HS3.out.cd t3) ?_
  rintro e w7 ⟨x3, rfl, hx3, ⟨F7, hc7, hF7⟩, hm7⟩
  have H7 : Hid (Sys (fun _ => True) w w7 t A6 F7 ((w6.heap.size, #[.int .u16 0, .int .u16 0, .int .u32 0, .bool false, .slice a2 1 c2, .bool false, .bool true], 44) :: (w5.heap.size, #[.int .u16 0, .int .u16 0, .int .u32 0, .bool false, .slice a1 1 c1, .bool true, .bool false], 44) :: [])) := HS3.out.step hm7 hc7 (fun k hk => .inl (hF7 k hk))
  have M1 := hidden (HS3.out.cd.mine M1.out hm7)
  have M2 := hidden (HS3.out.cd.mine M2.out hm7)
  obtain ⟨a3, c3, hxe3, _⟩ := hx3.row
  have hxe3' : x3 = .slice a3 1 c3 := hxe3
  clear hxe3
  subst hxe3'
  have M3 := hidden hx3
  clear hc7 hF7 hm7 H6 HS3 hx3 hv2
  unfold pcv
  obtain ⟨v3, hv3⟩ : ∃ v, v = w7.alloc (.cells #[.int .u16 1, .int .u16 0, .int .u32 0, .bool false, .slice a3 1 c3, .bool true, .bool true] 44) := ⟨_, rfl⟩
  have HS4 : Hid (Sys (fun _ => True) w v3 t A6 F7 ((w7.heap.size, #[.int .u16 1, .int .u16 0, .int .u32 0, .bool false, .slice a3 1 c3, .bool true, .bool true], 44) :: (w6.heap.size, #[.int .u16 0, .int .u16 0, .int .u32 0, .bool false, .slice a2 1 c2, .bool false, .bool true], 44) :: (w5.heap.size, #[.int .u16 0, .int .u16 0, .int .u32 0, .bool false, .slice a1 1 c1, .bool true, .bool false], 44) :: [])) := by rw [hv3]; exact H7.out.alloc _ _
  have M1 := hidden (M1.out.later (w' := v3) (by rw [hv3]; exact (Below.refl _ w7).alloc (Nat.le_refl _) _))
  have M2 := hidden (M2.out.later (w' := v3) (by rw [hv3]; exact (Below.refl _ w7).alloc (Nat.le_refl _) _))
  have M3 := hidden (M3.out.later (w' := v3) (by rw [hv3]; exact (Below.refl _ w7).alloc (Nat.le_refl _) _))
  go_wp2_with fail
  rw [← hv3]
  refine Calls.mono (takK HS4.out.cd t4) ?_
  rintro e w8 ⟨x4, rfl, hx4, ⟨F8, hc8, hF8⟩, hm8⟩
  have H8 : Hid (Sys (fun _ => True) w w8 t A7 F8 ((w7.heap.size, #[.int .u16 1, .int .u16 0, .int .u32 0, .bool false, .slice a3 1 c3, .bool true, .bool true], 44) :: (w6.heap.size, #[.int .u16 0, .int .u16 0, .int .u32 0, .bool false, .slice a2 1 c2, .bool false, .bool true], 44) :: (w5.heap.size, #[.int .u16 0, .int .u16 0, .int .u32 0, .bool false, .slice a1 1 c1, .bool true, .bool false], 44) :: [])) := HS4.out.step hm8 hc8 (fun k hk => .inl (hF8 k hk))
  have M1 := hidden (HS4.out.cd.mine M1.out hm8)
  have M2 := hidden (HS4.out.cd.mine M2.out hm8)
  have M3 := hidden (HS4.out.cd.mine M3.out hm8)
  obtain ⟨a4, c4, hxe4, _⟩ := hx4.row
  have hxe4' : x4 = .slice a4 1 c4 := hxe4
  clear hxe4
  subst hxe4'
  have M4 := hidden hx4
  clear hc8 hF8 hm8 H7 HS4 hx4 hv3
  unfold pcv
  obtain ⟨W9, hW9⟩ : ∃ v, v = w8.alloc (.cells #[.int .u16 0, .int .u16 1, .int .u32 0, .bool false, .slice a4 1 c4, .bool true, .bool true] 44) := ⟨_, rfl⟩
  have HS9 : Hid (Sys (fun _ => True) w W9 t A7 F8 ((w8.heap.size, #[.int .u16 0, .int .u16 1, .int .u32 0, .bool false, .slice a4 1 c4, .bool true, .bool true], 44) :: (w7.heap.size, #[.int .u16 1, .int .u16 0, .int .u32 0, .bool false, .slice a3 1 c3, .bool true, .bool true], 44) :: (w6.heap.size, #[.int .u16 0, .int .u16 0, .int .u32 0, .bool false, .slice a2 1 c2, .bool false, .bool true], 44) :: (w5.heap.size, #[.int .u16 0, .int .u16 0, .int .u32 0, .bool false, .slice a1 1 c1, .bool true, .bool false], 44) :: [])) := by rw [hW9]; exact H8.out.alloc _ _
  have hB9 : Below w8.heap.size w8 W9 := by rw [hW9]; exact (Below.refl _ w8).alloc (Nat.le_refl _) _
  have cv1 : (convert 34 9 (.slice a1 1 c1)).run Try.prog W9 = .ok (.string ⟨#[97]⟩) W9 := by
    have hm := M1.out.later hB9
    obtain ⟨a, c, e, hr, _⟩ := hm.row
    cases e
    have := hr.conv c1
    exact this
  have cv2 : (convert 34 9 (.slice a2 1 c2)).run Try.prog W9 = .ok (.string ⟨#[98]⟩) W9 := by
    have hm := M2.out.later hB9
    obtain ⟨a, c, e, hr, _⟩ := hm.row
    cases e
    have := hr.conv c2
    exact this
  have cv3 : (convert 34 9 (.slice a3 1 c3)).run Try.prog W9 = .ok (.string ⟨#[99]⟩) W9 := by
    have hm := M3.out.later hB9
    obtain ⟨a, c, e, hr, _⟩ := hm.row
    cases e
    have := hr.conv c3
    exact this
  have cv4 : (convert 34 9 (.slice a4 1 c4)).run Try.prog W9 = .ok (.string ⟨#[100]⟩) W9 := by
    have hm := M4.out.later hB9
    obtain ⟨a, c, e, hr, _⟩ := hm.row
    cases e
    have := hr.conv c4
    exact this
  have h9 := HS9.out
  have HW9 := hidden hW9
  clear hW9
  have bx1 := h9.has (.tail _ (.tail _ (.tail _ (.head _))))
  have y11 := bx1.cell 1 rfl
  have y14 := bx1.cell 4 rfl
  have y15 := bx1.cell 5 rfl
  have y16 := bx1.cell 6 rfl
  have bx2 := h9.has (.tail _ (.tail _ (.head _)))
  have y21 := bx2.cell 1 rfl
  have y24 := bx2.cell 4 rfl
  have y25 := bx2.cell 5 rfl
  have y26 := bx2.cell 6 rfl
  have bx3 := h9.has (.tail _ (.head _))
  have y31 := bx3.cell 1 rfl
  have y34 := bx3.cell 4 rfl
  have y35 := bx3.cell 5 rfl
  have y36 := bx3.cell 6 rfl
  have bx4 := h9.has (.head _)
  have y41 := bx4.cell 1 rfl
  have y44 := bx4.cell 4 rfl
  have y45 := bx4.cell 5 rfl
  have y46 := bx4.cell 6 rfl
  have HE := heldX h9.cd
  rw [held7] at HE
  have HEH := hidden HE
  clear h9 HE bx1 bx2 bx3 bx4
  go_upto_region 8 with fail
  rw [← HW9.out]
  go_wp2_with fail
  refine Calls.mono HEH.out ?_
  rintro e w' ⟨rfl, rfl⟩
  go_wp2
  go_ret
  exact ⟨rfl, HS9.out.bl⟩
end Go.Proofs.Ytfgoamfoddkafaa.Sq
