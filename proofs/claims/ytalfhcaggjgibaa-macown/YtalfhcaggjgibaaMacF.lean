/-
  The seal of a row of bytes, as package mac and the document make it.
  Conditions: the numbers lie within their kinds, the cells hold them.
-/
import Derived.Test.YtalfhcaggjgibaaMacE
namespace Go.Proofs.Ytalfhcaggjgibaa.Mac
open Go.ChangeShapes Go.WideShapes Go.ChangeAt Go.RowKit
set_option linter.unusedVariables false

theorem pk_congr {f g : Nat → Int} : ∀ n, (∀ i, i < n → f i = g i) → pk f n = pk g n
  | 0, _ => rfl
  | n + 1, h => by
    show bits .or .u64 (pk f n) (IntKind.u64.wrap (f n * 2 ^ (8 * n))) = bits .or .u64 (pk g n) (IntKind.u64.wrap (g n * 2 ^ (8 * n)))
    rw [pk_congr n (fun i hi => h i (by omega)), h n (by omega)]
theorem byteAt_drop (zs : List Int) (p i : Nat) : byteAt (zs.drop p) i = byteAt zs (p + i) := by
  unfold byteAt
  rw [List.getD_eq_getElem?_getD, List.getD_eq_getElem?_getD, List.getElem?_drop]
theorem come_append (s : Q × Int × Nat) (xs ys : List Int) : come s (xs ++ ys) = come (come s xs) ys := List.foldl_append

/-- fewer than eight bytes stand in the word -/
theorem come_few (q : Q) (n : Nat) (h8 : n % 8 = 0) (l : List Int) : ∀ j, j < 8 → j ≤ l.length → come (q, 0, n) (l.take j) = (q, pk (byteAt l) j, n + j)
  | 0, _, _ => rfl
  | j + 1, h1, h2 => by
    rw [come_snoc _ _ _ (by omega), come_few q n h8 l j (by omega) (by omega)]
    unfold step
    rw [if_neg (by show ¬ (n + j + 1) % 8 = 0; omega)]
    unfold put
    simp only
    rw [show (n + j) % 8 = j by omega]
    rfl
/-- eight are mixed in -/
theorem come_eight (q : Q) (n : Nat) (h8 : n % 8 = 0) (l : List Int) (hl : 8 ≤ l.length) : come (q, 0, n) (l.take 8) = (mixq q (pk (byteAt l) 8), 0, n + 8) := by
  rw [come_snoc _ _ 7 (by omega), come_few q n h8 l 7 (by omega) (by omega)]
  unfold step
  rw [if_pos (by show (n + 7 + 1) % 8 = 0; omega)]
  unfold put
  simp only
  rw [show (n + 7) % 8 = 7 by omega]
  rfl

/-- the first four numbers, of the two that a key is -/
def init4 (c0 c1 c2 c3 k l : Int) : Q := (xor k c0, xor l c1, xor k c2, xor l c3)
theorem UQ_init4 (c0 c1 c2 c3 k l : Int) : UQ (init4 c0 c1 c2 c3 k l) := ⟨U_xor _ _, U_xor _ _, U_xor _ _, U_xor _ _⟩
theorem init4_eq (c0 c1 c2 c3 k l : Int) : (init4 c0 c1 c2 c3 k l).1 = xor k c0 ∧ (init4 c0 c1 c2 c3 k l).2.1 = xor l c1 ∧ (init4 c0 c1 c2 c3 k l).2.2.1 = xor k c2 ∧ (init4 c0 c1 c2 c3 k l).2.2.2 = xor l c3 := ⟨rfl, rfl, rfl, rfl⟩
/-- eight bytes of a key -/
def half (kz : List Int) (i : Nat) : Int := pk (fun j => byteAt kz (i + j)) 8
def lo (kz : List Int) : Int := half kz 0
def hi (kz : List Int) : Int := half kz 8
def initq (kz : List Int) : Q := init4 8317987319222330741 7237128888997146477 7816392313619706465 8387220255154660723 (lo kz) (hi kz)
theorem initq_eq (kz : List Int) : (initq kz).1 = xor (lo kz) 8317987319222330741 ∧ (initq kz).2.1 = xor (hi kz) 7237128888997146477 ∧ (initq kz).2.2.1 = xor (lo kz) 7816392313619706465 ∧ (initq kz).2.2.2 = xor (hi kz) 8387220255154660723 :=
  init4_eq _ _ _ _ _ _
theorem UQ_initq (kz : List Int) : UQ (initq kz) := UQ_init4 _ _ _ _ _ _
/-- the seal of bytes under a key -/
def sip (kz zs : List Int) : Int := sealq (come (initq kz, 0, 0) zs).1 (come (initq kz, 0, 0) zs).2.1 (come (initq kz, 0, 0) zs).2.2
theorem U_fin (r : Q) : U (fin r) := U_xor _ _
theorem U_sip (kz zs : List Int) : U (sip kz zs) := U_fin _
/-- a key, as a call is handed it -/
def keyv (kz : List Int) : Value := .agg ⟨kz.map (.int .u8)⟩
structure Key (kz : List Int) : Prop where
  len : kz.length = 16
  bytes : Bytes kz

theorem key_row (w : World) (kz : List Int) (h : Key kz) (g i : Nat) (hg : g = w.heap.size) (t : TypeId) (hi : i ≤ 8) :
    Row (w.alloc (.cells ⟨kz.map (.int .u8)⟩ t)) (some ⟨g, i, none⟩) 8 ((kz.drop i).take 8) := by
  have hl := h.len
  refine ⟨by rw [List.length_take, List.length_drop]; omega, fun n hn => h.bytes n (List.mem_of_mem_drop (List.mem_of_mem_take hn)), by decide, .inr ⟨_, _, rfl, fun j hj => ?_⟩⟩
  rw [World.cell?_alloc_at _ _ _ _ hg]
  simp [List.getD_eq_getElem?_getD, List.getElem?_drop, hj, List.getElem?_eq_getElem (show i + j < kz.length by omega)]
theorem key_half (kz : List Int) (i : Nat) : pk (byteAt ((kz.drop i).take 8)) 8 = half kz i := pk_congr 8 (fun j hj => by
  unfold byteAt
  rw [List.getD_eq_getElem?_getD, List.getD_eq_getElem?_getD, List.getElem?_take, if_pos hj, List.getElem?_drop])

theorem xor_bits (x y : Int) : bits BinOp.xor IntKind.u64 x y = xor x y := rfl

theorem begins (w : World) (kz : List Int) (h : Key kz) :
    Calls Try.prog 16 #[keyv kz] w fun e w' => e = .returned (.agg #[.int .u64 (initq kz).1, .int .u64 (initq kz).2.1, .int .u64 (initq kz).2.2.1, .int .u64 (initq kz).2.2.2, .int .u64 0, .int .u64 0]) ∧ Below w.heap.size w w' := by
  have hb1 : Below w.heap.size w (w.alloc (.cells ⟨kz.map (.int .u8)⟩ 23)) := (Below.refl _ _).alloc (Nat.le_refl _) _
  have b2 := fun o => (Below.refl (w.alloc (.cells ⟨kz.map (.int .u8)⟩ 23)).heap.size (w.alloc (.cells ⟨kz.map (.int .u8)⟩ 23))).alloc (Nat.le_refl _) o
  have n1 := fun o i c (hi : i ≤ 8) => number ((w.alloc (.cells ⟨kz.map (.int .u8)⟩ 23)).alloc o).drew (some ⟨w.heap.size, i, none⟩) 8 c _ ((key_row w kz h w.heap.size i rfl 23 hi).later (b2 o).drew) (by decide)
  simp only [key_half] at n1
  have HB : Hid _ := hb1
  have HI : Hid _ := initq_eq kz
  generalize initq kz = q at *
  unfold lo hi at HI
  generalize half kz = hf at *
  clear b2 hb1
  have hl := h.len
  unfold keyv
  go_enter Try.func16, Try.ntmps16
  go_wp2_with fail
  go_region_held3 (fun w' => True) (trivial) (first | (go_at_call 21; refine Calls.mono (n1 _ _ _ (by decide)) ?_; rintro e w' ⟨rfl, rfl⟩))
  go_wp2
  rw [xor_bits, xor_bits, xor_bits, xor_bits, ← HI.out.1, ← HI.out.2.1, ← HI.out.2.2.1, ← HI.out.2.2.2]
  refine bodyPost_ret (v := .agg #[.int .u64 q.1, .int .u64 q.2.1, .int .u64 q.2.2.1, .int .u64 q.2.2.2, .int .u64 0, .int .u64 0]) (by simp [results, Try.results16, go_sem]) rfl ⟨rfl, ?_⟩
  exact (HB.out.alloc (by simp) _).drew

theorem st_new (w : World) (x0 x1 x2 x3 m n : Int) : St (w.alloc (.cells #[.int .u64 x0, .int .u64 x1, .int .u64 x2, .int .u64 x3, .int .u64 m, .int .u64 n] 41 (0, 0))) w.heap.size x0 x1 x2 x3 m n := by
  show (w.heap.push _)[w.heap.size]? = _
  simp
theorem US_zero (q : Q) (h : UQ q) (n : Nat) : US (q, 0, n) := ⟨h, show U 0 from ⟨by decide, by decide⟩⟩
theorem list16 {α : Type} (l : List α) (h : l.length = 16) : ∃ k0 k1 k2 k3 k4 k5 k6 k7 k8 k9 k10 k11 k12 k13 k14 k15, l = [k0, k1, k2, k3, k4, k5, k6, k7, k8, k9, k10, k11, k12, k13, k14, k15] := by
  match l, h with
  | [k0, k1, k2, k3, k4, k5, k6, k7, k8, k9, k10, k11, k12, k13, k14, k15], _ => exact ⟨k0, k1, k2, k3, k4, k5, k6, k7, k8, k9, k10, k11, k12, k13, k14, k15, rfl⟩
/-- a key's sixteen bytes, written out -/
theorem key16 (kz : List Int) (h : Key kz) : ∃ k0 k1 k2 k3 k4 k5 k6 k7 k8 k9 k10 k11 k12 k13 k14 k15, kz = [k0, k1, k2, k3, k4, k5, k6, k7, k8, k9, k10, k11, k12, k13, k14, k15] ∧ keyv kz = .agg #[.int .u8 k0, .int .u8 k1, .int .u8 k2, .int .u8 k3, .int .u8 k4, .int .u8 k5, .int .u8 k6, .int .u8 k7, .int .u8 k8, .int .u8 k9, .int .u8 k10, .int .u8 k11, .int .u8 k12, .int .u8 k13, .int .u8 k14, .int .u8 k15] := by
  obtain ⟨k0, k1, k2, k3, k4, k5, k6, k7, k8, k9, k10, k11, k12, k13, k14, k15, rfl⟩ := list16 kz h.len
  exact ⟨k0, k1, k2, k3, k4, k5, k6, k7, k8, k9, k10, k11, k12, k13, k14, k15, rfl, rfl⟩

theorem bytes (w : World) (kz : List Int) (h : Key kz) (a : Option Addr) (len cap : Nat) (zs : List Int) (hr : Row w a len zs) :
    Calls Try.prog 7 #[keyv kz, .slice a len cap] w fun e w' => e = .returned (.int .u64 (sip kz zs)) ∧ Below w.heap.size w w' := by
  have H := fun w => begins w kz h
  have HS : Hid (sip kz zs = sealq (come (initq kz, 0, 0) zs).1 (come (initq kz, 0, 0) zs).2.1 (come (initq kz, 0, 0) zs).2.2) := rfl
  generalize sip kz zs = R at *
  have uq := UQ_initq kz
  generalize initq kz = q at *
  obtain ⟨k0, k1, k2, k3, k4, k5, k6, k7, k8, k9, k10, k11, k12, k13, k14, k15, rfl, hk⟩ := key16 kz h
  rw [hk] at H ⊢
  clear hk
  go_enter Try.func7, Try.ntmps7
  go_wp2_with fail
  refine (H _).mono ?_
  rintro e w1 ⟨rfl, b1⟩
  have bw : Below w.heap.size w w1 := ((Below.refl _ _).alloc (Nat.le_refl _) _).trans (b1.mono (by simp))
  have hsz := bw.size
  clear b1 H
  have bo := fun o => bw.alloc hsz o
  have W := fun o (ho : o = Obj.cells #[.int .u64 q.1, .int .u64 q.2.1, .int .u64 q.2.2.1, .int .u64 q.2.2.2, .int .u64 0, .int .u64 0] 41 (0, 0)) =>
    write (w1.alloc o) w1.heap.size (q, 0, 0) a len cap zs (ho ▸ st_new w1 _ _ _ _ _ _) (US_zero q uq 0) (hr.later (bo o)) (fun hp x hx => by have := hr.block hp x hx; omega) (by have := hr.2.2.1; simp only; omega)
  have US := US_come zs (q, 0, 0) (US_zero q uq 0)
  generalize come (q, 0, 0) zs = s at *
  go_wp2_with fail
  refine (W _ rfl).mono ?_
  rintro e w2 ⟨rfl, h2, g2⟩
  go_wp2_with fail
  refine (sealed w2 w1.heap.size s.1 s.2.1 s.2.2 h2 US.1 US.2).mono ?_
  rintro e w3 ⟨rfl, g3⟩
  go_wp2
  go_ret
  refine ⟨by rw [HS.out]; rfl, ?_⟩
  have hs2 := g2.size
  have hs1 : (w1.alloc (Obj.cells #[.int .u64 q.1, .int .u64 q.2.1, .int .u64 q.2.2.1, .int .u64 q.2.2.2, .int .u64 0, .int .u64 0] 41 (0, 0))).heap.size = w1.heap.size + 1 := by simp
  exact ((bo _).grown g2 (by omega) (fun k hk => by cases hk; exact hsz)).grown g3 (by omega) (fun k hk => by cases hk; exact hsz)
end Go.Proofs.Ytalfhcaggjgibaa.Mac
