/-
  The remainder and the sum of bytes as plain functions on numbers, and what the document says of them: in nibbles, over parts, laid on one another, and that a burst of 32 bits is found. What the functions of package crc that only read return, and the document's answers beside them, and that all leave memory as it was. A slice of slices of bytes that came in, as parts that can be read; a row of the call's own, as a row that can be read. What crc's sumOf, Put and Check, and the library's functions that they call, return of a packet. What the document's Put and Check return of a packet. What crc.Put and the document's Put return of every row of bytes, short or long. What turning bits of a packet does to its number, and that a burst of 32 bits outside the sum's place makes the packet one that has not its sum.
  Conditions: as at each lemma.
-/
import Derived.WalkKit
import Derived.ProofKit
import Derived.Laws.BitsAllLaws
import Derived.Test.YtmnndkhdekpecaaGreatDoorRows
import Derived.OpenShut
import Derived.Lib.SlBytesConst
import Derived.Deep.Matrix
import Derived.Laws.AppendOwnNone
import Derived.Deep.RegionHeld3
import Derived.Deep.DrawnRows
import Derived.Lib.AppendZerosOnto
import Derived.Laws.BytesArg
namespace Go.Proofs.YtmnndkhdekpecaaGreatDoor.Crc
set_option linter.unusedVariables false

/-- one step of the remainder -/
def bit1 (r : Nat) : Nat := r / 2 ^^^ (if r % 2 = 1 then 2197175160 else 0)
/-- so many steps -/
def iter : Nat → Nat → Nat
  | 0, r => r
  | k + 1, r => iter k (bit1 r)
/-- the steps of a nibble, as they stand in the program's table -/
def tab : List Int := [0, 274646895, 549293790, 820201905, 1098587580, 1361435347, 1640403810, 1905808397, 2197175160, 2460548119, 2722870694, 2987750089, 3280807620, 3553878443, 3811616794, 4084100981]
def nib (r : Nat) : Nat := r / 16 ^^^ (tab.getD (r % 16) 0).toNat
/-- the remainder of bytes from r -/
def rem (r : Nat) (zs : List Int) : Nat := zs.foldl (fun r z => iter 8 (r ^^^ z.toNat)) r
/-- the sum of bytes -/
def sum (zs : List Int) : Nat := rem 4294967295 zs ^^^ 4294967295
/-- bytes as one number, the first byte lowest -/
def num : List Int → Nat
  | [] => 0
  | z :: r => z.toNat + 256 * num r
/-- bytes -/
def Bytes (zs : List Int) : Prop := ∀ n ∈ zs, 0 ≤ n ∧ n < 256

theorem half_xor (a b : Nat) : (a ^^^ b) / 2 = a / 2 ^^^ b / 2 := by
  have := @Nat.shiftRight_xor_distrib 1 a b
  simpa [Nat.shiftRight_eq_div_pow] using this

theorem bit1_xor (a b : Nat) : bit1 (a ^^^ b) = bit1 a ^^^ bit1 b := by
  unfold bit1
  have e : (a ^^^ b) % 2 = a % 2 ^^^ b % 2 := Nat.xor_mod_two_pow (n := 1)
  rw [half_xor, e]
  have ha := Nat.mod_two_eq_zero_or_one a
  have hb := Nat.mod_two_eq_zero_or_one b
  rcases ha with ha | ha <;> rcases hb with hb | hb <;> rw [ha, hb] <;> simp
  · exact Nat.xor_assoc _ _ _
  · rw [Nat.xor_assoc, Nat.xor_assoc, Nat.xor_comm (b / 2)]
  · rw [Nat.xor_assoc, Nat.xor_comm 2197175160 (b / 2 ^^^ _), Nat.xor_assoc, Nat.xor_self, Nat.xor_zero]

theorem bit1_twice (x : Nat) : bit1 (2 * x) = x := by
  unfold bit1
  rw [if_neg (by omega), Nat.xor_zero]
  omega

theorem bit1_zero : bit1 0 = 0 := by decide

theorem bit1_lt (r : Nat) (h : r < 4294967296) : bit1 r < 4294967296 := by
  unfold bit1
  refine Nat.xor_lt_two_pow (n := 32) (by omega) ?_
  split <;> omega

theorem eq_of_xor (a b : Nat) (h : a ^^^ b = 0) : a = b := by
  have e := congrArg (fun t => t ^^^ b) h
  simpa [Nat.xor_assoc, Nat.xor_self] using e

theorem bit1_ne (r : Nat) (h : r < 4294967296) (h0 : r ≠ 0) : bit1 r ≠ 0 := by
  unfold bit1
  intro e
  have e2 := eq_of_xor _ _ e
  split at e2 <;> omega

theorem iter_xor (k : Nat) : ∀ a b, iter k (a ^^^ b) = iter k a ^^^ iter k b := by
  induction k with
  | zero => intro a b; rfl
  | succ k ih => intro a b; rw [iter, iter, iter, bit1_xor, ih]

theorem iter_add (a b : Nat) : ∀ r, iter (a + b) r = iter b (iter a r) := by
  induction a with
  | zero => intro r; rw [Nat.zero_add]; rfl
  | succ a ih => intro r; rw [Nat.add_right_comm, iter, ih, iter]

theorem iter_pow (k x : Nat) : iter k (x * 2 ^ k) = x := by
  induction k with
  | zero => simp [iter]
  | succ k ih => rw [iter, show x * 2 ^ (k + 1) = 2 * (x * 2 ^ k) by rw [Nat.pow_succ]; ac_rfl, bit1_twice, ih]

theorem iter_lt (k : Nat) : ∀ r, r < 4294967296 → iter k r < 4294967296 := by
  induction k with
  | zero => intro r h; exact h
  | succ k ih => intro r h; exact ih _ (bit1_lt r h)

theorem iter_ne (k : Nat) : ∀ r, r < 4294967296 → r ≠ 0 → iter k r ≠ 0 := by
  induction k with
  | zero => intro r _ h; exact h
  | succ k ih => intro r h h0; exact ih _ (bit1_lt r h) (bit1_ne r h h0)

theorem iter_zero (k : Nat) : iter k 0 = 0 := by
  induction k with
  | zero => rfl
  | succ k ih => rw [iter, bit1_zero, ih]

theorem add_xor (k x y : Nat) (h : y < 2 ^ k) : y + 2 ^ k * x = y ^^^ (x * 2 ^ k) := by
  apply Nat.eq_of_testBit_eq
  intro j
  rw [Nat.testBit_xor, Nat.add_comm, Nat.testBit_two_pow_mul_add x h, Nat.mul_comm x, Nat.testBit_two_pow_mul]
  by_cases hj : j < k
  · rw [if_pos hj]
    simp [Nat.not_le.2 hj]
  · rw [if_neg hj, Nat.testBit_lt_two_pow (Nat.lt_of_lt_of_le h (Nat.pow_le_pow_right (by decide) (by omega)))]
    simp [Nat.not_lt.1 hj]

theorem tab_eq : ∀ i : Fin 16, iter 4 i.val = (tab.getD i.val 0).toNat := by decide +kernel

theorem nib_eq (r : Nat) : nib r = iter 4 r := by
  have e : r = (r % 16) ^^^ (r / 16 * 2 ^ 4) := by
    rw [← add_xor 4 (r / 16) (r % 16) (by omega)]
    omega
  have t := tab_eq ⟨r % 16, by omega⟩
  conv => rhs; rw [e, iter_xor, iter_pow, t]
  unfold nib
  rw [Nat.xor_comm]

theorem nib2_eq (r : Nat) : nib (nib r) = iter 8 r := by
  rw [nib_eq, nib_eq, ← iter_add]

theorem rem_lt (zs : List Int) (hb : Bytes zs) : ∀ r, r < 4294967296 → rem r zs < 4294967296 := by
  induction zs with
  | nil => intro r h; exact h
  | cons z t ih =>
    intro r h
    refine ih (fun n hn => hb n (by simp [hn])) _ (iter_lt _ _ ?_)
    have := hb z (by simp)
    exact Nat.xor_lt_two_pow (n := 32) h (by omega)

theorem rem_append (r : Nat) (a b : List Int) : rem r (a ++ b) = rem (rem r a) b := by
  unfold rem
  rw [List.foldl_append]

theorem rem_num (zs : List Int) (hb : Bytes zs) : ∀ r, rem r zs = iter (8 * zs.length) (r ^^^ num zs) := by
  induction zs with
  | nil => intro r; simp [rem, num, iter]
  | cons z t ih =>
    intro r
    have hz := hb z (by simp)
    have e : num (z :: t) = z.toNat ^^^ (num t * 2 ^ 8) := by
      rw [← add_xor 8 (num t) z.toNat (by omega)]
      rfl
    show rem (iter 8 (r ^^^ z.toNat)) t = _
    rw [ih (fun n hn => hb n (by simp [hn])), e, List.length_cons, show 8 * (t.length + 1) = 8 + 8 * t.length by omega, iter_add, ← Nat.xor_assoc, iter_xor 8 _ (num t * 2 ^ 8), iter_pow]

/-- what a burst does to a remainder -/
theorem burst (zs ys : List Int) (hz : Bytes zs) (hy : Bytes ys) (hl : ys.length = zs.length) (at' bits r : Nat) (hb : bits < 4294967296) (h0 : bits ≠ 0) (hat : at' + 32 ≤ 8 * zs.length)
    (hn : num ys = num zs ^^^ (bits * 2 ^ at')) : rem r ys ≠ rem r zs := by
  rw [rem_num zs hz, rem_num ys hy, hl, hn, ← Nat.xor_assoc, iter_xor]
  intro e
  have e2 : iter (8 * zs.length) (bits * 2 ^ at') = 0 := by
    have e3 := congrArg (fun t => iter (8 * zs.length) (r ^^^ num zs) ^^^ t) e
    simpa [← Nat.xor_assoc, Nat.xor_self] using e3
  rw [show 8 * zs.length = at' + (8 * zs.length - at') by omega, iter_add, iter_pow] at e2
  exact iter_ne _ _ hb h0 e2

theorem rem_snoc (r : Nat) (zs : List Int) (k : Nat) (h : k < zs.length) : rem r (zs.take (k + 1)) = iter 8 (rem r (zs.take k) ^^^ (zs.getD k 0).toNat) := by
  have e : zs.take (k + 1) = zs.take k ++ [zs.getD k 0] := by
    rw [List.take_add_one, List.getElem?_eq_getElem h, List.getD_eq_getElem?_getD, List.getElem?_eq_getElem h]
    rfl
  rw [e, rem_append]
  rfl

theorem sum_known : sum [49, 50, 51, 52, 53, 54, 55, 56, 57] = 3808858755 := by decide +kernel

end Go.Proofs.YtmnndkhdekpecaaGreatDoor.Crc
namespace Go.Proofs.YtmnndkhdekpecaaGreatDoor.Crc
open Go.ChangeShapes Go.WideShapes Go.ChangeAt Go.RowKit
set_option linter.unusedVariables false
set_option maxRecDepth 20000

/-- the program's table stands in block 0 -/
def Tab (w : World) : Prop := ∀ i : Nat, i < 16 → w.cell? ⟨0, i, none⟩ = some (.int .u32 (tab.getD i 0))

/-- a row of bytes that can be read -/
def Row (w : World) (a : Option Addr) (len : Nat) (zs : List Int) : Prop :=
  zs.length = len ∧ Bytes zs ∧ len ≤ 281474976710656 ∧ (len = 0 ∨ ∃ b off, a = some ⟨b, off, none⟩ ∧ ∀ j, j < len → w.cell? ⟨b, off + j, none⟩ = some (.int .u8 (zs.getD j 0)))

theorem fin_int {k : IntKind} {x y : Int} {w : World} (h : x = y) : Ending.returned (.int k x) = Ending.returned (.int k y) ∧ w = w := ⟨by rw [h], rfl⟩

theorem tab_bound (i : Nat) (h : i < 16) : 0 ≤ tab.getD i 0 ∧ tab.getD i 0 < 4294967296 := by
  have t : ∀ i : Fin 16, 0 ≤ tab.getD i.val 0 ∧ tab.getD i.val 0 < 4294967296 := by decide +kernel
  exact t ⟨i, h⟩

theorem xor_u32 (a b : Nat) (ha : a < 4294967296) (hb : b < 4294967296) : bits .xor .u32 (a : Int) (b : Int) = ((a ^^^ b : Nat) : Int) := u32_xor_nat a b ha hb

theorem nib_lt (r : Nat) (h : r < 4294967296) : nib r < 4294967296 := by rw [nib_eq]; exact iter_lt _ _ h

/-- what the walk makes of a nibble's step -/
theorem nib_walk (R : Nat) (h : R < 4294967296) : bits .xor .u32 ((R : Int) / 16) (tab.getD (R % 16) 0) = ((nib R : Nat) : Int) := by
  have t := tab_bound (R % 16) (by omega)
  have e : tab.getD (R % 16) 0 = (((tab.getD (R % 16) 0).toNat : Nat) : Int) := by omega
  rw [e, show ((R : Int) / 16) = ((R / 16 : Nat) : Int) by omega, xor_u32 _ _ (by omega) (by omega)]
  rfl

theorem step (r : Nat) (hr : r < 4294967296) (w : World) (ht : Tab w) :
    Calls Tryz.prog 112 #[.int .u32 (r : Int)] w fun e w' => e = .returned (.int .u32 ((iter 8 r : Nat) : Int)) ∧ w = w' := by
  go_enter Tryz.func112, Tryz.ntmps112
  go_wp2
  go_loop [0, 3] (fun s i => ∃ k : Nat, k ≤ 2 ∧ i = .int .i64 k ∧ s = .int .u32 ((iter (4 * k) r : Nat) : Int))
    (fun _ i => 2 - (intOf i).toNat)
  case atStart => exact ⟨0, Nat.zero_le _, rfl, rfl⟩
  case round =>
    obtain ⟨k, hk, rfl, rfl⟩ := hrel
    have hs := iter_lt (4 * k) r hr
    have hn : iter (4 * (k + 1)) r = nib (iter (4 * k) r) := by rw [nib_eq, ← iter_add]; rfl
    generalize hR : iter (4 * k) r = R at hs hn ⊢
    have HS : Hid (iter (4 * k) r = R) := hR
    have HN : Hid (iter (4 * (k + 1)) r = nib R) := hn
    clear hR hn
    have h1 : bits BinOp.and IntKind.u32 (R : Int) 15 = ((R % 16 : Nat) : Int) := by
      rw [show (15 : Int) = ((15 : Nat) : Int) from rfl, u32_and_nat R 15 hs (by decide), nat_mask4]
    have h2 : w.cell? ⟨0, R % 16, none⟩ = some (.int .u32 (tab.getD (R % 16) 0)) := ht _ (by omega)
    have h3 : R % 16 < 16 := by omega
    have h4 : Hid (bits .xor .u32 ((R : Int) / 16) (tab.getD (R % 16) 0) = ((nib R : Nat) : Int)) := nib_walk R hs
    go_wp2
    · go_round
      case rel => exact ⟨k + 1, by omega, by go_num, by rw [← List.getD_eq_getElem?_getD, h4.out, HN.out]⟩
      case measure => simp [intOf]; omega
    · have hge : k = 2 := by omega
      subst hge
      go_ret
      exact fin_int (congrArg Int.ofNat HS.out.symm)

theorem bit_walk (R : Nat) (h : R < 4294967296) : (R % 2 = 1 → bits .xor .u32 ((R : Int) / 2) 2197175160 = ((bit1 R : Nat) : Int)) ∧ (R % 2 ≠ 1 → ((R : Int) / 2) = ((bit1 R : Nat) : Int)) := by
  unfold bit1
  constructor <;> intro e
  · rw [if_pos e, show ((R : Int) / 2) = ((R / 2 : Nat) : Int) by omega, show (2197175160 : Int) = ((2197175160 : Nat) : Int) from rfl, xor_u32 _ _ (by omega) (by decide)]
  · rw [if_neg e, Nat.xor_zero]; omega

theorem at_bound (zs : List Int) (hb : Bytes zs) (k : Nat) : 0 ≤ zs[k]?.getD 0 ∧ zs[k]?.getD 0 < 256 := by
  cases h : zs[k]? with
  | none => decide
  | some x => exact hb x (List.mem_of_getElem? h)

theorem byte_walk (R : Nat) (h : R < 4294967296) (z : Int) (hz : 0 ≤ z ∧ z < 256) : bits .xor .u32 (R : Int) z = ((R ^^^ z.toNat : Nat) : Int) := by
  have e : z = ((z.toNat : Nat) : Int) := by omega
  generalize hn : z.toNat = n at e ⊢
  rw [e, xor_u32 _ _ h (by omega)]

theorem rextend (r : Nat) (hr : r < 4294967296) (a : Option Addr) (len cap : Nat) (zs : List Int) (w : World) (h : Row w a len zs) :
    Calls Tryz.prog 87 #[.int .u32 (r : Int), .slice a len cap] w fun e w' => e = .returned (.int .u32 ((rem r zs : Nat) : Int)) ∧ w = w' := by
  obtain ⟨hl, hb, hlim, rfl | ⟨b, off, rfl, hc⟩⟩ := h
  · obtain rfl := List.eq_nil_of_length_eq_zero hl
    go_enter Tryz.func87, Tryz.ntmps87
    go_wp2
    refine wp_loop_rounds 1 ?_
    rw [rounds_succ]
    go_wp2
    go_ret
    exact fin_int rfl
  · go_enter Tryz.func87, Tryz.ntmps87
    go_wp2
    go_loop [0, 5, 6, 7] (fun s i _ _ => ∃ k : Nat, k ≤ len ∧ i = .int .i64 k ∧ s = .int .u32 ((rem r (zs.take k) : Nat) : Int))
      (fun _ i _ _ => len - (intOf i).toNat)
    case atStart => exact ⟨0, Nat.zero_le _, rfl, rfl⟩
    case round =>
      obtain ⟨k, hk, rfl, rfl⟩ := hrel
      obtain ⟨z, hz⟩ : ∃ z, z = zs.getD k 0 := ⟨_, rfl⟩
      have hx : 0 ≤ z ∧ z < 256 := by rw [hz, List.getD_eq_getElem?_getD]; exact at_bound zs hb k
      have hcell : k < len → w.cell? ⟨b, off + k, none⟩ = some (.int .u8 z) := fun h => by rw [hz]; exact hc _ h
      have hs := rem_lt (zs.take k) (fun n hn => hb n (List.mem_of_mem_take hn)) r hr
      have hsn := rem_snoc r zs k
      rw [← hz] at hsn
      clear hc hb hz
      generalize hS : rem r (zs.take k) = S at hs hsn ⊢
      have HS : Hid (rem r (zs.take k) = S) := hS
      have h5 : S ^^^ z.toNat < 4294967296 := Nat.xor_lt_two_pow (n := 32) hs (by omega)
      have h4 := byte_walk S hs _ hx
      generalize hX : S ^^^ z.toNat = X at h4 h5 hsn
      have HN : Hid (k < zs.length → rem r (zs.take (k + 1)) = iter 8 X) := hsn
      clear hS hsn hX
      have h32 : z % 4294967296 = z := by omega
      go_wp2
      · have hlt : k < len := by assumption
        go_loop [0, 6, 7] (fun s i _ => ∃ j : Nat, j ≤ 8 ∧ i = .int .i64 j ∧ s = .int .u32 ((iter j X : Nat) : Int))
          (fun _ i _ => 8 - (intOf i).toNat)
        case atStart => exact ⟨0, Nat.zero_le _, rfl, rfl⟩
        case round =>
          obtain ⟨j, hj, rfl, rfl⟩ := hrel
          have ht := iter_lt j X h5
          have hn : iter (j + 1) X = bit1 (iter j X) := iter_add j 1 X
          generalize hR : iter j X = R at ht hn ⊢
          have HR : Hid (iter j X = R) := hR
          have HM : Hid (iter (j + 1) X = bit1 R) := hn
          clear hR hn
          have hb1 : Hid ((R % 2 = 1 → bits .xor .u32 ((R : Int) / 2) 2197175160 = ((bit1 R : Nat) : Int)) ∧ (R % 2 ≠ 1 → ((R : Int) / 2) = ((bit1 R : Nat) : Int))) := bit_walk R ht
          have h1 : bits BinOp.and IntKind.u32 (R : Int) 1 = ((R % 2 : Nat) : Int) := by
            rw [show (1 : Int) = ((1 : Nat) : Int) from rfl, u32_and_nat R 1 ht (by decide), nat_mask1]
          rcases Nat.mod_two_eq_zero_or_one R with h2 | h2
          · rw [h2] at h1
            go_wp2
            · go_round
              case rel => exact ⟨j + 1, by omega, by go_num, by rw [HM.out, hb1.out.2 (by omega)]⟩
              case measure => simp [intOf]; omega
            · have hge : j = 8 := by omega
              subst hge
              go_round
              case rel => exact ⟨k + 1, by omega, by go_num, by rw [HN.out (by omega), HR.out]⟩
              case measure => simp [intOf]; omega
          · rw [h2] at h1
            go_wp2
            · go_round
              case rel => exact ⟨j + 1, by omega, by go_num, by rw [HM.out, hb1.out.1 (by omega)]⟩
              case measure => simp [intOf]; omega
            · have hge : j = 8 := by omega
              subst hge
              go_round
              case rel => exact ⟨k + 1, by omega, by go_num, by rw [HN.out (by omega), HR.out]⟩
              case measure => simp [intOf]; omega
      · have hge : k = len := by omega
        subst hge
        go_ret
        rw [← hl] at HS
        exact fin_int (by rw [← HS.out, List.take_length])

/-- parts that can be read: of each its address, its length, its capacity, its bytes -/
def Parts (w : World) (pa : Option Addr) (n : Nat) (ps : List (Option Addr × Nat × Nat × List Int)) : Prop :=
  ps.length = n ∧ n ≤ 281474976710656 ∧ (∀ p ∈ ps, Row w p.1 p.2.1 p.2.2.2) ∧
    (n = 0 ∨ ∃ b off, pa = some ⟨b, off, none⟩ ∧ ∀ j p, ps[j]? = some p → w.cell? ⟨b, off + j, none⟩ = some (.slice p.1 p.2.1 p.2.2.1))
/-- all their bytes -/
def all (ps : List (Option Addr × Nat × Nat × List Int)) : List Int := (ps.map fun p => p.2.2.2).flatten

theorem all_bytes {w : World} {ps : List (Option Addr × Nat × Nat × List Int)} (h : ∀ p ∈ ps, Row w p.1 p.2.1 p.2.2.2) : Bytes (all ps) := by
  intro n hn
  unfold all at hn
  rw [List.mem_flatten] at hn
  obtain ⟨l, hl, hn⟩ := hn
  obtain ⟨p, hp, rfl⟩ := List.mem_map.1 hl
  exact (h p hp).2.1 n hn

theorem all_snoc (ps : List (Option Addr × Nat × Nat × List Int)) (k : Nat) (p : Option Addr × Nat × Nat × List Int) (h : ps[k]? = some p) : all (ps.take (k + 1)) = all (ps.take k) ++ p.2.2.2 := by
  rw [List.take_add_one, h]
  unfold all
  simp

theorem extend (r : Nat) (hr : r < 4294967296) (pa : Option Addr) (n pcap : Nat) (ps : List (Option Addr × Nat × Nat × List Int)) (w : World) (ht : Tab w) (h : Parts w pa n ps) :
    Calls Tryz.prog 104 #[.int .u32 (r : Int), .slice pa n pcap] w fun e w' => e = .returned (.int .u32 ((rem r (all ps) : Nat) : Int)) ∧ w = w' := by
  obtain ⟨hl, hlim, hrow, rfl | ⟨b, off, rfl, hc⟩⟩ := h
  · obtain rfl := List.eq_nil_of_length_eq_zero hl
    go_enter Tryz.func104, Tryz.ntmps104
    go_wp2
    refine wp_loop_rounds 1 ?_
    rw [rounds_succ]
    go_wp2
    go_ret
    exact fin_int rfl
  · go_enter Tryz.func104, Tryz.ntmps104
    go_wp2
    go_loop [0, 6, 8, 11, 15, 16, 17] (fun s _ _ i _ _ _ => ∃ k : Nat, k ≤ n ∧ i = .int .i64 k ∧ s = .int .u32 ((rem r (all (ps.take k)) : Nat) : Int))
      (fun _ _ _ i _ _ _ => n - (intOf i).toNat)
    case atStart => exact ⟨0, Nat.zero_le _, rfl, rfl⟩
    case round =>
      obtain ⟨k, hk, rfl, rfl⟩ := hrel
      rcases Nat.lt_or_ge k n with hlt | hge
      · obtain ⟨⟨a, len, cap, zs⟩, hp⟩ : ∃ p, ps[k]? = some p := ⟨_, List.getElem?_eq_getElem (by omega)⟩
        have hcell := hc k _ hp
        have hs := rem_lt (all (ps.take k)) (all_bytes (fun p hp => hrow p (List.mem_of_mem_take hp))) r hr
        have hsn : rem r (all (ps.take (k + 1))) = rem (rem r (all (ps.take k))) zs := by rw [all_snoc ps k _ hp, rem_append]
        obtain ⟨hzl, hb, hzlim, hor⟩ := hrow _ (List.mem_of_getElem? hp)
        clear hc hrow hp
        generalize hS : rem r (all (ps.take k)) = S at hs hsn ⊢
        have HN : Hid (rem r (all (ps.take (k + 1))) = rem S zs) := hsn
        have HZ : Hid (zs.length = len) := hzl
        clear hS hsn hzl
        simp only at hcell hzlim hor
        go_wp2
        rcases hor with rfl | ⟨zb, zoff, rfl, hzc⟩
        · refine wp_loop_rounds 1 ?_
          rw [rounds_succ]
          go_wp2
          go_round
          case rel => exact ⟨k + 1, by omega, by go_num, by rw [HN.out, List.eq_nil_of_length_eq_zero HZ.out]; rfl⟩
          case measure => simp [intOf]; omega
        · go_loop [0, 8, 17] (fun s _ i => ∃ j : Nat, j ≤ len ∧ i = .int .i64 j ∧ s = .int .u32 ((rem S (zs.take j) : Nat) : Int))
            (fun _ _ i => len - (intOf i).toNat)
          case atStart => exact ⟨0, Nat.zero_le _, rfl, rfl⟩
          case round =>
            obtain ⟨j, hj, rfl, rfl⟩ := hrel
            obtain ⟨z, hz⟩ : ∃ z, z = zs.getD j 0 := ⟨_, rfl⟩
            have hx : 0 ≤ z ∧ z < 256 := by rw [hz, List.getD_eq_getElem?_getD]; exact at_bound zs hb j
            have hcz : j < len → w.cell? ⟨zb, zoff + j, none⟩ = some (.int .u8 z) := fun h => by rw [hz]; exact hzc _ h
            have hq := rem_lt (zs.take j) (fun n hn => hb n (List.mem_of_mem_take hn)) S hs
            have hqn := rem_snoc S zs j
            rw [← hz] at hqn
            clear hzc hb hz
            generalize hR : rem S (zs.take j) = R at hq hqn ⊢
            have HR : Hid (rem S (zs.take j) = R) := hR
            have h5 : R ^^^ z.toNat < 4294967296 := Nat.xor_lt_two_pow (n := 32) hq (by omega)
            have h4 := byte_walk R hq _ hx
            generalize hX : R ^^^ z.toNat = X at h4 h5 hqn
            have HM : Hid (j < zs.length → rem S (zs.take (j + 1)) = iter 8 X) := hqn
            clear hR hqn hX
            have h32 : z % 4294967296 = z := by omega
            go_wp2_with fail
            · have hjl : j < len := by assumption
              refine (step X h5 w ht).mono ?_
              rintro e w' ⟨rfl, rfl⟩
              go_wp2
              go_round
              case rel => exact ⟨j + 1, by omega, by go_num, by rw [HM.out (by rw [HZ.out]; omega)]⟩
              case measure => simp [intOf]; omega
            · have hge : j = len := by omega
              subst hge
              go_round
              case rel => exact ⟨k + 1, by omega, by go_num, by rw [HN.out, ← HR.out, List.take_of_length_le (by rw [HZ.out]; exact Nat.le_refl _)]⟩
              case measure => simp [intOf]; omega
      · have hge : k = n := by omega
        subst hge
        go_wp2
        go_ret
        exact fin_int (by rw [List.take_of_length_le (by omega)])

theorem sum_lt (zs : List Int) (hb : Bytes zs) : sum zs < 4294967296 :=
  Nat.xor_lt_two_pow (n := 32) (rem_lt zs hb 4294967295 (by decide)) (by decide)

theorem crcsum (pa : Option Addr) (n pcap : Nat) (ps : List (Option Addr × Nat × Nat × List Int)) (w : World) (ht : Tab w) (h : Parts w pa n ps) :
    Calls Tryz.prog 85 #[.slice pa n pcap] w fun e w' => e = .returned (.int .u32 ((sum (all ps) : Nat) : Int)) ∧ w = w' := by
  have hs : IntKind.u32.signed = false := rfl
  have h1 := rem_lt (all ps) (all_bytes h.2.2.1) 4294967295 (by decide)
  have h2 := xor_u32 4294967295 _ (by decide) h1
  rw [Nat.xor_comm] at h2
  have H2 : Hid (bits .xor .u32 IntKind.u32.max ((rem 4294967295 (all ps) : Nat) : Int) = ((sum (all ps) : Nat) : Int)) := h2
  clear h2
  go_enter Tryz.func85, Tryz.ntmps85
  go_wp2_with fail
  refine (extend 4294967295 (by decide) pa n pcap ps w ht h).mono ?_
  rintro e w' ⟨rfl, rfl⟩
  go_wp2
  go_ret
  exact fin_int H2.out

theorem rsum (a : Option Addr) (len cap : Nat) (zs : List Int) (w : World) (h : Row w a len zs) :
    Calls Tryz.prog 55 #[.slice a len cap] w fun e w' => e = .returned (.int .u32 ((sum zs : Nat) : Int)) ∧ w = w' := by
  have h1 := rem_lt zs h.2.1 4294967295 (by decide)
  have H2 : Hid (bits .xor .u32 ((rem 4294967295 zs : Nat) : Int) 4294967295 = ((sum zs : Nat) : Int)) := xor_u32 _ 4294967295 h1 (by decide)
  go_enter Tryz.func55, Tryz.ntmps55
  go_wp2_with fail
  refine (rextend 4294967295 (by decide) a len cap zs w h).mono ?_
  rintro e w' ⟨rfl, rfl⟩
  go_wp2
  go_ret
  exact fin_int H2.out

theorem Tab.later {w w' : World} (h : Tab w) (hb : Below w.heap.size w w') (h0 : 0 < w.heap.size) : Tab w' := fun i hi => (hb.cell h0).trans (h i hi)
theorem Tab.pos {w : World} (h : Tab w) : 0 < w.heap.size := by
  rcases Nat.eq_zero_or_pos w.heap.size with h0 | h0
  · have := h 0 (by decide)
    simp [World.cell?, h0] at this
  · exact h0

theorem cell_lt {w : World} {a : Addr} {v : Value} (h : w.cell? a = some v) : a.block < w.heap.size := by
  rcases Nat.lt_or_ge a.block w.heap.size with h0 | h0
  · exact h0
  · simp [World.cell?, Array.getElem?_eq_none h0] at h

theorem Row.later {w w' : World} {a : Option Addr} {len : Nat} {zs : List Int} (h : Row w a len zs) (hb : Below w.heap.size w w') : Row w' a len zs := by
  obtain ⟨h1, h2, h3, h4⟩ := h
  refine ⟨h1, h2, h3, h4.imp id ?_⟩
  rintro ⟨b, off, rfl, hc⟩
  exact ⟨b, off, rfl, fun j hj => (hb.cell (cell_lt (hc j hj))).trans (hc j hj)⟩

theorem mark_at (w : World) (C : Array Value) (t : TypeId) (fr : Nat × Nat) (n j : Nat) (hn : n = w.heap.size) : (w.alloc (.cells C t fr)).cell? ⟨n, j, none⟩ = C[j]? := by
  subst hn; exact World.cell?_alloc_mark w C t fr j
theorem const_at (w : World) (C : Array Value) (n c g : Nat) (hg : g = w.heap.size) :
    (convert 27 27 (.slice (some ⟨g, 0, none⟩) n c)).run Tryz.prog (w.alloc (.cells C 5)) = .ok (.slice (some ⟨g, 0, none⟩) n c) (w.alloc (.cells C 5 (C.size, C.size + 1))) := by
  subst hg; exact Lib.run_convert_bytes_const w 27 5 C n c Tryz.underlying27 Tryz.underlying5

theorem Parts.later {w w' : World} {pa : Option Addr} {n : Nat} {ps : List (Option Addr × Nat × Nat × List Int)} (h : Parts w pa n ps) (hb : Below w.heap.size w w') : Parts w' pa n ps := by
  obtain ⟨h1, h2, h3, h4⟩ := h
  refine ⟨h1, h2, fun p hp => (h3 p hp).later hb, h4.imp id ?_⟩
  rintro ⟨b, off, rfl, hc⟩
  exact ⟨b, off, rfl, fun j p hj => (hb.cell (cell_lt (hc j p hj))).trans (hc j p hj)⟩

def word1 : Array Value := #[.int .u8 49, .int .u8 50, .int .u8 51, .int .u8 52, .int .u8 53]
def word2 : Array Value := #[.int .u8 54, .int .u8 55, .int .u8 56, .int .u8 57]

theorem words (w : World) : Parts (((w.alloc (.cells word1 5 (5, 6))).alloc (.cells word2 5 (4, 5))).alloc (.cells #[.slice (some ⟨w.heap.size, 0, none⟩) 5 5, .slice (some ⟨w.heap.size + 1, 0, none⟩) 4 4] 27))
    (some ⟨w.heap.size + 1 + 1, 0, none⟩) 2 [(some ⟨w.heap.size, 0, none⟩, 5, 5, [49, 50, 51, 52, 53]), (some ⟨w.heap.size + 1, 0, none⟩, 4, 4, [54, 55, 56, 57])] := by
  refine ⟨rfl, by decide, ?_, .inr ⟨_, _, rfl, ?_⟩⟩
  · intro p hp
    simp only [List.mem_cons, List.not_mem_nil, or_false] at hp
    rcases hp with rfl | rfl
    · refine ⟨rfl, show ∀ n ∈ [(49 : Int), 50, 51, 52, 53], 0 ≤ n ∧ n < 256 by decide, show 5 ≤ 281474976710656 by decide, .inr ⟨_, _, rfl, ?_⟩⟩
      intro j hj
      rw [World.cell?_alloc_past _ _ _ (by simp; omega), World.cell?_alloc_past _ _ _ (by simp), mark_at _ _ _ _ _ _ rfl]
      simp only at hj
      match j, hj with
      | 0, _ | 1, _ | 2, _ | 3, _ | 4, _ => rfl
    · refine ⟨rfl, show ∀ n ∈ [(54 : Int), 55, 56, 57], 0 ≤ n ∧ n < 256 by decide, show 4 ≤ 281474976710656 by decide, .inr ⟨_, _, rfl, ?_⟩⟩
      intro j hj
      rw [World.cell?_alloc_past _ _ _ (by simp), mark_at _ _ _ _ _ _ (by simp)]
      simp only at hj
      match j, hj with
      | 0, _ | 1, _ | 2, _ | 3, _ => rfl
  · intro j p hj
    rw [World.cell?_alloc_at _ _ _ _ (by simp)]
    match j, hj with
    | 0, hj => cases hj; rfl
    | 1, hj => cases hj; rfl

/-- one part, as a call lays it -/
theorem one (w : World) (a : Option Addr) (len cap g : Nat) (zs : List Int) (h : Row w a len zs) (hg : g = w.heap.size) :
    Parts (w.alloc (.cells #[.slice a len cap] 27)) (some ⟨g, 0, none⟩) 1 [(a, len, cap, zs)] := by
  refine ⟨rfl, by decide, ?_, .inr ⟨_, _, rfl, ?_⟩⟩
  · intro p hp
    obtain rfl := List.mem_singleton.1 hp
    exact h.later ((Below.refl _ _).alloc (Nat.le_refl _) _)
  · intro j p hj
    rw [World.cell?_alloc_at _ _ _ _ hg]
    match j, hj with
    | 0, hj => cases hj; rfl
theorem all_one (p : Option Addr × Nat × Nat × List Int) : all [p] = p.2.2.2 := by simp [all]
theorem none_of (w : World) (pa : Option Addr) : Parts w pa 0 [] := ⟨rfl, by decide, (fun p hp => by cases hp), .inl rfl⟩
theorem u32_nat {x : Int} (h : (Lit.int .u32 x).wf = true) : ∃ r : Nat, x = (r : Int) ∧ r < 4294967296 := by
  simp [Lit.wf, IntKind.min, IntKind.max, IntKind.signed, IntKind.bits] at h
  exact ⟨x.toNat, by omega, by omega⟩

/-- a slice of bytes that came in -/
theorem row_of {H : Type} {enc : TypeId × Value → H} {W : World} {base : Nat} {held : Bool} {fuel : Nat} {a : Option Addr} {len cap : Nat} {x : DataW H × List MemPlace}
    (h : DataW.trod enc Tryz.prog W base (fun _ => true) held fuel 27 (Value.slice a len cap).cells.toList = some x)
    (hsz : ∀ elems spare, x.1 = .slice elems spare → elems.length + spare.length ≤ 140737488351232) : ∃ zs, Row W a len zs ∧ len ≤ cap ∧ cap ≤ 140737488351232 ∧ (a = none → len = 0 ∧ cap = 0) := by
  rcases open_ints Tryz.underlying27 Tryz.underlying5 (by kernel_rfl) h with ⟨hcs, _⟩ | ⟨y, l, c, zs, hcs, _, hl, hm, hz, rfl, hcell, hwz⟩
  · simp [Value.cells] at hcs
    obtain ⟨rfl, rfl, rfl⟩ := hcs
    exact ⟨[], ⟨rfl, (fun n hn => by cases hn), by decide, .inl rfl⟩, by decide, by decide, fun _ => ⟨rfl, rfl⟩⟩
  · simp [Value.cells] at hcs
    obtain ⟨rfl, rfl, rfl⟩ := hcs
    simp only [if_pos] at hz
    have hc : cap ≤ 140737488351232 := by
      have := hsz _ _ rfl
      simp only [lits, List.length_map, List.length_take, List.length_drop] at this
      omega
    have hb : Bytes (zs.take len) := fun n hn => by
      have := hwz n (List.mem_of_mem_take hn)
      simp [Lit.wf, IntKind.min, IntKind.max, IntKind.signed, IntKind.bits] at this
      omega
    refine ⟨zs.take len, ⟨by rw [List.length_take]; omega, hb, by omega, ?_⟩, hl, hc, (fun h => by cases h)⟩
    rcases Nat.eq_zero_or_pos len with h0 | hpos
    · exact .inl h0
    · obtain ⟨b, off, rfl, hc'⟩ := ints_at hcell (by omega)
      refine .inr ⟨b, off, rfl, fun j hj => ?_⟩
      rw [hc' j (by omega), List.getD_eq_getElem?_getD, List.getD_eq_getElem?_getD, List.getElem?_take, if_pos hj]

end Go.Proofs.YtmnndkhdekpecaaGreatDoor.Crc
namespace Go.Proofs.YtmnndkhdekpecaaGreatDoor.Crc
open Go.ChangeShapes Go.WideShapes Go.ChangeAt Go.RowKit
set_option linter.unusedVariables false

theorem u8_bounds {n : Int} (h : (Lit.int .u8 n).wf = true) : 0 ≤ n ∧ n < 256 := by
  simp [Lit.wf, IntKind.min, IntKind.max, IntKind.signed, IntKind.bits] at h
  omega

/-- a row of the call's own can be read -/
theorem row_own {w : World} {base n : Nat} {v : Value} {zs : List Int} (h : w.ownsRow base 5 1 v n (zs.map (Value.int .u8))) (hb : Bytes zs) (hn : n ≤ 281474976710656) :
    ∃ a cap, v = .slice a n cap ∧ Row w a n zs ∧ n ≤ cap ∧ (a = none → n = 0 ∧ cap = 0) ∧ ∀ g off, a = some ⟨g, off, none⟩ → base ≤ g := by
  obtain ⟨hl, h⟩ := h
  simp only [List.length_map, Nat.mul_one] at hl
  rcases h with ⟨rfl, rfl⟩ | ⟨g, cap, cur, rfl, hg, hh, hcap, _, hsz, htake⟩
  · exact ⟨none, 0, rfl, ⟨hl, hb, hn, .inl rfl⟩, Nat.le_refl _, (fun _ => ⟨rfl, rfl⟩), (fun _ _ h => by cases h)⟩
  · refine ⟨_, cap, rfl, ⟨hl, hb, hn, .inr ⟨g, 0, rfl, fun j hj => ?_⟩⟩, hcap, (fun h => by cases h), (fun g' off h => by cases h; exact hg)⟩
    simp only [Nat.mul_one] at htake
    have e := congrArg (fun t => t[j]?) htake
    simp only [List.getElem?_take, if_pos hj, List.getElem?_map, List.getElem?_eq_getElem (show j < zs.length by omega)] at e
    simp only [World.cell?, hh, Nat.zero_add]
    rw [List.getD_eq_getElem?_getD, List.getElem?_eq_getElem (show j < zs.length by omega)]
    simpa using e

theorem info5 : (Tryz.prog.info? 5).map (fun i => (i.zero, i.size, i.bytes)) = some (some (.int .u8 0), 1, 1) := by kernel_rfl

theorem all_len (ps : List (Option Addr × Nat × Nat × List Int)) (k : Nat) : (all (ps.take k)).length ≤ (all ps).length := by
  have e : all (ps.take k ++ ps.drop k) = all (ps.take k) ++ all (ps.drop k) := by unfold all; rw [List.map_append, List.flatten_append]
  rw [List.take_append_drop] at e
  rw [e, List.length_append]
  omega
theorem news {w : World} {b off len : Nat} {zs : List Int} (hl : zs.length = len) (hc : ∀ j, j < len → w.cell? ⟨b, off + j, none⟩ = some (.int .u8 (zs.getD j 0))) :
    ∀ j u, (zs.map (Value.int .u8))[j]? = some u → w.cell? ((⟨b, off, none⟩ : Addr).add j) = some u := by
  intro j u hj
  have hplain : (⟨b, off, none⟩ : Addr).add j = ⟨b, off + j, none⟩ := by unfold Addr.add; split <;> simp_all
  have hjl : j < zs.length := by
    rcases Nat.lt_or_ge j zs.length with h | h
    · exact h
    · rw [List.getElem?_eq_none (by simpa using h)] at hj; cases hj
  rw [hplain, hc j (by omega), List.getD_eq_getElem?_getD, List.getElem?_eq_getElem hjl]
  simp [List.getElem?_eq_getElem hjl] at hj
  subst hj
  rfl
theorem one_cell (zs : List Int) : ∀ u ∈ zs.map (Value.int .u8), u.oneCell' = true := by
  intro u hu
  obtain ⟨z, _, rfl⟩ := List.mem_map.1 hu
  rfl

end Go.Proofs.YtmnndkhdekpecaaGreatDoor.Crc
namespace Go.Proofs.YtmnndkhdekpecaaGreatDoor.Crc
open Go.ChangeShapes Go.WideShapes Go.ChangeAt Go.RowKit
set_option linter.unusedVariables false
set_option maxRecDepth 20000
attribute [local go_sem ↓] Go.wp_at_zero Go.wp_at_succ

/-- a packet with 0 in the place of its sum -/
def zed (zs : List Int) : List Int := zs.take 8 ++ ([0, 0, 0, 0] ++ zs.drop 12)

theorem cell_drew (w : World) (a : Addr) : w.drew.cell? a = w.cell? a := rfl

theorem Row.cut {w : World} {b off len : Nat} {zs : List Int} (h : Row w (some ⟨b, off, none⟩) len zs) (hl : 8 ≤ len) : Row w (some ⟨b, off, none⟩) 8 (zs.take 8) := by
  obtain ⟨h1, h2, h3, h4⟩ := h
  refine ⟨by rw [List.length_take]; omega, fun n hn => h2 n (List.mem_of_mem_take hn), by decide, .inr ⟨b, off, rfl, fun j hj => ?_⟩⟩
  rcases h4 with h4 | ⟨b', off', he, hc⟩
  · omega
  · cases he
    rw [hc j (by omega), List.getD_eq_getElem?_getD, List.getD_eq_getElem?_getD, List.getElem?_take, if_pos hj]

theorem Row.rest {w : World} {b off len : Nat} {zs : List Int} (h : Row w (some ⟨b, off, none⟩) len zs) (m cap : Nat) (hm : m ≤ len) (hcap : len ≤ cap) :
    Row w (if cap = m then some ⟨b, off, none⟩ else some ⟨b, off + m, none⟩) (len - m) (zs.drop m) := by
  obtain ⟨h1, h2, h3, h4⟩ := h
  refine ⟨by rw [List.length_drop]; omega, fun n hn => h2 n (List.mem_of_mem_drop hn), by omega, ?_⟩
  rcases Nat.eq_zero_or_pos (len - m) with h0 | hp
  · exact .inl h0
  · rw [if_neg (by omega)]
    rcases h4 with h4 | ⟨b', off', he, hc⟩
    · omega
    · cases he
      refine .inr ⟨b, off + m, rfl, fun j hj => ?_⟩
      rw [Nat.add_assoc, hc (m + j) (by omega), List.getD_eq_getElem?_getD, List.getD_eq_getElem?_getD, List.getElem?_drop]

theorem three (w : World) (g b off len cap : Nat) (zs ms : List Int) (a2 : Option Addr) (hg : g = w.heap.size) (h : Row w (some ⟨b, off, none⟩) len zs) (h12 : 12 ≤ len) (hcap : len ≤ cap) (h2 : Row w a2 4 ms) :
    Parts (w.alloc (.cells #[.slice (some ⟨b, off, none⟩) 8 cap, .slice a2 4 4, .slice (if cap = 12 then some ⟨b, off, none⟩ else some ⟨b, off + 12, none⟩) (len - 12) (cap - 12)] 27)).drew (some ⟨g, 0, none⟩) 3
      [(some ⟨b, off, none⟩, 8, cap, zs.take 8), (a2, 4, 4, ms), (if cap = 12 then some ⟨b, off, none⟩ else some ⟨b, off + 12, none⟩, len - 12, cap - 12, zs.drop 12)] := by
  have hb : ∀ o, Below w.heap.size w (w.alloc o).drew := fun o => ((Below.refl _ _).alloc (Nat.le_refl _) _).drew
  refine ⟨rfl, by decide, ?_, .inr ⟨_, _, rfl, ?_⟩⟩
  · intro p hp
    simp only [List.mem_cons, List.not_mem_nil, or_false] at hp
    rcases hp with rfl | rfl | rfl
    · exact (h.cut (by omega)).later (hb _)
    · exact h2.later (hb _)
    · exact (h.rest 12 cap h12 hcap).later (hb _)
  · intro j p hj
    rw [cell_drew, World.cell?_alloc_at _ _ _ _ hg]
    match j, hj with
    | 0, hj => cases hj; rfl
    | 1, hj => cases hj; rfl
    | 2, hj => cases hj; rfl

theorem all_three (p q r : Option Addr × Nat × Nat × List Int) : all [p, q, r] = p.2.2.2 ++ (q.2.2.2 ++ r.2.2.2) := by simp [all]

theorem zed_bytes {zs : List Int} (h : Bytes zs) : Bytes (zed zs) := by
  intro n hn
  simp only [zed, List.mem_append] at hn
  rcases hn with hn | hn | hn
  · exact h n (List.mem_of_mem_take hn)
  · simp only [List.mem_cons, List.not_mem_nil, or_false] at hn
    rcases hn with rfl | rfl | rfl | rfl <;> decide
  · exact h n (List.mem_of_mem_drop hn)

abbrev z4 : Obj := .cells #[.int .u8 0, .int .u8 0, .int .u8 0, .int .u8 0] 86

theorem row_z4 (w : World) (g : Nat) (hg : g = w.heap.size) : Row (w.alloc z4) (some ⟨g, 0, none⟩) 4 [0, 0, 0, 0] := by
  refine ⟨rfl, show ∀ n ∈ [(0 : Int), 0, 0, 0], 0 ≤ n ∧ n < 256 by decide, by decide, .inr ⟨g, 0, rfl, fun j hj => ?_⟩⟩
  rw [World.cell?_alloc_at _ _ _ _ hg]
  match j, hj with
  | 0, _ | 1, _ | 2, _ | 3, _ => rfl

/-- the bytes of a sum, the lowest first -/
def b4 (s : Nat) : List Int := [(s : Int) % 256, (s : Int) / 256 % 256, (s : Int) / 65536 % 256, (s : Int) / 16777216]
theorem b4_bytes (s : Nat) (h : s < 4294967296) : Bytes (b4 s) := by
  intro n hn
  simp only [b4, List.mem_cons, List.not_mem_nil, or_false] at hn
  rcases hn with rfl | rfl | rfl | rfl <;> omega
/-- as an array's value -/
abbrev v4 (s : Nat) : Array Value := #[.int .u8 ((s : Int) % 256), .int .u8 ((s : Int) / 256 % 256), .int .u8 ((s : Int) / 65536 % 256), .int .u8 ((s : Int) / 16777216)]

theorem sumOf (b off len cap : Nat) (zs : List Int) (w : World) (ht : Tab w) (h : Row w (some ⟨b, off, none⟩) len zs) (h12 : 12 ≤ len) (hcap : len ≤ cap) (hbig : len ≤ 140737488351232) :
    Calls Tryz.prog 51 #[.slice (some ⟨b, off, none⟩) len cap] w fun e w' => e = .returned (.agg (v4 (sum (zed zs)))) ∧ Below w.heap.size w w' := by
  have g1 : (0 : Int) ≤ 8 := by decide
  have g2 : (8 : Int) ≤ (len : Int) := by omega
  have g3 : (12 : Int) ≤ (len : Int) := by omega
  have g4 : (len : Int) ≤ (cap : Int) := by omega
  have g5 : (8 : Int) ≤ (cap : Int) := by omega
  have n1 : ¬ cap = 0 := by omega
  have b2 : Below w.heap.size w ((w.alloc z4).alloc z4) := ((Below.refl _ _).alloc (Nat.le_refl _) _).alloc (by simp) _
  have b3 : Below w.heap.size w (((w.alloc z4).alloc z4).alloc (.cells #[.slice (some ⟨b, off, none⟩) 8 cap, .slice (some ⟨w.heap.size + 1, 0, none⟩) 4 4, .slice (if cap = 12 then some ⟨b, off, none⟩ else some ⟨b, off + 12, none⟩) (len - 12) (cap - 12)] 27)).drew := (b2.alloc (by simp; omega) _).drew
  have hp := three ((w.alloc z4).alloc z4) (w.heap.size + 1 + 1) b off len cap zs [0, 0, 0, 0] (some ⟨w.heap.size + 1, 0, none⟩) (by simp) (h.later b2) h12 hcap (row_z4 _ _ (by simp))
  have H : Hid _ := crcsum _ 3 3 _ _ (ht.later b3 ht.pos) hp
  have hal : all [(some (⟨b, off, none⟩ : Addr), 8, cap, zs.take 8), (some ⟨w.heap.size + 1, 0, none⟩, 4, 4, [0, 0, 0, 0]), (if cap = 12 then some ⟨b, off, none⟩ else some ⟨b, off + 12, none⟩, len - 12, cap - 12, zs.drop 12)] = zed zs := all_three _ _ _
  rw [hal] at H
  have hs := sum_lt (zed zs) (zed_bytes h.2.1)
  obtain ⟨a3, hif⟩ : ∃ a3, (if cap = 12 then some (⟨b, off, none⟩ : Addr) else some ⟨b, off + 12, none⟩) = a3 := ⟨_, rfl⟩
  rw [hif] at H b3
  have HB : Hid _ := b3
  clear hp b2 b3 hal
  generalize sum (zed zs) = s at H hs ⊢
  go_enter Tryz.func51, Tryz.ntmps51
  go_wp2_with fail
  go_region_held3 (fun w' => True) (trivial) (first | (go_at_call 85; refine Calls.mono H.out ?_; rintro e w' ⟨rfl, rfl⟩))
  go_wp2
  refine wp_loop_rounds 5 ?_
  iterate 5 (rw [rounds_succ]; go_wp2)
  refine bodyPost_ret (v := .agg (v4 s)) (by simp [results, Tryz.results51, go_sem]) rfl ⟨rfl, ?_⟩
  exact ((((Below.refl _ _).alloc (Nat.le_refl _) _).alloc (by simp) _).alloc (by simp; omega) _).drew

theorem take_eq_step (xs ys : List Int) (k : Nat) (hx : k < xs.length) (hy : k < ys.length) : xs.take (k + 1) = ys.take (k + 1) ↔ xs.take k = ys.take k ∧ xs.getD k 0 = ys.getD k 0 := by
  rw [List.take_add_one, List.take_add_one, List.getElem?_eq_getElem hx, List.getElem?_eq_getElem hy, List.getD_eq_getElem?_getD, List.getD_eq_getElem?_getD, List.getElem?_eq_getElem hx, List.getElem?_eq_getElem hy]
  constructor
  · intro h
    have hl : (xs.take k).length = (ys.take k).length := by rw [List.length_take, List.length_take]; omega
    have := List.append_inj h hl
    simpa using this
  · rintro ⟨h1, h2⟩
    simp at h2
    rw [h1, h2]

theorem equal (b off b' off' n cap cap' : Nat) (xs ys : List Int) (w : World) (hx : Row w (some ⟨b, off, none⟩) n xs) (hy : Row w (some ⟨b', off', none⟩) n ys) (hn : 0 < n) :
    Calls Tryz.prog 91 #[.slice (some ⟨b, off, none⟩) n cap, .slice (some ⟨b', off', none⟩) n cap'] w fun e w' => e = .returned (.bool (decide (xs = ys))) ∧ Below w.heap.size w w' := by
  obtain ⟨hxl, hxb, hlim, hxc⟩ := hx
  obtain ⟨hyl, hyb, _, hyc⟩ := hy
  obtain ⟨_, _, he, hxc⟩ := hxc.resolve_left (by omega)
  cases he
  obtain ⟨_, _, he, hyc⟩ := hyc.resolve_left (by omega)
  cases he
  have hne : ((n : Int) != (n : Int)) = false := by simp
  go_enter Tryz.func91, Tryz.ntmps91
  go_wp2
  go_loopw [5, 13] (fun _ i wr => ∃ k : Nat, k ≤ n ∧ i = .int .i64 k ∧ xs.take k = ys.take k ∧ Below w.heap.size w wr)
    (fun _ i _ => n - (intOf i).toNat)
  case atStart => exact ⟨0, Nat.zero_le _, rfl, rfl, Below.refl _ _⟩
  case round =>
    obtain ⟨k, hk, rfl, heq, hbel⟩ := hrel
    rcases Nat.lt_or_ge k n with hlt | hge
    · have c1 := hxc k hlt
      have c1 := (hbel.cell (cell_lt c1)).trans c1
      have c2 := hyc k hlt
      have c2 := (hbel.cell (cell_lt c2)).trans c2
      have st := take_eq_step xs ys k (by omega) (by omega)
      generalize xs.getD k 0 = x at c1 st
      generalize ys.getD k 0 = y at c2 st
      have HS : Hid _ := st
      have HE : Hid _ := heq
      have k0 : (0 : Int) ≤ (k : Int) := by omega
      have k1 : (k : Int) < (n : Int) := by omega
      clear hxc hyc st heq
      by_cases hxy : x = y
      · subst hxy
        go_wp2
        go_region_held3 (fun w' => w'.cell? ⟨b, off + k, none⟩ = some (.int .u8 x) ∧ w'.cell? ⟨b', off' + k, none⟩ = some (.int .u8 x)) (go_keep) (fail)
        go_wp2
        go_roundw
        case rel => exact ⟨k + 1, by omega, by go_num, HS.out.2 ⟨HE.out, by simp⟩, hbel.drew⟩
        case measure => simp [intOf]; omega
      · have hxy' : (x != y) = true := by simpa using hxy
        go_wp2
        go_region_held3 (fun w' => w'.cell? ⟨b, off + k, none⟩ = some (.int .u8 x) ∧ w'.cell? ⟨b', off' + k, none⟩ = some (.int .u8 y)) (go_keep) (fail)
        go_wp2
        go_ret
        have hd : decide (xs = ys) = false := decide_eq_false (fun e => hxy (HS.out.1 (by rw [e])).2)
        rw [hd]
        exact ⟨rfl, hbel.drew⟩
    · have hge : k = n := by omega
      subst hge
      go_wp2
      go_ret
      rw [List.take_of_length_le (by omega), List.take_of_length_le (by omega)] at heq
      exact ⟨by simp [heq], hbel⟩


theorem grow (n : Nat) (h0 : 0 < n) (hn : n ≤ 140737488351232) (w : World) :
    Calls Tryz.prog 52 #[.slice none 0 0, .int .i64 (n : Int)] w fun e w' => ∃ cap, e = .returned (.slice (some ⟨w.heap.size, 0, none⟩) 0 cap) ∧
      w'.ownsRow w.heap.size 5 1 (.slice (some ⟨w.heap.size, 0, none⟩) 0 cap) 0 [] ∧ Below w.heap.size w w' := by
  obtain ⟨i0, hi, hz0, hz1, hz2⟩ := info_parts info5
  have hrz : ∀ ty, (Builtin.append_ #[27, 3] ty #[.slice none 0 0, .int .i64 (n : Int)]).run Tryz.prog w = _ := fun ty => Lib.run_append_nil_zeros w 27 3 ty 5 i0 (.int .u8 0) .i64 .i64 Tryz.underlying27 Tryz.underlying3 hi hz0 n h0 (by omega) (by omega) (by rw [hz2]; omega)
  have hge := grownCap_ge w n 0 5
  have hml := grownCap_le_maxLen w n 0 5 (by unfold maxLen; omega)
  generalize hG : grownCap w n 0 5 = G at hrz hge hml
  clear hG
  have hG63 : G ≤ 9223372036854775807 := hml
  have p0 : (0 : Int) < (n : Int) := by omega
  go_enter Tryz.func52, Tryz.ntmps52
  go_wp2_with (at_builtin; refine Lib.wpList_append_run _ rfl _ _ _ _ rfl _ _ rfl rfl _ _ (hrz _) ?_)
  go_ret
  refine ⟨G, rfl, ⟨rfl, .inr ⟨w.heap.size, G, Builtin.zeroCells #[.int .u8 0] n ++ Builtin.zeroCells #[.int .u8 0] (G - n), rfl, Nat.le_refl _, ?_, Nat.zero_le _, hml, ?_, ?_⟩⟩, ((Below.refl _ _).alloc (Nat.le_refl _) _).drew⟩
  · exact heap_alloc_new w _
  · simp [Builtin.zeroCells]; omega
  · simp

theorem concat (pa : Option Addr) (n pcap : Nat) (ps : List (Option Addr × Nat × Nat × List Int)) (w : World) (h : Parts w pa n ps) (hq : ∀ p ∈ ps, p.1 = none → p.2.1 = 0 ∧ p.2.2.1 = 0)
    (h0 : 0 < (all ps).length) (hbig : (all ps).length ≤ 140737488351232) :
    Calls Tryz.prog 27 #[.slice pa n pcap] w fun e w' => ∃ v, e = .returned v ∧ w'.ownsRow w.heap.size 5 1 v (all ps).length ((all ps).map (Value.int .u8)) ∧ Below w.heap.size w w' := by
  obtain ⟨hpl, hlim, hrow, hor⟩ := h
  rcases hor with rfl | ⟨b, off, rfl, hc⟩
  · obtain rfl := List.eq_nil_of_length_eq_zero hpl
    simp [all] at h0
  obtain ⟨i0, hi, hz0, hz1, hz2⟩ := info_parts info5
  go_enter Tryz.func27, Tryz.ntmps27
  go_wp2
  go_loop [3, 5, 11] (fun s _ i => ∃ k : Nat, k ≤ n ∧ i = .int .i64 k ∧ s = .int .i64 ((all (ps.take k)).length : Int))
    (fun _ _ i => n - (intOf i).toNat)
  case atStart => exact ⟨0, Nat.zero_le _, rfl, rfl⟩
  case round =>
    obtain ⟨k, hk, rfl, rfl⟩ := hrel
    rcases Nat.lt_or_ge k n with hlt | hge
    · obtain ⟨⟨a, len, cap, zs⟩, hp⟩ : ∃ p, ps[k]? = some p := ⟨_, List.getElem?_eq_getElem (by omega)⟩
      have hcell := hc k _ hp
      have hsn := all_snoc ps k _ hp
      have hle := all_len ps (k + 1)
      have hzl := (hrow _ (List.mem_of_getElem? hp)).1
      simp only at hcell hzl hsn
      rw [hsn, List.length_append, hzl] at hle
      have HN : Hid ((all (ps.take (k + 1))).length = (all (ps.take k)).length + len) := by rw [hsn, List.length_append, hzl]; exact rfl
      clear hc hrow hp hsn hzl
      generalize (all (ps.take k)).length = m at *
      go_wp2
      go_round
      case rel => exact ⟨k + 1, by omega, by go_num, by rw [HN.out]; go_num⟩
      case measure => simp [intOf]; omega
    · have hge : k = n := by omega
      subst hge
      rw [List.take_of_length_le (by omega)]
      go_wp2_with fail
      refine (grow (all ps).length h0 hbig w).mono ?_
      rintro e w1 ⟨gc, rfl, hown0, hb0⟩
      go_wp2
      go_loopw [6, 8, 27] (fun v _ i wr => ∃ q : Nat, q ≤ k ∧ i = .int .i64 q ∧ wr.ownsRow w.heap.size 5 1 v (all (ps.take q)).length ((all (ps.take q)).map (Value.int .u8)) ∧ Below w.heap.size w wr)
        (fun _ _ i _ => k - (intOf i).toNat)
      case atStart => exact ⟨0, Nat.zero_le _, rfl, hown0, hb0⟩
      case round =>
        obtain ⟨q, hqk, rfl, hown, hbel⟩ := hrel
        rcases Nat.lt_or_ge q k with hlt | hge
        · obtain ⟨⟨a, len, cap, zs⟩, hp⟩ : ∃ p, ps[q]? = some p := ⟨_, List.getElem?_eq_getElem (by omega)⟩
          have hcw := hc q _ hp
          have hcell := (hbel.cell (cell_lt hcw)).trans hcw
          have hr := (hrow _ (List.mem_of_getElem? hp)).later hbel
          have hsn := all_snoc ps q _ hp
          have hle := all_len ps (q + 1)
          have hqq := hq _ (List.mem_of_getElem? hp)
          obtain ⟨hzl, hzb, hzlim, hor⟩ := hr
          simp only at hcell hzl hzb hzlim hor hsn hqq
          rw [hsn, List.length_append] at hle
          have HN : Hid (all (ps.take (q + 1)) = all (ps.take q) ++ zs) := hsn
          clear hc hrow hp hcw hsn hq hown0 hb0
          generalize hX : all (ps.take q) = xs at *
          clear hX
          have hbase := hbel.size
          rcases a with _ | ad
          · obtain ⟨rfl, rfl⟩ := hqq rfl
            obtain rfl := List.eq_nil_of_length_eq_zero hzl
            go_wp2_with (first | (at_builtin; refine wpList_append_own_none rfl _ _ 27 rfl w.heap.size 5 i0 1 Tryz.underlying27 hi _ _ _ rfl hown rfl ?_) | go_in)
            go_wp2
            go_roundw
            case rel => exact ⟨q + 1, by omega, by go_num, by rw [HN.out, List.append_nil]; exact hown, hbel⟩
            case measure => simp [intOf]; omega
          · have hnews : ∀ j u, (zs.map (Value.int .u8))[j]? = some u → wr.cell? (ad.add j) = some u := by
              rcases hor with h0 | ⟨b', off', he, hc'⟩
              · intro j u hj
                rw [List.eq_nil_of_length_eq_zero (by omega : zs.length = 0)] at hj
                cases hj
              · cases he
                exact news hzl hc'
            go_wp2_with (first | (at_builtin; refine wpList_append_own _ rfl _ _ 27 rfl w.heap.size 5 i0 (.int .u8 0) 1 1 Tryz.underlying27 hi hz0 hz1 hz2 rfl (by decide) _ _ _ rfl hown ad len cap (zs.map (Value.int .u8)) rfl ?c0 hnews (one_cell zs) ?c3 ?c4 hbase ?_) | go_in)
            case c0 => simp; omega
            case c3 => unfold maxLen; omega
            case c4 => omega
            intro v' w2 hown' hgrow _
            have hb1 : Below w.heap.size w w2 := hbel.grown hgrow hbase (fun g hg => by
              rcases hown.2 with ⟨rfl, _⟩ | ⟨g', _, _, rfl, hge, _⟩
              · cases hg
              · cases hg; exact hge)
            have hown2 : w2.ownsRow w.heap.size 5 1 v' (all (ps.take (q + 1))).length ((all (ps.take (q + 1))).map (Value.int .u8)) := by
              rw [HN.out, List.map_append, List.length_append, hzl]
              exact hown'
            clear hown hown' hgrow hnews hcell hor
            go_wp2
            go_roundw
            case rel => exact ⟨q + 1, by omega, by go_num, hown2, hb1⟩
            case measure => simp [intOf]; omega
        · have hge : q = k := by omega
          subst hge
          rw [List.take_of_length_le (by omega)] at hown
          go_wp2
          go_ret
          exact ⟨_, rfl, hown, hbel⟩

theorem own_le {w : World} {base base' size n : Nat} {e : TypeId} {v : Value} {xs : List Value} (h : w.ownsRow base e size v n xs) (hb : base' ≤ base) : w.ownsRow base' e size v n xs :=
  ⟨h.1, h.2.elim Or.inl (fun ⟨g, cap, cur, hv, hg, r⟩ => Or.inr ⟨g, cap, cur, hv, Nat.le_trans hb hg, r⟩)⟩

/-- a packet with its sum -/
def putOf (zs : List Int) : List Int := zs.take 8 ++ (b4 (sum (zed zs)) ++ zs.drop 12)

theorem put_len {zs : List Int} (h : 12 ≤ zs.length) : (putOf zs).length = zs.length := by
  simp [putOf, b4]; omega

theorem put_bytes {zs : List Int} (h : Bytes zs) : Bytes (putOf zs) := by
  intro n hn
  simp only [putOf, List.mem_append] at hn
  rcases hn with hn | hn | hn
  · exact h n (List.mem_of_mem_take hn)
  · exact b4_bytes _ (sum_lt _ (zed_bytes h)) n hn
  · exact h n (List.mem_of_mem_drop hn)

theorem row_v4 (w : World) (g s : Nat) (hs : s < 4294967296) (hg : g = w.heap.size) : Row (w.alloc (.cells (v4 s) 86)) (some ⟨g, 0, none⟩) 4 (b4 s) := by
  refine ⟨rfl, b4_bytes s hs, by decide, .inr ⟨g, 0, rfl, fun j hj => ?_⟩⟩
  rw [World.cell?_alloc_at _ _ _ _ hg]
  match j, hj with
  | 0, _ | 1, _ | 2, _ | 3, _ => rfl

theorem put_brief (a : Option Addr) (len cap : Nat) (w : World) (h : len < 12) :
    Calls Tryz.prog 26 #[.slice a len cap] w fun e w' => e = .returned (.tuple #[.slice none 0 0, .int .i64 20]) ∧ w = w' := by
  go_enter Tryz.func26, Tryz.ntmps26
  go_wp2
  go_ret2
  exact ⟨rfl, rfl⟩

theorem put (b off len cap : Nat) (zs : List Int) (w : World) (ht : Tab w) (h : Row w (some ⟨b, off, none⟩) len zs) (h12 : 12 ≤ len) (hcap : len ≤ cap) (hbig : len ≤ 140737488351232) :
    Calls Tryz.prog 26 #[.slice (some ⟨b, off, none⟩) len cap] w fun e w' => ∃ v, e = .returned (.tuple #[v, .int .i64 0]) ∧ w'.ownsRow w.heap.size 5 1 v len ((putOf zs).map (Value.int .u8)) ∧ Below w.heap.size w w' := by
  have g1 : (0 : Int) ≤ 8 := by decide
  have g2 : (8 : Int) ≤ (len : Int) := by omega
  have g3 : (12 : Int) ≤ (len : Int) := by omega
  have g4 : (len : Int) ≤ (cap : Int) := by omega
  have g5 : (8 : Int) ≤ (cap : Int) := by omega
  have n1 : ¬ cap = 0 := by omega
  have hs := sum_lt (zed zs) (zed_bytes h.2.1)
  have hpl := put_len (zs := zs) (by rw [h.1]; exact h12)
  rw [h.1] at hpl
  go_enter Tryz.func26, Tryz.ntmps26
  go_wp2_with fail
  refine (sumOf b off len cap zs w ht h h12 hcap hbig).mono ?_
  rintro e w1 ⟨rfl, hb1⟩
  have hp := three (w1.alloc (.cells (v4 (sum (zed zs))) 86)) (w1.heap.size + 1) b off len cap zs (b4 (sum (zed zs))) (some ⟨w1.heap.size, 0, none⟩) (by simp) ((h.later hb1).later ((Below.refl _ _).alloc (Nat.le_refl _) _)) h12 hcap (row_v4 _ _ _ hs rfl)
  have hb2 : Below w.heap.size w (((w1.alloc (.cells (v4 (sum (zed zs))) 86)).alloc (.cells #[.slice (some ⟨b, off, none⟩) 8 cap, .slice (some ⟨w1.heap.size, 0, none⟩) 4 4, .slice (if cap = 12 then some ⟨b, off, none⟩ else some ⟨b, off + 12, none⟩) (len - 12) (cap - 12)] 27)).drew) :=
    ((hb1.alloc hb1.size _).alloc (by have := hb1.size; simp; omega) _).drew
  have hal : all [(some (⟨b, off, none⟩ : Addr), 8, cap, zs.take 8), (some ⟨w1.heap.size, 0, none⟩, 4, 4, b4 (sum (zed zs))), (if cap = 12 then some ⟨b, off, none⟩ else some ⟨b, off + 12, none⟩, len - 12, cap - 12, zs.drop 12)] = putOf zs := all_three _ _ _
  have H := concat _ 3 3 _ _ hp (by
    intro p hm hn
    simp only [List.mem_cons, List.not_mem_nil, or_false] at hm
    rcases hm with rfl | rfl | rfl
    · cases hn
    · cases hn
    · simp only at hn; split at hn <;> cases hn) (by rw [hal, hpl]; omega) (by rw [hal, hpl]; omega)
  rw [hal, hpl] at H
  obtain ⟨a3, hif⟩ : ∃ a3, (if cap = 12 then some (⟨b, off, none⟩ : Addr) else some ⟨b, off + 12, none⟩) = a3 := ⟨_, rfl⟩
  rw [hif] at H hb2
  have HH : Hid _ := H
  have HB : Hid _ := hb2
  clear hp hb2 hal H
  generalize sum (zed zs) = s at *
  go_wp2_with fail
  go_region_held3 (fun w' => True) (trivial) (first | (go_at_call 27; refine Calls.mono HH.out ?_; rintro e w3 ⟨v, rfl, hown, hb3⟩))
  go_wp2
  go_ret2
  have hsz := HB.out.size
  exact ⟨v, rfl, own_le hown hsz, HB.out.trans (hb3.mono hsz)⟩

theorem Row.mid {w : World} {b off len : Nat} {zs : List Int} (h : Row w (some ⟨b, off, none⟩) len zs) (hl : 12 ≤ len) : Row w (some ⟨b, off + 8, none⟩) 4 ((zs.drop 8).take 4) := by
  obtain ⟨h1, h2, h3, h4⟩ := h
  refine ⟨by rw [List.length_take, List.length_drop]; omega, fun n hn => h2 n (List.mem_of_mem_drop (List.mem_of_mem_take hn)), by decide, .inr ⟨b, off + 8, rfl, fun j hj => ?_⟩⟩
  rcases h4 with h4 | ⟨b', off', he, hc⟩
  · omega
  · cases he
    rw [Nat.add_assoc, hc (8 + j) (by omega), List.getD_eq_getElem?_getD, List.getD_eq_getElem?_getD, List.getElem?_take, if_pos hj, List.getElem?_drop]

/-- the number that Check answers of a packet that is long enough -/
def codeOf (zs : List Int) : Int := if putOf zs = zs then 0 else 21
theorem code_ok {zs : List Int} (h : putOf zs = zs) : codeOf zs = 0 := if_pos h
theorem code_bad {zs : List Int} (h : ¬ putOf zs = zs) : codeOf zs = 21 := if_neg h

theorem put_eq_iff {zs : List Int} (h : 12 ≤ zs.length) : putOf zs = zs ↔ b4 (sum (zed zs)) = (zs.drop 8).take 4 := by
  have e : zs = zs.take 8 ++ ((zs.drop 8).take 4 ++ zs.drop 12) := by
    have e1 : zs.drop 12 = (zs.drop 8).drop 4 := by rw [List.drop_drop]
    rw [e1, List.take_append_drop, List.take_append_drop]
  constructor
  · intro h2
    unfold putOf at h2
    have h3 : zs.take 8 ++ (b4 (sum (zed zs)) ++ zs.drop 12) = zs.take 8 ++ ((zs.drop 8).take 4 ++ zs.drop 12) := h2.trans e
    exact List.append_cancel_right (List.append_cancel_left h3)
  · intro h2
    unfold putOf
    rw [h2]
    exact e.symm

theorem check_brief (a : Option Addr) (len cap : Nat) (w : World) (h : len < 12) :
    Calls Tryz.prog 61 #[.slice a len cap] w fun e w' => e = .returned (.int .i64 20) ∧ w = w' := by
  go_enter Tryz.func61, Tryz.ntmps61
  go_wp2
  go_ret
  exact ⟨rfl, rfl⟩

theorem check (b off len cap : Nat) (zs : List Int) (w : World) (ht : Tab w) (h : Row w (some ⟨b, off, none⟩) len zs) (h12 : 12 ≤ len) (hcap : len ≤ cap) (hbig : len ≤ 140737488351232) :
    Calls Tryz.prog 61 #[.slice (some ⟨b, off, none⟩) len cap] w fun e w' => e = .returned (.int .i64 (codeOf zs)) ∧ Below w.heap.size w w' := by
  have g1 : (8 : Int) ≤ 12 := by decide
  have g3 : (12 : Int) ≤ (len : Int) := by omega
  have g4 : (len : Int) ≤ (cap : Int) := by omega
  have g5 : (12 : Int) ≤ (cap : Int) := by omega
  have n8 : ¬ cap = 8 := by omega
  have hs := sum_lt (zed zs) (zed_bytes h.2.1)
  have hiff := put_eq_iff (zs := zs) (by rw [h.1]; exact h12)
  go_enter Tryz.func61, Tryz.ntmps61
  go_wp2_with fail
  refine (sumOf b off len cap zs w ht h h12 hcap hbig).mono ?_
  rintro e w1 ⟨rfl, hb1⟩
  have hb2 : Below w.heap.size w (w1.alloc (.cells (v4 (sum (zed zs))) 86)).drew := (hb1.alloc hb1.size _).drew
  have H := equal w1.heap.size 0 b (off + 8) 4 4 (cap - 8) (b4 (sum (zed zs))) ((zs.drop 8).take 4) (w1.alloc (.cells (v4 (sum (zed zs))) 86)).drew
    ((row_v4 _ _ _ hs rfl).later (Below.refl _ _).drew) ((h.mid h12).later hb2) (by decide)
  have hd : decide (b4 (sum (zed zs)) = (zs.drop 8).take 4) = decide (putOf zs = zs) := decide_eq_decide.2 hiff.symm
  rw [hd] at H
  generalize sum (zed zs) = s at *
  have HH : Hid _ := H
  have HB : Hid _ := hb2
  clear hb2 H hd hiff
  by_cases hput : putOf zs = zs
  · rw [decide_eq_true hput] at HH
    have HP : Hid (codeOf zs = 0) := code_ok hput
    clear hput
    go_wp2_with fail
    go_region_held3 (fun w' => True) (trivial) (first | (go_at_call 91; refine Calls.mono HH.out ?_; rintro e w3 ⟨rfl, hb3⟩))
    go_wp2
    go_ret
    exact ⟨by rw [HP.out]; rfl, HB.out.trans (hb3.mono HB.out.size)⟩
  · rw [decide_eq_false hput] at HH
    have HP : Hid (codeOf zs = 21) := code_bad hput
    clear hput
    go_wp2_with fail
    go_region_held3 (fun w' => True) (trivial) (first | (go_at_call 91; refine Calls.mono HH.out ?_; rintro e w3 ⟨rfl, hb3⟩))
    go_wp2
    go_ret
    exact ⟨by rw [HP.out]; rfl, HB.out.trans (hb3.mono HB.out.size)⟩

end Go.Proofs.YtmnndkhdekpecaaGreatDoor.Crc
namespace Go.Proofs.YtmnndkhdekpecaaGreatDoor.Crc
open Go.ChangeShapes Go.WideShapes Go.ChangeAt Go.RowKit
set_option linter.unusedVariables false
set_option maxRecDepth 20000

/-- a row whose numbers from place 8 up to place k are f's -/
def fill (f : Nat → Int) (k : Nat) (zs : List Int) : List Int := zs.take 8 ++ ((List.range (k - 8)).map f ++ zs.drop k)

theorem fill_start (f : Nat → Int) (zs : List Int) : fill f 8 zs = zs := by simp [fill]

theorem fill_len (f : Nat → Int) (k : Nat) (zs : List Int) (h8 : 8 ≤ k) (hk : k ≤ zs.length) : (fill f k zs).length = zs.length := by
  simp [fill]; omega

theorem fill_step (f : Nat → Int) (k : Nat) (zs : List Int) (h8 : 8 ≤ k) (hk : k < zs.length) : (fill f k zs).set k (f (k - 8)) = fill f (k + 1) zs := by
  have e1 : zs.drop k = zs[k] :: zs.drop (k + 1) := List.drop_eq_getElem_cons hk
  have e2 : k + 1 - 8 = (k - 8) + 1 := by omega
  unfold fill
  rw [e1, e2, List.range_succ, List.map_append, ← List.append_assoc, List.set_append_right _ _ (by simp; omega)]
  have e3 : k - (zs.take 8 ++ (List.range (k - 8)).map f).length = 0 := by simp; omega
  rw [e3, List.set_cons_zero]
  simp only [List.map_cons, List.map_nil, List.append_assoc, List.cons_append, List.nil_append]

theorem fill_zed (zs : List Int) : fill (fun _ => 0) 12 zs = zed zs := by
  simp [fill, zed, List.range_succ]

theorem zed_take (zs : List Int) (h : 12 ≤ zs.length) : (zed zs).take 8 = zs.take 8 := by
  unfold zed
  rw [List.take_append_of_le_length (by simp; omega), List.take_of_length_le (by simp; omega)]

theorem zed_drop (zs : List Int) (h : 12 ≤ zs.length) : (zed zs).drop 12 = zs.drop 12 := by
  unfold zed
  rw [← List.append_assoc, List.drop_append_of_le_length (by simp; omega), List.drop_of_length_le (by simp; omega)]
  rfl

theorem zed_len (zs : List Int) (h : 12 ≤ zs.length) : (zed zs).length = zs.length := by simp [zed]; omega

theorem fill_put (zs : List Int) (h : 12 ≤ zs.length) (s : Nat) (hs : sum (zed zs) = s) (hlt : s < 4294967296) : fill (fun j => ((s / 256 ^ j % 256 : Nat) : Int)) 12 (zed zs) = putOf zs := by
  unfold fill putOf
  rw [zed_take zs h, zed_drop zs h, hs]
  have e : (List.range (12 - 8)).map (fun j => ((s / 256 ^ j % 256 : Nat) : Int)) = b4 s := by
    simp [List.range_succ, b4]
    omega
  rw [e]

theorem rput_brief (a : Option Addr) (len cap : Nat) (w : World) (h : len < 12) :
    Calls Tryz.prog 33 #[.slice a len cap] w fun e w' => e = .returned (.tuple #[.slice none 0 0, .int .i64 20]) ∧ w = w' := by
  go_enter Tryz.func33, Tryz.ntmps33
  go_wp2
  go_ret2
  exact ⟨rfl, rfl⟩

theorem rput (b off len cap : Nat) (zs : List Int) (w : World) (h : Row w (some ⟨b, off, none⟩) len zs) (h12 : 12 ≤ len) (hbig : len ≤ 140737488351232) :
    Calls Tryz.prog 33 #[.slice (some ⟨b, off, none⟩) len cap] w fun e w' => ∃ v, e = .returned (.tuple #[v, .int .i64 0]) ∧ w'.ownsRow w.heap.size 5 1 v len ((putOf zs).map (Value.int .u8)) ∧ Below w.heap.size w w' := by
  obtain ⟨i0, hi, hz0, hz1, hz2⟩ := info_parts info5
  have hown0 : (w.alloc (.cells #[] 5)).ownsRow w.heap.size 5 1 (.slice (some ⟨w.heap.size, 0, none⟩) 0 0) 0 [] := World.ownsRow_lit w #[] 0 (Nat.le_refl _) (Nat.zero_le _) rfl
  have hb0 : Below w.heap.size w (w.alloc (.cells #[] 5)) := (Below.refl _ _).alloc (Nat.le_refl _) _
  have hr1 := h.later hb0
  obtain ⟨hl, hb, hlim, hor⟩ := hr1
  obtain ⟨_, _, he, hc⟩ := hor.resolve_left (by omega)
  cases he
  have hnews := news hl hc
  go_enter Tryz.func33, Tryz.ntmps33
  go_wp2_with (first | (at_builtin; refine wpList_append_own _ rfl (.tmp 11) _ 27 rfl w.heap.size 5 i0 (.int .u8 0) 1 1 Tryz.underlying27 hi hz0 hz1 hz2 rfl (by decide) _ _ _ rfl hown0 ⟨b, off, none⟩ len cap (zs.map (Value.int .u8)) rfl ?c0 hnews (one_cell zs) ?c3 ?c4 (by simp) ?_) | go_in)
  case c0 => simp; omega
  case c3 => unfold maxLen; omega
  case c4 => omega
  intro v' w1 hown1 hgrow _
  have hb1 : Below w.heap.size w w1 := hb0.grown hgrow (by simp) (fun q hq => by cases hq; exact Nat.le_refl _)
  obtain ⟨g, gc, rfl, hge⟩ : ∃ g gc, v' = .slice (some ⟨g, 0, none⟩) len gc ∧ w.heap.size ≤ g := by
    rcases hown1.2 with ⟨_, h0⟩ | ⟨g, gc, _, hv, hge, _⟩
    · omega
    · exact ⟨g, gc, by simpa using hv, hge⟩
  try simp only [Nat.zero_add, List.nil_append] at hown1
  clear hgrow hnews hc hor hown0 hb0 h
  go_wp2
  go_loopw [5] (fun i wr => ∃ k : Nat, 8 ≤ k ∧ k ≤ 12 ∧ i = .int .i64 k ∧ wr.ownsRow w.heap.size 5 1 (.slice (some ⟨g, 0, none⟩) len gc) len ((fill (fun _ => 0) k zs).map (Value.int .u8)) ∧ Below w.heap.size w wr)
    (fun i _ => 12 - (intOf i).toNat)
  case atStart => exact ⟨8, Nat.le_refl _, by decide, rfl, by rw [fill_start]; exact hown1, hb1⟩
  case round =>
    obtain ⟨k, h8, hk, rfl, hown, hbel⟩ := hrel
    rcases Nat.lt_or_ge k 12 with hlt | hge'
    · have hcell := hown.cellAt k (by omega)
      rw [List.getElem?_map, List.getElem?_eq_getElem (by rw [fill_len _ _ _ h8 (by omega)]; omega), Option.map_some] at hcell
      generalize (fill (fun _ => 0) k zs)[k]'_ = x at hcell
      have hfr := hown.frozenAt k
      have hst := hown.stored k (.int .u8 0)
      rw [← List.map_set, fill_step (fun _ => 0) k zs h8 (by omega)] at hst
      have HS : Hid _ := hst
      have hkl : (k : Int) < (len : Int) := by omega
      clear hst hown
      go_wp2
      go_roundw
      case rel => exact ⟨k + 1, by omega, by omega, by go_num, HS.out.1, hbel.grown HS.out.2 hbel.size (fun q hq => by cases hq; exact hge)⟩
      case measure => simp [intOf]; omega
    · have hge' : k = 12 := by omega
      subst hge'
      rw [fill_zed] at hown
      have hzl := zed_len zs (by omega)
      have hzb := zed_bytes hb
      obtain ⟨_, _, he, hrow, _⟩ := row_own hown hzb (by omega)
      cases he
      go_wp2_with fail
      refine (rsum _ len gc _ wr hrow).mono ?_
      rintro e w' ⟨rfl, rfl⟩
      have hslt := sum_lt (zed zs) hzb
      have hput := fill_put zs (by omega) _ rfl hslt
      have HP : Hid _ := hput
      generalize sum (zed zs) = s at *
      go_wp2
      go_loopw [7] (fun i wr2 => ∃ k : Nat, 8 ≤ k ∧ k ≤ 12 ∧ i = .int .i64 k ∧ wr2.ownsRow w.heap.size 5 1 (.slice (some ⟨g, 0, none⟩) len gc) len ((fill (fun j => ((s / 256 ^ j % 256 : Nat) : Int)) k (zed zs)).map (Value.int .u8)) ∧ Below w.heap.size w wr2)
        (fun i _ => 12 - (intOf i).toNat)
      case atStart => exact ⟨8, Nat.le_refl _, by decide, rfl, by rw [fill_start]; exact hown, hbel⟩
      case round =>
        obtain ⟨k, h8, hk, rfl, hown, hbel⟩ := hrel
        obtain rfl | rfl | rfl | rfl | rfl : k = 8 ∨ k = 9 ∨ k = 10 ∨ k = 11 ∨ k = 12 := by omega
        · have hcell := hown.cellAt 8 (by omega)
          rw [List.getElem?_map, List.getElem?_eq_getElem (by rw [fill_len _ _ _ h8 (by omega)]; omega), Option.map_some] at hcell
          generalize (fill (fun j => ((s / 256 ^ j % 256 : Nat) : Int)) 8 (zed zs))[8]'_ = x at hcell
          have hfr := hown.frozenAt 8
          have hst := hown.stored 8 (.int .u8 ((s : Int) % 256))
          have hf : (fill (fun j => ((s / 256 ^ j % 256 : Nat) : Int)) 8 (zed zs)).set 8 ((s : Int) % 256) = fill (fun j => ((s / 256 ^ j % 256 : Nat) : Int)) 9 (zed zs) := by
            rw [show ((s : Int) % 256 : Int) = (fun j => ((s / 256 ^ j % 256 : Nat) : Int)) (8 - 8) from by simp; try omega]
            exact fill_step _ 8 (zed zs) h8 (by omega)
          rw [← List.map_set, hf] at hst
          have HS : Hid _ := hst
          have hkl : (8 : Int) < (len : Int) := by omega
          clear hst hown hf
          go_wp2
          go_roundw
          case rel => exact ⟨9, by omega, by omega, rfl, HS.out.1, hbel.grown HS.out.2 hbel.size (fun q hq => by cases hq; exact hge)⟩
          case measure => simp [intOf]
        · have hcell := hown.cellAt 9 (by omega)
          rw [List.getElem?_map, List.getElem?_eq_getElem (by rw [fill_len _ _ _ h8 (by omega)]; omega), Option.map_some] at hcell
          generalize (fill (fun j => ((s / 256 ^ j % 256 : Nat) : Int)) 9 (zed zs))[9]'_ = x at hcell
          have hfr := hown.frozenAt 9
          have hst := hown.stored 9 (.int .u8 ((s : Int) / 256 % 256))
          have hf : (fill (fun j => ((s / 256 ^ j % 256 : Nat) : Int)) 9 (zed zs)).set 9 ((s : Int) / 256 % 256) = fill (fun j => ((s / 256 ^ j % 256 : Nat) : Int)) 10 (zed zs) := by
            rw [show ((s : Int) / 256 % 256 : Int) = (fun j => ((s / 256 ^ j % 256 : Nat) : Int)) (9 - 8) from by simp; try omega]
            exact fill_step _ 9 (zed zs) h8 (by omega)
          rw [← List.map_set, hf] at hst
          have HS : Hid _ := hst
          have hkl : (9 : Int) < (len : Int) := by omega
          clear hst hown hf
          go_wp2
          go_roundw
          case rel => exact ⟨10, by omega, by omega, rfl, HS.out.1, hbel.grown HS.out.2 hbel.size (fun q hq => by cases hq; exact hge)⟩
          case measure => simp [intOf]
        · have hcell := hown.cellAt 10 (by omega)
          rw [List.getElem?_map, List.getElem?_eq_getElem (by rw [fill_len _ _ _ h8 (by omega)]; omega), Option.map_some] at hcell
          generalize (fill (fun j => ((s / 256 ^ j % 256 : Nat) : Int)) 10 (zed zs))[10]'_ = x at hcell
          have hfr := hown.frozenAt 10
          have hst := hown.stored 10 (.int .u8 ((s : Int) / 65536 % 256))
          have hf : (fill (fun j => ((s / 256 ^ j % 256 : Nat) : Int)) 10 (zed zs)).set 10 ((s : Int) / 65536 % 256) = fill (fun j => ((s / 256 ^ j % 256 : Nat) : Int)) 11 (zed zs) := by
            rw [show ((s : Int) / 65536 % 256 : Int) = (fun j => ((s / 256 ^ j % 256 : Nat) : Int)) (10 - 8) from by simp; try omega]
            exact fill_step _ 10 (zed zs) h8 (by omega)
          rw [← List.map_set, hf] at hst
          have HS : Hid _ := hst
          have hkl : (10 : Int) < (len : Int) := by omega
          clear hst hown hf
          go_wp2
          go_roundw
          case rel => exact ⟨11, by omega, by omega, rfl, HS.out.1, hbel.grown HS.out.2 hbel.size (fun q hq => by cases hq; exact hge)⟩
          case measure => simp [intOf]
        · have hcell := hown.cellAt 11 (by omega)
          rw [List.getElem?_map, List.getElem?_eq_getElem (by rw [fill_len _ _ _ h8 (by omega)]; omega), Option.map_some] at hcell
          generalize (fill (fun j => ((s / 256 ^ j % 256 : Nat) : Int)) 11 (zed zs))[11]'_ = x at hcell
          have hfr := hown.frozenAt 11
          have hst := hown.stored 11 (.int .u8 ((s : Int) / 16777216))
          have hf : (fill (fun j => ((s / 256 ^ j % 256 : Nat) : Int)) 11 (zed zs)).set 11 ((s : Int) / 16777216) = fill (fun j => ((s / 256 ^ j % 256 : Nat) : Int)) 12 (zed zs) := by
            rw [show ((s : Int) / 16777216 : Int) = (fun j => ((s / 256 ^ j % 256 : Nat) : Int)) (11 - 8) from by simp; try omega]
            exact fill_step _ 11 (zed zs) h8 (by omega)
          rw [← List.map_set, hf] at hst
          have HS : Hid _ := hst
          have hkl : (11 : Int) < (len : Int) := by omega
          clear hst hown hf
          go_wp2
          go_roundw
          case rel => exact ⟨12, by omega, by omega, rfl, HS.out.1, hbel.grown HS.out.2 hbel.size (fun q hq => by cases hq; exact hge)⟩
          case measure => simp [intOf]
        · rw [HP.out] at hown
          go_wp2
          go_ret2
          exact ⟨_, rfl, hown, hbel⟩

/-- the text of a row's bytes -/
theorem text {w : World} {a : Option Addr} {len cap : Nat} {zs : List Int} (h : Row w a len zs) (hn : a = none → len = 0) :
    Sem.run Tryz.prog (convert 27 9 (.slice a len cap)) w = .ok (.string (strOfNums zs)) w := by
  obtain ⟨hl, hb, _, hor⟩ := h
  rcases hor with rfl | ⟨b, off, rfl, hc⟩
  · obtain rfl := List.eq_nil_of_length_eq_zero hl
    cases a with
    | none => exact run_convert_bytes_nil w 27 5 Tryz.underlying27 Tryz.underlying5 0 cap 9 Tryz.underlying9
    | some x =>
      have hl : (loadCells x 0).run Tryz.prog w = .ok #[] w := run_loadCells_list (P := Tryz.prog) w x [] (fun j v hj => by cases hj)
      rw [run_convert_bytes_string w 27 9 5 _ 0 cap Tryz.underlying27 Tryz.underlying5 Tryz.underlying9, run_bytesToString w x 0 cap [] hl]
      rfl
  · exact run_convert_bytes_arg w 27 5 Tryz.underlying27 Tryz.underlying5 b off len cap zs hl hc 9 Tryz.underlying9

theorem text_inj {xs ys : List Int} (hx : Bytes xs) (hy : Bytes ys) (h : strOfNums xs = strOfNums ys) : xs = ys := by
  have e := congrArg (fun t => t.data.toList) h
  simp only [strOfNums_data] at e
  have hl : xs.length = ys.length := by simpa using congrArg List.length e
  apply List.ext_getElem hl
  intro i h1 h2
  have e2 := congrArg (fun t => t[i]?) e
  simp only [List.getElem?_map, List.getElem?_eq_getElem h1, List.getElem?_eq_getElem h2, Option.map_some, Option.some.injEq] at e2
  have b1 := hx _ (List.getElem_mem h1)
  have b2 := hy _ (List.getElem_mem h2)
  have e3 := congrArg UInt8.toNat e2
  simp only [UInt8.toNat_ofNat'] at e3
  omega

theorem text_ne {p q : ByteArray} (h : ¬ p = q) : (p.toList == q.toList) = false := by
  rw [beq_eq_false_iff_ne]
  intro e
  rw [ByteArray.toList_eq, ByteArray.toList_eq] at e
  exact h (bytes_inj e)

theorem rcheck_brief (a : Option Addr) (len cap : Nat) (w : World) (h : len < 12) :
    Calls Tryz.prog 38 #[.slice a len cap] w fun e w' => e = .returned (.int .i64 20) ∧ w = w' := by
  go_enter Tryz.func38, Tryz.ntmps38
  go_wp2_with fail
  refine (rput_brief a len cap w h).mono ?_
  rintro e w' ⟨rfl, rfl⟩
  go_wp2
  go_ret
  exact ⟨rfl, rfl⟩

theorem rcheck (b off len cap : Nat) (zs : List Int) (w : World) (h : Row w (some ⟨b, off, none⟩) len zs) (h12 : 12 ≤ len) (hbig : len ≤ 140737488351232) :
    Calls Tryz.prog 38 #[.slice (some ⟨b, off, none⟩) len cap] w fun e w' => e = .returned (.int .i64 (codeOf zs)) ∧ Below w.heap.size w w' := by
  go_enter Tryz.func38, Tryz.ntmps38
  go_wp2_with fail
  refine (rput b off len cap zs w h h12 hbig).mono ?_
  rintro e w1 ⟨v, rfl, hown, hb1⟩
  obtain ⟨a, gc, rfl, hrow, _, hnone, _⟩ := row_own hown (put_bytes h.2.1) (by omega)
  have t1 := text (cap := gc) hrow (fun h => (hnone h).1)
  have t2 := text (cap := cap) (h.later hb1) (fun h => by cases h)
  clear hrow hown hnone
  by_cases hput : putOf zs = zs
  · rw [hput] at t1
    have HP : Hid (codeOf zs = 0) := code_ok hput
    clear hput
    go_wp2
    go_ret
    exact ⟨by rw [HP.out]; rfl, hb1⟩
  · have HP : Hid (codeOf zs = 21) := code_bad hput
    have hne : ¬ strOfNums (putOf zs) = strOfNums zs := fun e => hput (text_inj (put_bytes h.2.1) h.2.1 e)
    have hne2 := text_ne hne
    clear hput hne
    generalize strOfNums (putOf zs) = p at *
    generalize strOfNums zs = q at *
    go_wp2
    go_ret
    exact ⟨by rw [HP.out]; rfl, hb1⟩

end Go.Proofs.YtmnndkhdekpecaaGreatDoor.Crc
namespace Go.Proofs.YtmnndkhdekpecaaGreatDoor.Crc
open Go.ChangeShapes Go.WideShapes Go.ChangeAt Go.RowKit
set_option linter.unusedVariables false
set_option maxRecDepth 20000

def ansOf (zs : List Int) : List Int := if zs.length < 12 then [] else putOf zs
def errOf (zs : List Int) : Int := if zs.length < 12 then 20 else 0

theorem put_any (a : Option Addr) (len cap : Nat) (zs : List Int) (w : World) (ht : Tab w) (h : Row w a len zs) (hcap : len ≤ cap) (hbig : len ≤ 140737488351232) :
    Calls Tryz.prog 26 #[.slice a len cap] w fun e w' => ∃ p n c, e = .returned (.tuple #[.slice p n c, .int .i64 (errOf zs)]) ∧ Row w' p n (ansOf zs) ∧ (p = none → n = 0) ∧
      (∀ g off, p = some ⟨g, off, none⟩ → w.heap.size ≤ g) ∧ Below w.heap.size w w' := by
  have hl := h.1
  rcases Nat.lt_or_ge len 12 with hlt | hge
  · refine (put_brief a len cap w hlt).mono ?_
    rintro e w' ⟨rfl, rfl⟩
    refine ⟨none, 0, 0, by rw [errOf, if_pos (by omega)], ?_, (fun _ => rfl), (fun _ _ h => by cases h), Below.refl _ _⟩
    rw [ansOf, if_pos (by omega)]
    exact ⟨rfl, (fun n hn => by cases hn), by decide, .inl rfl⟩
  · obtain ⟨b, off, rfl, _⟩ := h.2.2.2.resolve_left (by omega)
    refine (put b off len cap zs w ht h hge hcap hbig).mono ?_
    rintro e w' ⟨v, rfl, hown, hb⟩
    obtain ⟨p, c, rfl, hrow, _, hn, hg⟩ := row_own hown (put_bytes h.2.1) (by omega)
    exact ⟨p, len, c, by rw [errOf, if_neg (by omega)], by rw [ansOf, if_neg (by omega)]; exact hrow, fun h => (hn h).1, hg, hb⟩

theorem rput_any (a : Option Addr) (len cap : Nat) (zs : List Int) (w : World) (h : Row w a len zs) (hbig : len ≤ 140737488351232) :
    Calls Tryz.prog 33 #[.slice a len cap] w fun e w' => ∃ p n c, e = .returned (.tuple #[.slice p n c, .int .i64 (errOf zs)]) ∧ Row w' p n (ansOf zs) ∧ (p = none → n = 0) ∧
      (∀ g off, p = some ⟨g, off, none⟩ → w.heap.size ≤ g) ∧ Below w.heap.size w w' := by
  have hl := h.1
  rcases Nat.lt_or_ge len 12 with hlt | hge
  · refine (rput_brief a len cap w hlt).mono ?_
    rintro e w' ⟨rfl, rfl⟩
    refine ⟨none, 0, 0, by rw [errOf, if_pos (by omega)], ?_, (fun _ => rfl), (fun _ _ h => by cases h), Below.refl _ _⟩
    rw [ansOf, if_pos (by omega)]
    exact ⟨rfl, (fun n hn => by cases hn), by decide, .inl rfl⟩
  · obtain ⟨b, off, rfl, _⟩ := h.2.2.2.resolve_left (by omega)
    refine (rput b off len cap zs w h hge hbig).mono ?_
    rintro e w' ⟨v, rfl, hown, hb⟩
    obtain ⟨p, c, rfl, hrow, _, hn, hg⟩ := row_own hown (put_bytes h.2.1) (by omega)
    exact ⟨p, len, c, by rw [errOf, if_neg (by omega)], by rw [ansOf, if_neg (by omega)]; exact hrow, fun h => (hn h).1, hg, hb⟩

theorem setCell_other (w : World) (g k : Nat) (u : Value) (x : Addr) (h : x.block ≠ g) : (w.setCell ⟨g, k, none⟩ u).cell? x = w.cell? x :=
  World.cell?_of_block (Below.heap_setCell w ⟨g, k, none⟩ u x.block h)

theorem Row.kept {w w' : World} {a : Option Addr} {len : Nat} {zs : List Int} (h : Row w a len zs) (g : Nat) (ho : ∀ x : Addr, x.block ≠ g → w'.cell? x = w.cell? x) (hg : ∀ b off, a = some ⟨b, off, none⟩ → b ≠ g) : Row w' a len zs := by
  obtain ⟨h1, h2, h3, h4⟩ := h
  refine ⟨h1, h2, h3, h4.imp id ?_⟩
  rintro ⟨b, off, rfl, hc⟩
  exact ⟨b, off, rfl, fun j hj => (ho _ (hg b off rfl)).trans (hc j hj)⟩

end Go.Proofs.YtmnndkhdekpecaaGreatDoor.Crc
namespace Go.Proofs.YtmnndkhdekpecaaGreatDoor.Crc
set_option linter.unusedVariables false

theorem xor_pow (a b k : Nat) : (a ^^^ b) * 2 ^ k = a * 2 ^ k ^^^ b * 2 ^ k := by
  have := @Nat.shiftLeft_xor_distrib k a b
  simpa [Nat.shiftLeft_eq] using this

theorem num_cons (z : Int) (r : List Int) (h : 0 ≤ z ∧ z < 256) : num (z :: r) = z.toNat ^^^ (num r * 2 ^ 8) := by
  rw [← add_xor 8 (num r) z.toNat (by omega)]
  rfl

theorem num_flip (ys : List Int) (hb : Bytes ys) : ∀ (K : Nat) (h : K / 8 < ys.length), num (ys.set (K / 8) (((ys[K / 8]).toNat ^^^ 2 ^ (K % 8) : Nat) : Int)) = num ys ^^^ 2 ^ K := by
  induction ys with
  | nil => intro K h; simp at h
  | cons z r ih =>
    intro K h
    have hz := hb z (by simp)
    have hr : Bytes r := fun n hn => hb n (by simp [hn])
    rcases Nat.lt_or_ge K 8 with hk | hk
    · have e0 : K / 8 = 0 := by omega
      have e1 : K % 8 = K := by omega
      have hp : 2 ^ K < 256 := by
        have : 2 ^ K ≤ 2 ^ 7 := Nat.pow_le_pow_right (by decide) (by omega)
        omega
      have hx : z.toNat ^^^ 2 ^ K < 256 := Nat.xor_lt_two_pow (n := 8) (by omega) hp
      simp only [e0, e1, List.set_cons_zero, List.getElem_cons_zero]
      rw [num_cons _ r (by omega), num_cons z r hz, Int.toNat_natCast, Nat.xor_assoc, Nat.xor_assoc, Nat.xor_comm (2 ^ K)]
    · have e0 : K / 8 = (K - 8) / 8 + 1 := by omega
      have e1 : K % 8 = (K - 8) % 8 := by omega
      have hl : (K - 8) / 8 < r.length := by simp only [List.length_cons] at h; omega
      have e2 : 2 ^ (K - 8) * 2 ^ 8 = 2 ^ K := by rw [← Nat.pow_add]; congr 1; omega
      simp only [e0, e1, List.set_cons_succ, List.getElem_cons_succ]
      rw [num_cons z _ hz, num_cons z r hz, ih hr (K - 8) hl, xor_pow, e2, Nat.xor_assoc]

theorem zed_get (ys : List Int) (h : 12 ≤ ys.length) (i : Nat) : (zed ys)[i]? = if i < 8 ∨ 12 ≤ i then ys[i]? else some 0 := by
  unfold zed
  rw [List.getElem?_append, List.length_take, Nat.min_eq_left (by omega)]
  by_cases h8 : i < 8
  · rw [if_pos h8, if_pos (.inl h8), List.getElem?_take, if_pos h8]
  · rw [if_neg h8, List.getElem?_append]
    by_cases h12 : 12 ≤ i
    · rw [if_neg (by simp; omega), if_pos (.inr h12), List.getElem?_drop]
      congr 1
      simp
      omega
    · rw [if_pos (by simp; omega), if_neg (by omega)]
      obtain rfl | rfl | rfl | rfl : i = 8 ∨ i = 9 ∨ i = 10 ∨ i = 11 := by omega
      all_goals rfl

theorem zed_set (ys : List Int) (h : 12 ≤ ys.length) (J : Nat) (x : Int) (hJ : J < 8 ∨ 12 ≤ J) : zed (ys.set J x) = (zed ys).set J x := by
  apply List.ext_getElem?
  intro i
  rw [zed_get _ (by simpa using h), List.getElem?_set, List.getElem?_set, zed_get _ h, zed_len ys h]
  by_cases hi : J = i
  · subst hi
    rw [if_pos rfl, if_pos hJ, if_pos rfl]
  · rw [if_neg hi, if_neg hi]

theorem mid_set (ys : List Int) (J : Nat) (x : Int) (hJ : J < 8 ∨ 12 ≤ J) : ((ys.set J x).drop 8).take 4 = (ys.drop 8).take 4 := by
  apply List.ext_getElem?
  intro i
  rw [List.getElem?_take, List.getElem?_take]
  by_cases hi : i < 4
  · rw [if_pos hi, if_pos hi, List.getElem?_drop, List.getElem?_drop, List.getElem?_set, if_neg (by omega)]
  · rw [if_neg hi, if_neg hi]

theorem zed_put {zs : List Int} (h : 12 ≤ zs.length) : zed (putOf zs) = zed zs := by
  unfold zed
  have e1 : (putOf zs).take 8 = zs.take 8 := by
    unfold putOf
    rw [List.take_append_of_le_length (by simp; omega), List.take_of_length_le (by simp; omega)]
  have e2 : (putOf zs).drop 12 = zs.drop 12 := by
    unfold putOf
    rw [← List.append_assoc, List.drop_append_of_le_length (by simp [b4]; omega), List.drop_of_length_le (by simp [b4]; omega)]
    rfl
  rw [e1, e2]

theorem mid_put {zs : List Int} (h : 12 ≤ zs.length) : ((putOf zs).drop 8).take 4 = b4 (sum (zed zs)) := by
  unfold putOf
  rw [List.drop_append_of_le_length (by simp; omega), List.drop_of_length_le (by simp; omega), List.nil_append, List.take_append_of_le_length (by simp [b4])]
  rfl

theorem b4_inj {s t : Nat} (hs : s < 4294967296) (ht : t < 4294967296) (h : b4 s = b4 t) : s = t := by
  simp only [b4, List.cons.injEq, and_true] at h
  omega

/-- what stands behind k of the burst's bits -/
def Inv (zs : List Int) (B T k : Nat) (ys : List Int) : Prop :=
  ys.length = zs.length ∧ Bytes ys ∧ num (zed ys) = num (zed zs) ^^^ (B % 2 ^ k * 2 ^ T) ∧ (ys.drop 8).take 4 = b4 (sum (zed zs))

theorem inv_start {zs : List Int} (h : 12 ≤ zs.length) (hb : Bytes zs) (B T : Nat) : Inv zs B T 0 (putOf zs) := by
  refine ⟨put_len h, put_bytes hb, ?_, mid_put h⟩
  rw [zed_put h, Nat.pow_zero, Nat.mod_one, Nat.zero_mul, Nat.xor_zero]

theorem inv_zero {zs ys : List Int} {B T k : Nat} (h : Inv zs B T k ys) (hz : B / 2 ^ k % 2 = 0) : Inv zs B T (k + 1) ys := by
  obtain ⟨h1, h2, h3, h4⟩ := h
  refine ⟨h1, h2, ?_, h4⟩
  rw [Nat.mod_pow_succ, hz, Nat.mul_zero, Nat.add_zero]
  exact h3

theorem inv_one {zs ys : List Int} {B T k : Nat} (h : Inv zs B T k ys) (h12 : 12 ≤ zs.length) (hz : B / 2 ^ k % 2 = 1) (hK : (T + k) / 8 < ys.length) (hJ : (T + k) / 8 < 8 ∨ 12 ≤ (T + k) / 8) :
    Inv zs B T (k + 1) (ys.set ((T + k) / 8) (((ys[(T + k) / 8]).toNat ^^^ 2 ^ ((T + k) % 8) : Nat) : Int)) := by
  obtain ⟨h1, h2, h3, h4⟩ := h
  have hl : 12 ≤ ys.length := by omega
  have hzl := zed_len ys hl
  have hg : (zed ys)[(T + k) / 8]'(by omega) = ys[(T + k) / 8] := by
    have e := zed_get ys hl ((T + k) / 8)
    rw [if_pos hJ, List.getElem?_eq_getElem (by omega), List.getElem?_eq_getElem hK] at e
    exact Option.some.inj e
  refine ⟨by simpa using h1, ?_, ?_, by rw [mid_set ys _ _ hJ]; exact h4⟩
  · intro n hn
    rcases List.mem_or_eq_of_mem_set hn with hn | rfl
    · exact h2 n hn
    · have hx := h2 _ (List.getElem_mem hK)
      have hp : 2 ^ ((T + k) % 8) < 256 := by
        have : 2 ^ ((T + k) % 8) ≤ 2 ^ 7 := Nat.pow_le_pow_right (by decide) (by omega)
        omega
      have := Nat.xor_lt_two_pow (n := 8) (x := (ys[(T + k) / 8]).toNat) (y := 2 ^ ((T + k) % 8)) (by omega) hp
      omega
  · have hnf := num_flip (zed ys) (zed_bytes h2) (T + k) (by omega)
    rw [hg] at hnf
    rw [zed_set ys hl _ _ hJ, hnf, h3, Nat.mod_pow_succ, hz, add_xor k 1 (B % 2 ^ k) (Nat.mod_lt _ (Nat.two_pow_pos k)), xor_pow, Nat.one_mul, ← Nat.pow_add, Nat.add_comm T k, Nat.xor_assoc]

theorem inv_end {zs ys : List Int} {B T : Nat} (h : Inv zs B T 32 ys) (h12 : 12 ≤ zs.length) (hb : Bytes zs) (hB : B < 4294967296) (hB0 : B ≠ 0) (hT : T + 32 ≤ 8 * zs.length) : codeOf ys = 21 := by
  obtain ⟨h1, h2, h3, h4⟩ := h
  have hl : 12 ≤ ys.length := by omega
  rw [Nat.mod_eq_of_lt (show B < 2 ^ 32 by omega)] at h3
  apply code_bad
  rw [put_eq_iff hl, h4]
  intro e
  have e2 := b4_inj (sum_lt _ (zed_bytes h2)) (sum_lt _ (zed_bytes hb)) e
  have hne := burst (zed zs) (zed ys) (zed_bytes hb) (zed_bytes h2) (by rw [zed_len ys hl, zed_len zs h12, h1]) T B 4294967295 hB hB0 (by rw [zed_len zs h12]; exact hT) h3
  apply hne
  unfold sum at e2
  have e3 := congrArg (fun t => t ^^^ 4294967295) e2
  simpa [Nat.xor_assoc, Nat.xor_self] using e3

/-- what the walk makes of a turned bit -/
theorem flip_walk (a1 : Int) (k : Nat) (x : Int) (h0 : 0 ≤ a1) (hx : 0 ≤ x ∧ x < 256) :
    bits .xor .u8 x (2 ^ ((a1 + (k : Int)) % 8).toNat % 256) = ((x.toNat ^^^ 2 ^ ((a1.toNat + k) % 8) : Nat) : Int) := by
  have e1 : ((a1 + (k : Int)) % 8).toNat = (a1.toNat + k) % 8 := by omega
  have hp : 2 ^ ((a1.toNat + k) % 8) < 256 := by
    have : 2 ^ ((a1.toNat + k) % 8) ≤ 2 ^ 7 := Nat.pow_le_pow_right (by decide) (by omega)
    omega
  have e2 : ((2 : Int) ^ ((a1.toNat + k) % 8) % 256) = ((2 ^ ((a1.toNat + k) % 8) : Nat) : Int) := by
    have : ((2 : Int) ^ ((a1.toNat + k) % 8)) = ((2 ^ ((a1.toNat + k) % 8) : Nat) : Int) := by simp
    rw [this]
    generalize 2 ^ ((a1.toNat + k) % 8) = m at hp
    omega
  have e3 : x = ((x.toNat : Nat) : Int) := by omega
  rw [e1, e2]
  generalize hn : x.toNat = n at e3
  rw [e3, u8_xor_nat _ _ (by omega) hp]

end Go.Proofs.YtmnndkhdekpecaaGreatDoor.Crc
