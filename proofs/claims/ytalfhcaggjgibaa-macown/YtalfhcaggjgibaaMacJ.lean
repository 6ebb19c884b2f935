/-
  Which bytes are known as a seal's; bytes as a text.
  Conditions: the numbers lie within their kinds, the cells hold them.
-/
import Derived.Test.YtalfhcaggjgibaaMacI
import Derived.Laws.BytesArg
namespace Go.Proofs.Ytalfhcaggjgibaa.Mac
open Go.ChangeShapes Go.WideShapes Go.ChangeAt Go.RowKit
set_option linter.unusedVariables false

theorem digs_eq (x : Int) : digs x = [dig x 0, dig x 1, dig x 2, dig x 3, dig x 4, dig x 5, dig x 6, dig x 7] := rfl
theorem byteAt_byte (zs : List Int) (h : Bytes zs) (i : Nat) : 0 ≤ byteAt zs i ∧ byteAt zs i < 256 := at_bound zs h i
theorem list8 (zs : List Int) (h : zs.length = 8) : zs = [byteAt zs 0, byteAt zs 1, byteAt zs 2, byteAt zs 3, byteAt zs 4, byteAt zs 5, byteAt zs 6, byteAt zs 7] := by
  match zs, h with
  | [a, b, c, d, e, f, g, h], _ => rfl
/-- eight bytes are a number just where they are its bytes -/
theorem same_iff (zs : List Int) (hz : Bytes zs) (hl : zs.length = 8) (x : Int) (hx : U x) : pk (byteAt zs) 8 = x ↔ zs = digs x := by
  obtain ⟨hx1, hx2⟩ := hx
  have hs := pk_eight (byteAt zs) (byteAt_byte zs hz)
  have b0 := byteAt_byte zs hz 0; have b1 := byteAt_byte zs hz 1; have b2 := byteAt_byte zs hz 2; have b3 := byteAt_byte zs hz 3
  have b4 := byteAt_byte zs hz 4; have b5 := byteAt_byte zs hz 5; have b6 := byteAt_byte zs hz 6; have b7 := byteAt_byte zs hz 7
  obtain ⟨d0, d1, d2, d3, d4, d5, d6, d7⟩ := dig_eq x
  constructor
  · intro h
    rw [list8 zs hl, digs_eq]
    rw [hs] at h
    generalize byteAt zs 0 = z0 at *; generalize byteAt zs 1 = z1 at *; generalize byteAt zs 2 = z2 at *; generalize byteAt zs 3 = z3 at *
    generalize byteAt zs 4 = z4 at *; generalize byteAt zs 5 = z5 at *; generalize byteAt zs 6 = z6 at *; generalize byteAt zs 7 = z7 at *
    rw [d0, d1, d2, d3, d4, d5, d6, d7]
    have e0 : z0 = x % 256 := by omega
    have e1 : z1 = x / 256 % 256 := by omega
    have e2 : z2 = x / 65536 % 256 := by omega
    have e3 : z3 = x / 16777216 % 256 := by omega
    have e4 : z4 = x / 4294967296 % 256 := by omega
    have e5 : z5 = x / 1099511627776 % 256 := by omega
    have e6 : z6 = x / 281474976710656 % 256 := by omega
    have e7 : z7 = x / 72057594037927936 % 256 := by omega
    rw [← e0, ← e1, ← e2, ← e3, ← e4, ← e5, ← e6, ← e7]
  · intro h
    rw [hs, h]
    show dig x 0 + dig x 1 * 256 + dig x 2 * 65536 + dig x 3 * 16777216 + dig x 4 * 4294967296 + dig x 5 * 1099511627776 + dig x 6 * 281474976710656 + dig x 7 * 72057594037927936 = x
    rw [d0, d1, d2, d3, d4, d5, d6, d7]
    clear d0 d1 d2 d3 d4 d5 d6 d7 b0 b1 b2 b3 b4 b5 b6 b7 hs h
    omega

theorem same (w : World) (a : Option Addr) (len cap : Nat) (zs : List Int) (hr : Row w a len zs) (x : Int) (hx : U x) :
    Calls Try.prog 15 #[.slice a len cap, .int .u64 x] w fun e w' => e = .returned (.bool (decide (zs = digs x))) ∧ Below w.heap.size w w' := by
  have hl := hr.1
  by_cases h8 : len = 8
  · have HI := hidden (same_iff zs hr.2.1 (by omega) x hx)
    have N := hidden (number w a len cap zs hr (by omega))
    subst h8
    generalize pk (byteAt zs) 8 = y at *
    by_cases he : y = x
    · have HD := hidden (show decide (zs = digs x) = true from decide_eq_true (HI.out.1 he))
      rw [HD.out]
      subst he
      clear HI HD
      go_enter Try.func15, Try.ntmps15
      go_wp2_with fail
      refine Calls.mono N.out ?_
      rintro e w' ⟨rfl, rfl⟩
      go_wp2
      go_ret
      exact ⟨rfl, Below.refl _ _⟩
    · have HD := hidden (show decide (zs = digs x) = false from decide_eq_false (fun e => he (HI.out.2 e)))
      rw [HD.out]
      have hb : (y == x) = false := by simpa using he
      clear HI HD
      go_enter Try.func15, Try.ntmps15
      go_wp2_with fail
      refine Calls.mono N.out ?_
      rintro e w' ⟨rfl, rfl⟩
      go_wp2
      go_ret
      exact ⟨rfl, Below.refl _ _⟩
  · have HI := hidden (show decide (zs = digs x) = false from decide_eq_false (fun e => h8 (by rw [← hl, e, digs_len])))
    have h9 : ¬ (len : Int) = 8 := by omega
    rw [HI.out]
    clear HI
    go_enter Try.func15, Try.ntmps15
    go_wp2
    go_ret
    exact ⟨rfl, Below.refl _ _⟩

/-- bytes as a text -/
theorem conv_row (w : World) (a : Option Addr) (len cap : Nat) (zs : List Int) (h : Row w a len zs) :
    (convert 24 9 (.slice a len cap)).run Try.prog w = .ok (.string (strOfNums zs)) w := by
  rcases Nat.eq_zero_or_pos len with rfl | hp
  · obtain rfl := List.eq_nil_of_length_eq_zero h.1
    cases a with
    | none => exact run_convert_bytes_nil w 24 5 Try.underlying24 Try.underlying5 0 cap 9 Try.underlying9
    | some x =>
      rw [run_convert_bytes_string w 24 9 5 _ 0 cap Try.underlying24 Try.underlying5 Try.underlying9]
      exact run_bytesToString w x 0 cap [] (run_loadCells_list w x [] (fun j v hj => by cases hj))
  · obtain ⟨b, off, rfl, hc⟩ := h.2.2.2.resolve_left (by omega)
    exact run_convert_bytes_arg w 24 5 Try.underlying24 Try.underlying5 b off len cap zs h.1 hc 9 Try.underlying9
theorem str_inj (xs ys : List Int) (hx : Bytes xs) (hy : Bytes ys) (h : strOfNums xs = strOfNums ys) : xs = ys := by
  have e : xs.map (fun n => UInt8.ofNat n.toNat) = ys.map (fun n => UInt8.ofNat n.toNat) := by
    rw [← strOfNums_data, ← strOfNums_data, h]
  clear h
  induction xs generalizing ys with
  | nil => cases ys with
    | nil => rfl
    | cons y ys => simp at e
  | cons x xs ih => cases ys with
    | nil => simp at e
    | cons y ys =>
      simp only [List.map_cons, List.cons.injEq] at e
      have h1 := hx x (by simp)
      have h2 := hy y (by simp)
      have h3 := congrArg UInt8.toNat e.1
      simp only [UInt8.toNat_ofNat'] at h3
      rw [ih ys (fun n hn => hx n (by simp [hn])) (fun n hn => hy n (by simp [hn])) e.2, show x = y by omega]
theorem str_eq (xs ys : List Int) (hx : Bytes xs) (hy : Bytes ys) : strOfNums xs = strOfNums ys ↔ xs = ys := ⟨str_inj xs ys hx hy, fun h => by rw [h]⟩
end Go.Proofs.Ytalfhcaggjgibaa.Mac
