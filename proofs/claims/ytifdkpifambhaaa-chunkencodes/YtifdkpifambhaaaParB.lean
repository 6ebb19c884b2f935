/-
  The bytes of a list of parameters, as package param makes them.
  Conditions: the numbers lie within their kinds, the cells hold them, the list is not refused.
-/
import Derived.Test.YtifdkpifambhaaaParA
namespace Go.Proofs.Ytifdkpifambhaaa.Par
open Go.ChangeShapes Go.WideShapes Go.ChangeAt Go.RowKit
set_option linter.unusedVariables false

/-- bytes 0 up to a length that 4 divides -/
def pad (b : List Int) : List Int := b ++ List.replicate (fill4 b.length - b.length) 0
def head (x : Int × List Int) : List Int := [x.1 / 256, x.1 % 256, ((x.2.length + 4 : Nat) : Int) / 256 % 256, ((x.2.length + 4 : Nat) : Int) % 256]
def put (b : List Int) (x : Int × List Int) : List Int := pad b ++ head x ++ x.2
/-- a list's bytes -/
def enc (l : List (Int × List Int)) : List Int := l.foldl put []
theorem pad_len (b : List Int) : (pad b).length = fill4 b.length := by unfold pad fill4; rw [List.length_append, List.length_replicate]; omega
theorem put_len (b : List Int) (x : Int × List Int) : (put b x).length = fill4 b.length + (x.2.length + 4) := by unfold put; rw [List.length_append, List.length_append, pad_len]; simp [head]; omega
theorem enc_snoc (ps : List Prm) (k : Nat) (p : Prm) (h : ps[k]? = some p) : enc ((ps.take (k + 1)).map val) = put (enc ((ps.take k).map val)) (val p) := by
  rw [List.take_add_one, h]; unfold enc; simp
theorem fill4_le (n : Nat) : n ≤ fill4 n ∧ fill4 n ≤ n + 3 := by unfold fill4; omega
theorem enc_le (l : List (Int × List Int)) (h : ∀ x ∈ l, x.2.length ≤ 65531) : (enc l).length ≤ l.length * 65538 := by
  have : ∀ (l : List (Int × List Int)) (b : List Int), (∀ x ∈ l, x.2.length ≤ 65531) → (l.foldl put b).length ≤ b.length + l.length * 65538 := by
    intro l
    induction l with
    | nil => intro b _; simp
    | cons x l ih =>
      intro b h
      have h1 := ih (put b x) (fun y hy => h y (by simp [hy]))
      have h2 := put_len b x
      have h3 := fill4_le b.length
      have h4 := h x (by simp)
      simp only [List.foldl_cons, List.length_cons]
      omega
  have := this l [] h
  unfold enc
  simpa using this
theorem enc_bytes (l : List (Int × List Int)) (h : ∀ x ∈ l, (0 ≤ x.1 ∧ x.1 < 65536) ∧ Bytes x.2) : Bytes (enc l) := by
  have : ∀ (l : List (Int × List Int)) (b : List Int), Bytes b → (∀ x ∈ l, (0 ≤ x.1 ∧ x.1 < 65536) ∧ Bytes x.2) → Bytes (l.foldl put b) := by
    intro l
    induction l with
    | nil => intro b hb _; exact hb
    | cons x l ih =>
      intro b hb h
      refine ih (put b x) ?_ (fun y hy => h y (by simp [hy]))
      obtain ⟨h1, h2⟩ := h x (by simp)
      intro n hn
      unfold put pad head at hn
      rcases List.mem_append.1 hn with hn | hn
      · rcases List.mem_append.1 hn with hn | hn
        · rcases List.mem_append.1 hn with hn | hn
          · exact hb n hn
          · rw [List.eq_of_mem_replicate hn]; decide
        · simp only [List.mem_cons, List.not_mem_nil, or_false] at hn
          rcases hn with rfl | rfl | rfl | rfl <;> omega
      · exact h2 n hn
  exact this l [] (fun n hn => by cases hn) h
theorem Long.not {ps : List Prm} {base : Nat} {w : World} (h : ¬ Long ps) (hp : ∀ p ∈ ps, One base w p) (k : Nat) : ∀ x ∈ (ps.take k).map val, x.2.length ≤ 65531 := by
  intro x hx
  obtain ⟨p, hp', rfl⟩ := List.mem_map.1 hx
  have hm := List.mem_of_mem_take hp'
  have := (hp p hm).2.1.1
  show p.2.2.2.2.length ≤ 65531
  rw [this]
  rcases Nat.lt_or_ge 65531 p.2.2.1 with hl | hl
  · exact absurd ⟨p, hm, hl⟩ h
  · exact hl
theorem enc_take_le {ps : List Prm} {base : Nat} {w : World} (h : ¬ Long ps) (hn : ps.length ≤ 256) (hp : ∀ p ∈ ps, One base w p) (k : Nat) : (enc ((ps.take k).map val)).length ≤ 16777728 := by
  have h1 := enc_le _ (Long.not h hp k)
  rw [List.length_map, List.length_take] at h1
  omega

theorem undrew {n : Nat} {w w' : World} (h : Below n w.drew w') : Below n w w' := ⟨h.os, h.tape, h.output, h.size, h.block⟩
theorem total (base : Nat) (w : World) (pa : Option Addr) (n pcap : Nat) (ps : List Prm) (hp : Prms base w pa n ps) (hL : ¬ Long ps) (hn : n ≤ 256) :
    Calls Try.prog 70 #[.slice pa n pcap] w fun e w' => e = .returned (.int .i64 ((enc (ps.map val)).length : Nat)) ∧ Below w.heap.size w w' := by
  have hE := enc_take_le hL (by rw [hp.1]; exact hn) hp.2.2.1
  have hA : enc ((ps.take n).map val) = enc (ps.map val) := by rw [List.take_of_length_le (by rw [hp.1]; omega)]
  rw [← hA]
  have HE := hidden hE
  clear hE hA
  go_enter Try.func70, Try.ntmps70
  go_wp2_with fail
  go_loopw [3, 8] (fun u i wr => ∃ k : Nat, k ≤ n ∧ i = .int .i64 k ∧ u = .int .i64 ((enc ((ps.take k).map val)).length : Nat) ∧ Below w.heap.size w wr) (fun _ i _ => n - (intOf i).toNat)
  case atStart => exact ⟨0, Nat.zero_le _, rfl, rfl, Below.refl _ _⟩
  case round =>
    obtain ⟨k, hk, rfl, rfl, hbl⟩ := hrel
    rcases Nat.lt_or_ge k n with hlt | hge
    · obtain ⟨b, off, t, a, len, cap, zs, rfl, hpk, hc1, hc2, hone⟩ := (hp.later hbl).get hlt
      obtain ⟨hzl, _, hlim, _⟩ := hone.len
      have hs := enc_snoc ps k _ hpk
      have hlen := put_len (enc ((ps.take k).map val)) (t, zs)
      have HS := hidden (show (enc ((ps.take (k + 1)).map val)).length = fill4 (enc ((ps.take k).map val)).length + (len + 4) by rw [hs, ← hzl]; exact hlen)
      have h1 := HE.out k
      have h2 := fill4_le (enc ((ps.take k).map val)).length
      have HB := hidden hbl
      have hbs := hbl.size
      clear hs hlen hpk hbl hzl hone
      generalize (enc ((ps.take k).map val)).length = m at *
      have HF := fun w => hidden (filled m (by omega) w)
      generalize fill4 m = f at *
      go_wp2_with fail
      go_region_with (first
        | (go_at_call 71; refine Calls.mono (HF _).out ?_; rintro e w' ⟨rfl, rfl⟩)
        | (go_at_call 82; refine (length_ t a len cap hlim _).mono ?_; rintro e w' ⟨rfl, b2⟩))
      all_goals
        have B2 : Below w.heap.size w w' := (HB.out.alloc hbs _).trans ((undrew b2).mono (by simp; omega))
        go_wp2
        go_roundw
        case rel => exact ⟨k + 1, by omega, by go_num, by rw [HS.out]; go_num, B2⟩
        case measure => simp [intOf]; omega
    · obtain rfl : k = n := by omega
      go_wp2
      go_ret
      exact ⟨rfl, hbl⟩
end Go.Proofs.Ytifdkpifambhaaa.Par
