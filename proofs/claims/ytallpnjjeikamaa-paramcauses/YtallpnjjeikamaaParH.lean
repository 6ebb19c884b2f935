/-
  The causes of errors, as package param and the document make them.
  Conditions: the numbers lie within their kinds, the cells hold them.
-/
import Derived.Test.YtallpnjjeikamaaParE
import Derived.Lib.ConvBytes
namespace Go.Proofs.Ytallpnjjeikamaa.Par
open Go.ChangeShapes Go.WideShapes Go.ChangeAt Go.RowKit
set_option linter.unusedVariables false

/-- a number's four bytes -/
def four (n : Int) : List Int := [n / 16777216, n / 65536 % 256, n / 256 % 256, n % 256]
theorem four_bytes {n : Int} (h0 : 0 ≤ n) (h1 : n < 4294967296) : Bytes (four n) := by
  intro x hx
  simp only [four, List.mem_cons, List.not_mem_nil, or_false] at hx
  rcases hx with rfl | rfl | rfl | rfl <;> omega
theorem row_new (w : World) (zs : List Int) (h : Bytes zs) (hl : zs.length ≤ 1000) (t : TypeId) : Row w.heap.size (w.alloc (.cells ⟨cs zs⟩ t)) (some ⟨w.heap.size, 0, none⟩) zs.length zs := by
  refine ⟨rfl, h, by omega, .inr ⟨_, _, rfl, Nat.le_refl _, fun j hj => ?_⟩⟩
  rw [World.cell?_alloc_at _ _ _ _ rfl, Nat.zero_add, List.getD_eq_getElem?_getD]
  simp [cs, List.getElem?_eq_getElem hj]
theorem fours (n : Int) (h0 : 0 ≤ n) (h1 : n < 4294967296) (w : World) :
    Calls Try.prog 38 #[.int .u32 n] w fun e w' => e = .returned (.slice (some ⟨w.heap.size, 0, none⟩) 4 4) ∧ w' = w.alloc (.cells ⟨cs (four n)⟩ 5) := by
  go_enter Try.func38, Try.ntmps38
  go_wp2
  go_ret
  exact ⟨rfl, rfl⟩
theorem rFours (n : Int) (h0 : 0 ≤ n) (h1 : n < 4294967296) (w : World) :
    Calls Try.prog 39 #[.int .u32 n] w fun e w' => e = .returned (.slice (some ⟨w.heap.size, 0, none⟩) 4 4) ∧ w' = w.alloc (.cells ⟨cs (four n)⟩ 5) := by
  go_enter Try.func39, Try.ntmps39
  go_wp2
  go_ret
  exact ⟨rfl, rfl⟩
/-- the variable of a result that is a parameter -/
theorem var_later (w w1 : World) (hb : Below (w.heap.size + 1) (w.alloc (.cells #[.int .u16 0, .slice none 0 0] 45)) w1) :
    w1.cell? ⟨w.heap.size, 0, none⟩ = some (.int .u16 0) ∧ w1.cell? ⟨w.heap.size, 1, none⟩ = some (.slice none 0 0) ∧ w1.frozen? ⟨w.heap.size, 0, none⟩ = false ∧ w1.frozen? ⟨w.heap.size, 1, none⟩ = false ∧ Below w.heap.size w w1 := by
  have h : (w.alloc (.cells #[.int .u16 0, .slice none 0 0] 45)).heap[w.heap.size]? = some (.cells #[.int .u16 0, .slice none 0 0] 45) := heap_alloc_new w _
  have h1 : w1.heap[w.heap.size]? = some (.cells #[.int .u16 0, .slice none 0 0] 45) := (hb.block _ (by omega)).trans h
  exact ⟨by simp [World.cell?, h1], by simp [World.cell?, h1], by simp [World.frozen?, h1], by simp [World.frozen?, h1], ((Below.refl _ w).alloc (Nat.le_refl _) _).trans (hb.mono (by omega))⟩
theorem var_end (w w1 : World) (t : Int) (ht : 0 ≤ t ∧ t < 65536) (a : Option Addr) (len cap : Nat) (zs : List Int) (hr : Row (w.heap.size + 1) w1 a len zs) (hc : len ≤ cap ∧ cap ≤ maxLen ∧ (a = none → len = 0 ∧ cap = 0)) (hb : Below w.heap.size w w1) (u v : Value) :
    One w.heap.size ((w1.setCell ⟨w.heap.size, 0, none⟩ u).setCell ⟨w.heap.size, 1, none⟩ v) (t, a, len, cap, zs) ∧ Below w.heap.size w ((w1.setCell ⟨w.heap.size, 0, none⟩ u).setCell ⟨w.heap.size, 1, none⟩ v) := by
  refine ⟨⟨ht, Row.mono (((hr.set (x := ⟨w.heap.size, 0, none⟩) (by simp) u)).set (x := ⟨w.heap.size, 1, none⟩) (by simp) v) (by omega), hc.1, hc.2.1, hc.2.2⟩, ?_⟩
  exact (hb.setCell (p := ⟨w.heap.size, 0, none⟩) (Nat.le_refl _) _).setCell (p := ⟨w.heap.size, 1, none⟩) (Nat.le_refl _) _
/-- what a new row of bytes behind the variable is -/
theorem row_behind (w : World) (zs : List Int) (h : Bytes zs) (hl : zs.length ≤ 1000) (o : Obj) : Row (w.heap.size + 1) ((w.alloc o).alloc (.cells ⟨cs zs⟩ 5)) (some ⟨w.heap.size + 1, 0, none⟩) zs.length zs := by
  have := row_new (w.alloc o) zs h hl 5
  rwa [World.size_alloc] at this

theorem stale (n : Int) (h0 : 0 ≤ n) (h1 : n < 4294967296) (w : World) :
    Calls Try.prog 22 #[.int .u32 n] w fun e w' => ∃ p, e = .returned (pv p) ∧ One w.heap.size w' p ∧ val p = (3, four n) ∧ Below w.heap.size w w' := by
  go_enter Try.func22, Try.ntmps22
  go_wp2_with fail
  refine (fours n h0 h1 _).mono ?_
  rintro e w1 ⟨rfl, hw1⟩
  have HR := hidden (show Row (w.heap.size + 1) w1 (some ⟨w.heap.size + 1, 0, none⟩) 4 (four n) by rw [hw1]; exact row_behind w (four n) (four_bytes h0 h1) (by simp [four]) _)
  obtain ⟨c0, c1, f0, f1, b1⟩ := var_later w w1 (by rw [hw1]; exact (Below.refl _ _).alloc (by simp) _)
  have HB := hidden b1
  clear hw1 b1
  simp only [World.size_alloc]
  go_wp2
  obtain ⟨ho, hb⟩ := var_end w w1 3 (by decide) _ 4 4 _ HR.out ⟨by decide, by simp [maxLen], fun h => by cases h⟩ HB.out (.int .u16 3) (.slice (some ⟨w.heap.size + 1, 0, none⟩) 4 4)
  refine bodyPost_ret (v := pv (3, some ⟨w.heap.size + 1, 0, none⟩, 4, 4, four n)) (by simp [results, Try.results22, go_sem, c0, c1, pv]) rfl ⟨_, rfl, ho, rfl, hb⟩
theorem noData (n : Int) (h0 : 0 ≤ n) (h1 : n < 4294967296) (w : World) :
    Calls Try.prog 24 #[.int .u32 n] w fun e w' => ∃ p, e = .returned (pv p) ∧ One w.heap.size w' p ∧ val p = (9, four n) ∧ Below w.heap.size w w' := by
  go_enter Try.func24, Try.ntmps24
  go_wp2_with fail
  refine (fours n h0 h1 _).mono ?_
  rintro e w1 ⟨rfl, hw1⟩
  have HR := hidden (show Row (w.heap.size + 1) w1 (some ⟨w.heap.size + 1, 0, none⟩) 4 (four n) by rw [hw1]; exact row_behind w (four n) (four_bytes h0 h1) (by simp [four]) _)
  obtain ⟨c0, c1, f0, f1, b1⟩ := var_later w w1 (by rw [hw1]; exact (Below.refl _ _).alloc (by simp) _)
  have HB := hidden b1
  clear hw1 b1
  simp only [World.size_alloc]
  go_wp2
  obtain ⟨ho, hb⟩ := var_end w w1 9 (by decide) _ 4 4 _ HR.out ⟨by decide, by simp [maxLen], fun h => by cases h⟩ HB.out (.int .u16 9) (.slice (some ⟨w.heap.size + 1, 0, none⟩) 4 4)
  refine bodyPost_ret (v := pv (9, some ⟨w.heap.size + 1, 0, none⟩, 4, 4, four n)) (by simp [results, Try.results24, go_sem, c0, c1, pv]) rfl ⟨_, rfl, ho, rfl, hb⟩
theorem rStale (n : Int) (h0 : 0 ≤ n) (h1 : n < 4294967296) (w : World) :
    Calls Try.prog 25 #[.int .u32 n] w fun e w' => ∃ p, e = .returned (pv p) ∧ One w.heap.size w' p ∧ val p = (3, four n) ∧ Below w.heap.size w w' := by
  go_enter Try.func25, Try.ntmps25
  go_wp2_with fail
  refine (rFours n h0 h1 _).mono ?_
  rintro e w1 ⟨rfl, hw1⟩
  have HR := hidden (show Row (w.heap.size + 1) w1 (some ⟨w.heap.size + 1, 0, none⟩) 4 (four n) by rw [hw1]; exact row_behind w (four n) (four_bytes h0 h1) (by simp [four]) _)
  obtain ⟨c0, c1, f0, f1, b1⟩ := var_later w w1 (by rw [hw1]; exact (Below.refl _ _).alloc (by simp) _)
  have HB := hidden b1
  clear hw1 b1
  simp only [World.size_alloc]
  go_wp2
  obtain ⟨ho, hb⟩ := var_end w w1 3 (by decide) _ 4 4 _ HR.out ⟨by decide, by simp [maxLen], fun h => by cases h⟩ HB.out (.int .u16 3) (.slice (some ⟨w.heap.size + 1, 0, none⟩) 4 4)
  refine bodyPost_ret (v := pv (3, some ⟨w.heap.size + 1, 0, none⟩, 4, 4, four n)) (by simp [results, Try.results25, go_sem, c0, c1, pv]) rfl ⟨_, rfl, ho, rfl, hb⟩
theorem rNoData (n : Int) (h0 : 0 ≤ n) (h1 : n < 4294967296) (w : World) :
    Calls Try.prog 27 #[.int .u32 n] w fun e w' => ∃ p, e = .returned (pv p) ∧ One w.heap.size w' p ∧ val p = (9, four n) ∧ Below w.heap.size w w' := by
  go_enter Try.func27, Try.ntmps27
  go_wp2_with fail
  refine (rFours n h0 h1 _).mono ?_
  rintro e w1 ⟨rfl, hw1⟩
  have HR := hidden (show Row (w.heap.size + 1) w1 (some ⟨w.heap.size + 1, 0, none⟩) 4 (four n) by rw [hw1]; exact row_behind w (four n) (four_bytes h0 h1) (by simp [four]) _)
  obtain ⟨c0, c1, f0, f1, b1⟩ := var_later w w1 (by rw [hw1]; exact (Below.refl _ _).alloc (by simp) _)
  have HB := hidden b1
  clear hw1 b1
  simp only [World.size_alloc]
  go_wp2
  obtain ⟨ho, hb⟩ := var_end w w1 9 (by decide) _ 4 4 _ HR.out ⟨by decide, by simp [maxLen], fun h => by cases h⟩ HB.out (.int .u16 9) (.slice (some ⟨w.heap.size + 1, 0, none⟩) 4 4)
  refine bodyPost_ret (v := pv (9, some ⟨w.heap.size + 1, 0, none⟩, 4, 4, four n)) (by simp [results, Try.results27, go_sem, c0, c1, pv]) rfl ⟨_, rfl, ho, rfl, hb⟩
theorem four_stream (n : Int) (h0 : 0 ≤ n) (h1 : n < 65536) : four (n * 65536) = [n / 256, n % 256] ++ [0, 0] := by
  unfold four
  have e1 : n * 65536 / 16777216 = n / 256 := by omega
  have e2 : n * 65536 / 65536 % 256 = n % 256 := by omega
  have e3 : n * 65536 / 256 % 256 = 0 := by omega
  have e4 : n * 65536 % 256 = 0 := by omega
  rw [e1, e2, e3, e4]
  rfl
theorem stream (n : Int) (h0 : 0 ≤ n) (h1 : n < 65536) (w : World) :
    Calls Try.prog 23 #[.int .u16 n] w fun e w' => ∃ p, e = .returned (pv p) ∧ One w.heap.size w' p ∧ val p = (1, [n / 256, n % 256] ++ [0, 0]) ∧ Below w.heap.size w w' := by
  have hF := hidden (fours (n * 65536) (by omega) (by omega))
  have hFB := hidden (four_bytes (n := n * 65536) (by omega) (by omega))
  rw [four_stream n h0 h1] at hF hFB
  go_enter Try.func23, Try.ntmps23
  go_wp2_with fail
  refine Calls.mono (hF.out _) ?_
  rintro e w1 ⟨rfl, hw1⟩
  have HR := hidden (show Row (w.heap.size + 1) w1 (some ⟨w.heap.size + 1, 0, none⟩) 4 ([n / 256, n % 256] ++ [0, 0]) by rw [hw1]; exact row_behind w _ hFB.out (by simp) _)
  obtain ⟨c0, c1, f0, f1, b1⟩ := var_later w w1 (by rw [hw1]; exact (Below.refl _ _).alloc (by simp) _)
  have HB := hidden b1
  clear hw1 b1
  simp only [World.size_alloc]
  go_wp2
  obtain ⟨ho, hb⟩ := var_end w w1 1 (by decide) _ 4 4 _ HR.out ⟨by decide, by simp [maxLen], fun h => by cases h⟩ HB.out (.int .u16 1) (.slice (some ⟨w.heap.size + 1, 0, none⟩) 4 4)
  refine bodyPost_ret (v := pv (1, some ⟨w.heap.size + 1, 0, none⟩, 4, 4, [n / 256, n % 256] ++ [0, 0])) (by simp [results, Try.results23, go_sem, c0, c1, pv]) rfl ⟨_, rfl, ho, rfl, hb⟩
theorem own_new (w : World) (B : Nat) (hB : B ≤ w.heap.size) (zs : List Int) (hl : zs.length ≤ 1000) : (w.alloc (.cells ⟨cs zs⟩ 5)).ownsRow B 5 1 (.slice (some ⟨w.heap.size, 0, none⟩) zs.length zs.length) zs.length (cs zs) := by
  refine ⟨by rw [cs_len, Nat.mul_one], .inr ⟨w.heap.size, zs.length, ⟨cs zs⟩, rfl, hB, heap_alloc_new w _, Nat.le_refl _, by unfold maxLen; omega, ?_, ?_⟩⟩
  · show (cs zs).length = _
    rw [cs_len, Nat.mul_one]
  · rw [Nat.mul_one]
    exact List.take_of_length_le (by rw [cs_len]; exact Nat.le_refl _)
theorem rStream (n : Int) (h0 : 0 ≤ n) (h1 : n < 65536) (w : World) :
    Calls Try.prog 26 #[.int .u16 n] w fun e w' => ∃ p, e = .returned (pv p) ∧ One w.heap.size w' p ∧ val p = (1, [n / 256, n % 256] ++ [0, 0]) ∧ Below w.heap.size w w' := by
  obtain ⟨i0, hi, hz0, hz1, hz2⟩ := info_parts info5
  have hFB := hidden (four_bytes (n := n * 65536) (by omega) (by omega))
  rw [four_stream n h0 h1] at hFB
  go_enter Try.func26, Try.ntmps26
  go_wp2_with fail
  refine (rTwo n h0 h1 _).mono ?_
  rintro e w1 ⟨rfl, hw1⟩
  have ho1 : w1.ownsRow (w.heap.size + 1) 5 1 (.slice (some ⟨w.heap.size + 1, 0, none⟩) 2 2) 2 (cs [n / 256, n % 256]) := by
    rw [hw1]
    have := own_new (w.alloc (.cells #[.int .u16 0, .slice none 0 0] 45)) (w.heap.size + 1) (by simp) [n / 256, n % 256] (by simp)
    rw [World.size_alloc] at this
    exact this
  have b1 : Below (w.heap.size + 1) (w.alloc (.cells #[.int .u16 0, .slice none 0 0] 45)) w1 := by rw [hw1]; exact (Below.refl _ _).alloc (by simp) _
  have hs1 := b1.size
  simp only [World.size_alloc] at hs1 ⊢
  clear hw1
  go_wp2_with (at_builtin; refine wpList_append_own _ rfl _ _ 23 rfl (w.heap.size + 1) 5 i0 (.int .u8 0) 1 1 Try.underlying23 hi hz0 hz1 hz2 rfl (by decide) _ _ _ rfl (ho1.alloc _) ⟨w1.heap.size, 0, none⟩ 2 2 (cs [0, 0]) rfl rfl ?c1 (cs_one _) (by simp [maxLen]) (by simp) ?c2 ?_)
  case c1 => exact cells_new w1 _ 5
  case c2 => simp only [World.size_alloc]; omega
  intro v2 w2 ho2 hg2 _
  rw [← cs_append] at ho2
  obtain ⟨a, cap, rfl, hr, hcap⟩ := row_own ho2 hFB.out (by simp)
  have b2 : Below (w.heap.size + 1) (w.alloc (.cells #[.int .u16 0, .slice none 0 0] 45)) w2 := (b1.alloc hs1 _).grown hg2 (by simp only [World.size_alloc]; omega) (fun j hj => (ho1.lt j hj).1)
  obtain ⟨c0, c1, f0, f1, b3⟩ := var_later w w2 b2
  have HR := hidden hr
  have HB := hidden b3
  have HC := hidden hcap
  clear hr b3 b2 hg2 ho2 hcap ho1 b1
  go_wp2
  obtain ⟨ho, hb⟩ := var_end w w2 1 (by decide) _ 4 cap _ HR.out HC.out HB.out (.int .u16 1) (.slice a 4 cap)
  refine bodyPost_ret (v := pv (1, a, 4, cap, [n / 256, n % 256] ++ [0, 0])) (by simp [results, Try.results26, go_sem, c0, c1, pv]) rfl ⟨_, rfl, ho, rfl, hb⟩
/-- a text's bytes -/
def nums (s : ByteArray) : List Int := s.data.toList.map fun b => (b.toNat : Int)
theorem nums_len (s : ByteArray) : (nums s).length = s.size := by unfold nums; rw [List.length_map]; rfl
theorem nums_bytes (s : ByteArray) : Bytes (nums s) := by
  intro n hn
  obtain ⟨b, _, rfl⟩ := List.mem_map.1 hn
  have := b.toNat_lt
  omega
/-- a text as a new row of bytes, with no name for the new world -/
theorem bytes_any (s : ByteArray) (hs : s.size ≤ 65531) : ∃ (cp : World → Nat) (mk : World → World), (∀ w : World, (convert 9 23 (.string s)).run Try.prog w = .ok (.slice (some ⟨w.heap.size, 0, none⟩) s.size (cp w)) (mk w)) ∧
    (∀ w : World, Row w.heap.size (mk w) (some ⟨w.heap.size, 0, none⟩) s.size (nums s)) ∧ (∀ w : World, s.size ≤ cp w ∧ cp w ≤ maxLen) ∧ ∀ w : World, Below w.heap.size w (mk w) := by
  refine ⟨fun w => grownCap w s.size 0 5, fun w => Lib.bytesWorld w 5 s, fun w => Lib.run_convert_string_bytes w 9 23 5 s Try.underlying9 Try.underlying23 Try.underlying5, fun w => ?_, fun w => ⟨grownCap_ge _ _ _ _, grownCap_le_maxLen _ _ _ _ (by unfold maxLen; omega)⟩, fun w => ?_⟩
  · refine ⟨nums_len s, nums_bytes s, by omega, .inr ⟨_, _, rfl, Nat.le_refl _, fun j hj => ?_⟩⟩
    rw [Nat.zero_add, Lib.bytesWorld_cell w 5 s j hj]
    congr 2
    have hl : j < s.data.toList.length := hj
    simp [nums, List.getD_eq_getElem?_getD, List.getElem?_eq_getElem hl]
  · exact ⟨rfl, rfl, rfl, by rw [Lib.bytesWorld_size]; omega, fun k hk => Lib.bytesWorld_at_old w 5 s k hk⟩
theorem user (s : ByteArray) (hs : s.size ≤ 140737488351232) (w : World) :
    Calls Try.prog 20 #[.string s] w fun e w' => ∃ p c, e = .returned (.tuple #[pv p, .int .i64 c]) ∧ One w.heap.size w' p ∧ ((65531 < s.size ∧ c = 2 ∧ val p = (0, [])) ∨ (s.size ≤ 65531 ∧ c = 0 ∧ val p = (12, nums s))) ∧ Below w.heap.size w w' := by
  by_cases hL : 65531 < s.size
  · obtain ⟨c0, c1, f0, f1, b1⟩ := var_later w _ (Below.refl (w.heap.size + 1) (w.alloc (.cells #[.int .u16 0, .slice none 0 0] 45)))
    go_enter Try.func20, Try.ntmps20
    go_wp2
    refine bodyPost_ret (v := .tuple #[pv (0, none, 0, 0, []), .int .i64 2]) (by simp [results, Try.results20, go_sem, c0, c1, pv]) rfl ⟨_, _, rfl, ⟨by decide, ⟨rfl, (fun n hn => by cases hn), by decide, .inl rfl⟩, by decide, by simp [maxLen], fun _ => ⟨rfl, rfl⟩⟩, .inl ⟨hL, rfl, rfl⟩, b1⟩
  · obtain ⟨cp, mk, hmk, hmr, hmc, hmb⟩ := bytes_any s (by omega)
    have hr := hmr (w.alloc (.cells #[.int .u16 0, .slice none 0 0] 45))
    have hc := hmc (w.alloc (.cells #[.int .u16 0, .slice none 0 0] 45))
    have hb := hmb (w.alloc (.cells #[.int .u16 0, .slice none 0 0] 45))
    simp only [World.size_alloc] at hr hb
    obtain ⟨c0, c1, f0, f1, b1⟩ := var_later w _ hb
    have HR := hidden hr
    have HC := hidden hc
    have HB := hidden b1
    clear hr hc hb hmr hmc hmb b1
    go_enter Try.func20, Try.ntmps20
    go_wp2
    obtain ⟨ho, hb⟩ := var_end w _ 12 (by decide) _ s.size _ _ HR.out ⟨HC.out.1, HC.out.2, fun h => by cases h⟩ HB.out (.int .u16 12) (.slice (some ⟨w.heap.size + 1, 0, none⟩) s.size (cp (w.alloc (.cells #[.int .u16 0, .slice none 0 0] 45))))
    refine bodyPost_ret (v := .tuple #[pv (12, some ⟨w.heap.size + 1, 0, none⟩, s.size, cp (w.alloc (.cells #[.int .u16 0, .slice none 0 0] 45)), nums s), .int .i64 0]) (by simp [results, Try.results20, go_sem, c0, c1, pv]) rfl ⟨_, _, rfl, ho, .inr ⟨by omega, rfl, rfl⟩, hb⟩
theorem rUser (s : ByteArray) (hs : s.size ≤ 140737488351232) (w : World) :
    Calls Try.prog 21 #[.string s] w fun e w' => ∃ p c, e = .returned (.tuple #[pv p, .int .i64 c]) ∧ One w.heap.size w' p ∧ ((65531 < s.size ∧ c = 2 ∧ val p = (0, [])) ∨ (s.size ≤ 65531 ∧ c = 0 ∧ val p = (12, nums s))) ∧ Below w.heap.size w w' := by
  by_cases hL : 65531 < s.size
  · obtain ⟨c0, c1, f0, f1, b1⟩ := var_later w _ (Below.refl (w.heap.size + 1) (w.alloc (.cells #[.int .u16 0, .slice none 0 0] 45)))
    go_enter Try.func21, Try.ntmps21
    go_wp2
    refine bodyPost_ret (v := .tuple #[pv (0, none, 0, 0, []), .int .i64 2]) (by simp [results, Try.results21, go_sem, c0, c1, pv]) rfl ⟨_, _, rfl, ⟨by decide, ⟨rfl, (fun n hn => by cases hn), by decide, .inl rfl⟩, by decide, by simp [maxLen], fun _ => ⟨rfl, rfl⟩⟩, .inl ⟨hL, rfl, rfl⟩, b1⟩
  · obtain ⟨cp, mk, hmk, hmr, hmc, hmb⟩ := bytes_any s (by omega)
    have hr := hmr (w.alloc (.cells #[.int .u16 0, .slice none 0 0] 45))
    have hc := hmc (w.alloc (.cells #[.int .u16 0, .slice none 0 0] 45))
    have hb := hmb (w.alloc (.cells #[.int .u16 0, .slice none 0 0] 45))
    simp only [World.size_alloc] at hr hb
    obtain ⟨c0, c1, f0, f1, b1⟩ := var_later w _ hb
    have HR := hidden hr
    have HC := hidden hc
    have HB := hidden b1
    clear hr hc hb hmr hmc hmb b1
    go_enter Try.func21, Try.ntmps21
    go_wp2
    obtain ⟨ho, hb⟩ := var_end w _ 12 (by decide) _ s.size _ _ HR.out ⟨HC.out.1, HC.out.2, fun h => by cases h⟩ HB.out (.int .u16 12) (.slice (some ⟨w.heap.size + 1, 0, none⟩) s.size (cp (w.alloc (.cells #[.int .u16 0, .slice none 0 0] 45))))
    refine bodyPost_ret (v := .tuple #[pv (12, some ⟨w.heap.size + 1, 0, none⟩, s.size, cp (w.alloc (.cells #[.int .u16 0, .slice none 0 0] 45)), nums s), .int .i64 0]) (by simp [results, Try.results21, go_sem, c0, c1, pv]) rfl ⟨_, _, rfl, ho, .inr ⟨by omega, rfl, rfl⟩, hb⟩
end Go.Proofs.Ytallpnjjeikamaa.Par
