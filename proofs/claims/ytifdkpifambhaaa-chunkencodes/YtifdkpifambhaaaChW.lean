/-
  A chunk that is read may be, and its numbers lie within their kinds.
  Conditions: the bytes are bytes.
-/
import Derived.Test.YtifdkpifambhaaaChV
namespace Go.Proofs.Ytifdkpifambhaaa.Chu
open Go.ChangeShapes Go.WideShapes Go.ChangeAt Go.RowKit
open Par (hidden Bytes Row Prm Prms cell_lt Cap cells_new cutA thrown form_of)
set_option linter.unusedVariables false

theorem pcode_ok {l : List (Int × List Int)} (h1 : l.length ≤ 256) (h2 : ∀ x ∈ l, Par.Fit x) : pcode l = 0 := by
  unfold pcode
  rw [if_neg (by omega), if_neg]
  intro h
  obtain ⟨x, hx, hl⟩ := List.any_eq_true.1 h
  have h3 := (h2 x hx).2.2
  have h4 := of_decide_eq_true hl
  omega
theorem pcode_nil : pcode [] = 0 := rfl
theorem psz_nil : psz [] = 0 := rfl
theorem psz_le_of {l : List (Int × List Int)} (h : pcode l = 0) {n : Nat} (hn : (Par.enc l).length ≤ n) : psz l ≤ n := by
  unfold psz
  rw [if_pos h]
  exact hn
theorem chk_of (y : Ch) (h1 : FlagOk y.kind y.flags) (h2 : FieldOk y) (h3 : ¬ (y.kind = 0 ∧ y.bs = [])) (h4 : y.kind = 4 ∨ y.kind = 5 → OneBeat y.ps) (h5 : y.gs.length ≤ 4096 ∧ y.ns.length ≤ 4096 ∧ y.ds.length ≤ 4096) (h6 : pcode y.ps = 0) (h7 : vlen y ≤ 65531) : chk y = 0 := by
  refine chk_0 ⟨⟨h1, h2⟩, h3, fun ⟨hb, hn⟩ => hn (h4 ?_)⟩ (by omega) h6 (by omega)
  unfold beat at hb
  simpa using hb
theorem nums_nil : (∀ g ∈ ([] : List (Int × Int)), (0 ≤ g.1 ∧ g.1 < 65536) ∧ (0 ≤ g.2 ∧ g.2 < 65536)) := fun g hg => by cases hg
theorem ds_nil : (∀ d ∈ ([] : List Int), 0 ≤ d ∧ d < 4294967296) := fun g hg => by cases hg
theorem bs_nil : Bytes [] := fun g hg => by cases hg
theorem ps_nil : ∀ x ∈ ([] : List (Int × List Int)), (0 ≤ x.1 ∧ x.1 < 65536) ∧ Bytes x.2 := fun g hg => by cases hg
theorem z32 : (0 : Int) ≤ 0 ∧ (0 : Int) < 4294967296 := by decide
theorem z16 : (0 : Int) ≤ 0 ∧ (0 : Int) < 65536 := by decide
theorem ps_fit {l : List (Int × List Int)} (h : ∀ x ∈ l, Par.Fit x) : ∀ x ∈ l, (0 ≤ x.1 ∧ x.1 < 65536) ∧ Bytes x.2 := fun x hx => ⟨(h x hx).1, (h x hx).2.1⟩
set_option maxHeartbeats 2000000 in
theorem read_fil (k f : Int) (v : List Int) (y : Ch) (hk : 0 ≤ k ∧ k < 256) (hf : 0 ≤ f ∧ f < 256) (hfl : FlagOk k f) (hv : Bytes v) (hl : v.length ≤ 65531) (h : Fil k v (zch k f) 0 y) : chk y = 0 ∧ VOk y := by
  unfold Fil at h
  by_cases hn : v.length < nb k
  · rw [if_pos hn] at h; cases h
  rw [if_neg hn] at h
  by_cases a : k = 3 ∨ k = 16
  · rw [if_pos a] at h
    rcases h with ⟨_, h⟩ | ⟨_, _, h⟩ | ⟨⟨c1, c2, c3⟩, h2, _, rfl⟩
    · cases h
    · cases h
    · have hcn : k = 3 → cN k v = 0 := fun e => by subst e; simp [cN]
      refine ⟨chk_of _ hfl ?_ ?_ ?_ ⟨?_, ?_, ?_⟩ rfl ?_, hk, hf, n4_bound hv _, z16, z16, z32, z32, n4_bound hv _, z16, z16, gapsAt_in hv _ _, gapsAt_in hv _ _, foursAt_in hv _ _, bs_nil, ps_nil⟩
      · rcases a with rfl | rfl
        · simp [FieldOk, repV, zch, hcn, gapsAt]
        · simp [FieldOk, repV, zch]
      · rintro ⟨h, _⟩; have : k = 0 := h; omega
      · intro h; have : k = 4 ∨ k = 5 := h; omega
      · show (gapsAt v _ _).length ≤ _; rw [gapsAt_len]; exact c1
      · show (gapsAt v _ _).length ≤ _; rw [gapsAt_len]; exact c2
      · show (foursAt v _ _).length ≤ _; rw [foursAt_len]; exact c3
      · show nb k + 4 * ((gapsAt v _ _).length + (gapsAt v _ _).length + (foursAt v _ _).length) + psz [] + 0 ≤ _
        rw [gapsAt_len, gapsAt_len, foursAt_len, psz_nil]
        omega
  rw [if_neg a] at h
  by_cases b : k = 7
  · rw [if_pos b] at h
    subst b
    rcases h with ⟨_, h⟩ | ⟨h1, _, rfl⟩
    · cases h
    · refine ⟨chk_of _ hfl (by simp [FieldOk, zch]) (by simp [zch]) (by simp [zch]) (by simp [zch]) rfl ?_, hk, hf, n4_bound hv _, z16, z16, z32, z32, z32, z16, z16, nums_nil, nums_nil, ds_nil, bs_nil, ps_nil⟩
      simp [vlen, zch, psz_nil, nb]
  rw [if_neg b] at h
  by_cases c : k = 8 ∨ k = 11 ∨ k = 14
  · rw [if_pos c] at h
    rcases h with ⟨_, h⟩ | ⟨h1, _, rfl⟩
    · cases h
    · refine ⟨chk_of _ hfl (by simp [FieldOk, zch]) (by rintro ⟨h, _⟩; have : k = 0 := h; omega) (by intro h; have : k = 4 ∨ k = 5 := h; omega) (by simp [zch]) rfl ?_, hk, hf, z32, z16, z16, z32, z32, z32, z16, z16, nums_nil, nums_nil, ds_nil, bs_nil, ps_nil⟩
      show nb k + 4 * (0 + 0 + 0) + psz [] + 0 ≤ _
      rw [psz_nil]
      omega
  rw [if_neg c] at h
  by_cases d : k = 1 ∨ k = 2
  · rw [if_pos d] at h
    obtain ⟨l, q, cc, o, h⟩ := h
    rcases h with ⟨h1, h2⟩ | ⟨rfl, _, rfl⟩
    · exact absurd h2.symm h1
    · obtain ⟨o1, o2, o3, o4⟩ := Par.Out.list (fun x hx => hv x (List.mem_of_mem_drop hx)) o
      have hpc := pcode_ok o2 o1
      have hz := psz_le_of hpc o3
      rw [List.length_drop] at hz
      have hnb : nb k = 16 := by rcases d with rfl | rfl <;> rfl
      refine ⟨chk_of _ hfl ?_ ?_ ?_ (by simp [zch]) hpc ?_, hk, hf, n4_bound hv _, z16, z16, z32, n4_bound hv _, n4_bound hv _, n2_bound hv _, n2_bound hv _, nums_nil, nums_nil, ds_nil, bs_nil, ps_fit o1⟩
      · rcases d with rfl | rfl <;> simp [FieldOk, zch]
      · rintro ⟨h, _⟩; have : k = 0 := h; omega
      · intro h; have : k = 4 ∨ k = 5 := h; omega
      · show nb k + 4 * (0 + 0 + 0) + psz l + 0 ≤ _
        omega
  rw [if_neg d] at h
  by_cases g : k = 4 ∨ k = 5
  · rw [if_pos g] at h
    obtain ⟨l, q, cc, o, h⟩ := h
    rcases h with ⟨h1, h2⟩ | ⟨_, _, h2⟩ | ⟨rfl, ho, _, rfl⟩
    · exact absurd h2.symm h1
    · cases h2
    · obtain ⟨o1, o2, o3, o4⟩ := Par.Out.list hv o
      have hpc := pcode_ok o2 o1
      have hz := psz_le_of hpc o3
      have hnb : nb k = 0 := by rcases g with rfl | rfl <;> rfl
      refine ⟨chk_of _ hfl ?_ ?_ (fun _ => ho) (by simp [zch]) hpc ?_, hk, hf, z32, z16, z16, z32, z32, z32, z16, z16, nums_nil, nums_nil, ds_nil, bs_nil, ps_fit o1⟩
      · rcases g with rfl | rfl <;> simp [FieldOk, zch]
      · rintro ⟨h, _⟩; have : k = 0 := h; omega
      · show nb k + 4 * (0 + 0 + 0) + psz l + 0 ≤ _
        omega
  rw [if_neg g] at h
  by_cases i : k = 6 ∨ k = 9
  · rw [if_pos i] at h
    obtain ⟨l, q, cc, o, h⟩ := h
    rcases h with ⟨h1, h2⟩ | ⟨rfl, _, rfl⟩
    · exact absurd h2.symm h1
    · obtain ⟨o1, o2, o3, o4⟩ := Par.Out.list hv o
      have hpc := pcode_ok o2 o1
      have hz := psz_le_of hpc o3
      have hnb : nb k = 0 := by rcases i with rfl | rfl <;> rfl
      refine ⟨chk_of _ hfl ?_ ?_ ?_ (by simp [zch]) hpc ?_, hk, hf, z32, z16, z16, z32, z32, z32, z16, z16, nums_nil, nums_nil, ds_nil, bs_nil, ps_fit o1⟩
      · rcases i with rfl | rfl <;> simp [FieldOk, zch]
      · rintro ⟨h, _⟩; have : k = 0 := h; omega
      · intro h; have : k = 4 ∨ k = 5 := h; omega
      · show nb k + 4 * (0 + 0 + 0) + psz l + 0 ≤ _
        omega
  rw [if_neg i] at h
  by_cases j : k = 0
  · rw [if_pos j] at h
    subst j
    have hnb : nb 0 = 12 := rfl
    rcases h with ⟨_, h⟩ | ⟨h1, _, rfl⟩
    · cases h
    · refine ⟨chk_of _ hfl (by simp [FieldOk, zch]) ?_ (by simp [zch]) (by simp [zch]) rfl ?_, hk, hf, n4_bound hv _, n2_bound hv _, n2_bound hv _, n4_bound hv _, z32, z32, z16, z16, nums_nil, nums_nil, ds_nil, (fun x hx => hv x (List.mem_of_mem_drop hx)), ps_nil⟩
      · rintro ⟨_, h⟩
        have h' : v.drop 12 = [] := h
        have := congrArg List.length h'
        rw [List.length_drop] at this
        simp at this
        omega
      · show nb 0 + 4 * (0 + 0 + 0) + psz [] + (v.drop 12).length ≤ _
        rw [psz_nil, List.length_drop]
        omega
  rw [if_neg j] at h
  obtain ⟨_, rfl⟩ := h
  refine ⟨chk_of _ hfl ?_ ?_ ?_ (by simp [zch]) rfl ?_, hk, hf, z32, z16, z16, z32, z32, z32, z16, z16, nums_nil, nums_nil, ds_nil, hv, ps_nil⟩
  · simp only [not_or] at a b c d g i j
    simp [FieldOk, zch, a, b, c, d, g, i, j]
  · rintro ⟨h, _⟩; exact j h
  · intro h; exact absurd h g
  · have hnb : nb k = 0 := by
      simp only [not_or] at a d
      simp [nb, a, b, d, j]
    show nb k + 4 * (0 + 0 + 0) + psz [] + v.length ≤ _
    rw [psz_nil]
    omega
theorem body_len (zs : List Int) (hz : Bytes zs) : (body zs).length ≤ 65531 := by
  have := n2_bound hz 2
  unfold body
  rw [List.length_drop, List.length_take]
  omega
theorem body_bytes {zs : List Int} (hz : Bytes zs) : Bytes (body zs) := fun x hx => hz x (List.mem_of_mem_take (List.mem_of_mem_drop hx))
/-- what is read may be -/
theorem read_ok (zs : List Int) (hz : Bytes zs) (y : Ch) (m : Nat) (h : Dec zs 0 y m) : chk y = 0 ∧ VOk y ∧ 4 ≤ m ∧ m ≤ zs.length := by
  rcases h with ⟨_, h⟩ | ⟨h1, h2, h3⟩
  · cases h
  · have b0 := Par.at_bound zs hz 0
    have b1 := Par.at_bound zs hz 1
    obtain ⟨f1, f2⟩ := flg_ok (zs.getD 0 0) (zs.getD 1 0) b1.1 b1.2
    obtain ⟨r1, r2⟩ := read_fil _ _ _ y b0 f2 f1 (body_bytes hz) (body_len zs hz) h2
    have hm := h3 rfl
    unfold Cut at h1
    have := Par.fill4_le (n2 zs 2).toNat
    exact ⟨r1, r2, by omega, by omega⟩
end Go.Proofs.Ytifdkpifambhaaa.Chu
