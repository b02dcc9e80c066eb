/-
  P6: the walks of the document's bits and Gamma, of copied and sameInts.
-/
import Derived.Test.YtkiindkoiomieaaGamma
namespace Go.Proofs.Ytkiindkoiomieaa
open Go.RowKit

theorem cat_list (a b : ByteArray) : (a ++ b).data.toList = a.data.toList ++ b.data.toList := by
  rw [ByteArray.data_append, Array.toList_append]

theorem ret_bytes {a : ByteArray} {l : List UInt8} (h : a.data.toList = l) : Ending.returned (.string a) = .returned (.string ⟨l.toArray⟩) := by
  rw [← h]

theorem low_next (j n : Nat) : lowB (j + 1) n = UInt8.ofNat (48 + n / 2 ^ j % 2) :: lowB j n := rfl

theorem div_step (n j : Nat) : n / 2 ^ j / 2 = n / 2 ^ (j + 1) := by rw [Nat.div_div_eq_div_mul, Nat.pow_succ]

set_option maxHeartbeats 1000000 in
set_option maxRecDepth 100000 in
theorem bits_any (n : Nat) (w : World) (h1 : 1 ≤ n) (h2 : n ≤ 1073741824) :
    Calls Try.prog 29 #[.int .i64 n] w fun e w' => e = .returned (.string ⟨(gammaOne n).toArray⟩) ∧ w' = w := by
  obtain ⟨hd1, hd2, hd3, hd4⟩ := dig_bounds h1 h2
  obtain ⟨d, hd⟩ : ∃ d, d = dig n := ⟨_, rfl⟩
  rw [← hd] at hd1 hd2 hd3 hd4
  have HD := hide hd
  have H34 := hide (And.intro hd3 hd4)
  clear hd hd3 hd4
  go_enter Try.func29, Try.ntmps29
  go_wp2
  go_loop [3, 4] (fun sv mv => ∃ (j m : Nat) (sb : ByteArray), j ≤ d ∧ mv = .int .i64 m ∧ sv = .string sb ∧ sb.size = j ∧ m ≤ 1073741824 ∧ Hid (m = n / 2 ^ j) ∧ Hid (sb.data.toList = lowB j n)) (fun _ mv => (intOf mv).toNat)
  case atStart => exact ⟨0, n, ⟨#[]⟩, Nat.zero_le _, rfl, rfl, rfl, h2, by show _ = _; simp, rfl⟩
  case round =>
    obtain ⟨j, m, sb, hj, rfl, rfl, hsj, hm, HM, HS⟩ := hrel
    by_cases hm0 : 0 < m
    · have hjd : j < d := by
        by_cases h : j < d
        · exact h
        · have : j = d := by omega
          subst this
          rw [HM.out, Nat.div_eq_of_lt H34.out.2] at hm0
          omega
      have hst : m / 2 = n / 2 ^ (j + 1) := by rw [HM.out, div_step]
      have HST := hide hst
      clear hst
      by_cases hodd : m % 2 = 1
      · have hb : ((m : Int) % 2 == 1) = true := by rw [beq_iff_eq]; omega
        have hr : (m : Int).tmod 2 = 1 := by rw [Int.tmod_eq_emod_of_nonneg (by omega)]; omega
        go_wp2
        go_round
        case rel =>
          refine ⟨j + 1, m / 2, ⟨#[49]⟩ ++ sb, by omega, by go_num, rfl, ?_, by omega, HST, ?_⟩
          · rw [ByteArray.size_append]
            show 1 + sb.size = j + 1
            omega
          · show _ = _
            rw [cat_list, low_next, ← HM.out, hodd, HS.out]
            rfl
        case measure => simp [intOf]; omega
      · have hb : ((m : Int) % 2 == 1) = false := by rw [beq_eq_false_iff_ne]; omega
        have hr : (m : Int).tmod 2 = 0 := by rw [Int.tmod_eq_emod_of_nonneg (by omega)]; omega
        go_wp2
        go_round
        case rel =>
          refine ⟨j + 1, m / 2, ⟨#[48]⟩ ++ sb, by omega, by go_num, rfl, ?_, by omega, HST, ?_⟩
          · rw [ByteArray.size_append]
            show 1 + sb.size = j + 1
            omega
          · show _ = _
            rw [cat_list, low_next, ← HM.out, show m % 2 = 0 by omega, HS.out]
            rfl
        case measure => simp [intOf]; omega
    · have hjd : j = d := by
        by_cases h : j < d
        · have h3 : 2 ^ j ≤ n := Nat.le_trans (Nat.pow_le_pow_right (by omega) (by omega)) H34.out.1
          have h4 : 0 < n / 2 ^ j := Nat.div_pos h3 (Nat.two_pow_pos j)
          have := HM.out
          omega
        · omega
      subst hjd
      go_wp2
      go_loop [5, 6] (fun zv iv => ∃ (q : Nat) (zb : ByteArray), 1 ≤ q ∧ q ≤ j ∧ iv = .int .i64 q ∧ zv = .string zb ∧ zb.size = q - 1 ∧ Hid (zb.data.toList = List.replicate (q - 1) 48)) (fun _ iv => j - (intOf iv).toNat)
      case atStart => exact ⟨1, ⟨#[]⟩, by omega, by omega, rfl, rfl, rfl, rfl⟩
      case round =>
        obtain ⟨q, zb, hq1, hq2, rfl, rfl, hzs, HZ⟩ := hrel
        by_cases hqd : q < j
        · go_wp2
          go_round
          case rel =>
            refine ⟨q + 1, zb ++ ⟨#[48]⟩, by omega, by omega, by go_num, rfl, ?_, ?_⟩
            · rw [ByteArray.size_append]
              show zb.size + 1 = q + 1 - 1
              omega
            · show _ = _
              rw [cat_list, HZ.out, show q + 1 - 1 = q - 1 + 1 by omega, List.replicate_succ']
          case measure => simp [intOf]; omega
        · have hqe : q = j := by omega
          subst hqe
          go_wp2
          go_ret
          refine ⟨ret_bytes ?_, rfl⟩
          rw [cat_list, HZ.out, HS.out, gammaOne, ← HD.out]

theorem ret_gamma_bytes {zs : List Int} {a : ByteArray} {c : Int} (h1 : gS zs = a.data.toList) (h2 : gE zs = c) : Ending.returned (.tuple #[.string a, .int .i64 c]) = .returned (.tuple #[.string ⟨(gS zs).toArray⟩, .int .i64 (gE zs)]) := by rw [h1, h2]

set_option maxHeartbeats 1000000 in
set_option maxRecDepth 100000 in
theorem refGamma_any (ao : Option Addr) (len cap : Nat) (zs : List Int) (lb lo : Nat) (w : World) (hz : zs.length = len) (hm : len ≤ 9223372036854775807)
    (hao : 0 < len → ao = some ⟨lb, lo, none⟩ ∧ lb < w.heap.size) (hc : ∀ j z, zs[j]? = some z → w.cell? ⟨lb, lo + j, none⟩ = some (.int .i64 z)) :
    Calls Try.prog 12 #[.slice ao len cap] w fun e w' => e = .returned (.tuple #[.string ⟨(gS zs).toArray⟩, .int .i64 (gE zs)]) ∧ w' = w := by
  by_cases h100 : len ≤ 100
  · have HC := hide hc
    have HA := hide hao
    have HZ := hide hz
    clear hc hao hz
    go_enter Try.func12, Try.ntmps12
    go_wp2
    go_loop [4, 5] (fun sv i => ∃ (k : Nat) (sb : ByteArray), k ≤ len ∧ i = .int .i64 k ∧ sv = .string sb ∧ sb.size ≤ 6100 ∧ Hid (∀ z ∈ zs.take k, goodB z = true) ∧ Hid (sb.data.toList = gammaL (zs.take k))) (fun _ i => len - (intOf i).toNat)
    case atStart => exact ⟨0, ⟨#[]⟩, Nat.zero_le _, rfl, rfl, Nat.zero_le _, by intro z hz; simp at hz, rfl⟩
    case round =>
      obtain ⟨k, sb, hk, rfl, rfl, hsb, HG, HS⟩ := hrel
      by_cases hlt : k < len
      · obtain ⟨z, hzk⟩ : ∃ z, zs[k]? = some z := ⟨_, List.getElem?_eq_getElem (by rw [HZ.out]; exact hlt)⟩
        obtain ⟨rfl, hlb⟩ := HA.out (by omega)
        have hcell := HC.out k z hzk
        have HK := hide hzk
        clear hzk
        by_cases hz1 : z < 1
        · have hall : Hid (gS zs = [] ∧ gE zs = 2) := gamma_bad (by rw [HZ.out]; exact h100) HK.out (by omega)
          go_wp2
          go_ret2
          exact ⟨ret_gamma hall.out.1 hall.out.2, rfl⟩
        · by_cases hz2 : 1073741824 < z
          · have hall : Hid (gS zs = [] ∧ gE zs = 2) := gamma_bad (by rw [HZ.out]; exact h100) HK.out (by omega)
            go_wp2
            go_ret2
            exact ⟨ret_gamma hall.out.1 hall.out.2, rfl⟩
          · obtain ⟨n, hn⟩ : ∃ n : Nat, z = (n : Int) := ⟨z.toNat, by omega⟩
            subst hn
            obtain ⟨xb, hxb⟩ : ∃ xb : ByteArray, xb = ⟨(gammaOne n).toArray⟩ := ⟨_, rfl⟩
            have cB := bits_any n w (by omega) (by omega)
            rw [← hxb] at cB
            have CB := hide cB
            have hxl : xb.data.toList = gammaOne n := by rw [hxb]
            have hxs : xb.size ≤ 61 := by
              rw [Lib.size_eq, hxl]
              exact gammaOne_length (by omega) (by omega)
            have hnext := good_next HG.out HK.out (by omega)
            have hsum : gammaL (zs.take (k + 1)) = gammaL (zs.take k) ++ gammaOne n := by
              rw [List.take_add_one, HK.out]
              exact gammaL_snoc _ _
            have hlen : (sb ++ xb).size ≤ 6100 := by
              rw [Lib.size_eq, cat_list, HS.out, hxl, ← hsum]
              have h1 := gammaL_length (zs.take (k + 1)) fun y hy => (good_iff y).1 (hnext y hy)
              have h2 : (zs.take (k + 1)).length ≤ 100 := by simp; omega
              omega
            have HX := hide (And.intro hxl (And.intro hnext (And.intro hsum hlen)))
            clear cB hxl hnext hsum hlen hxb
            go_wp2_with (go_at_call 29; refine (unhide CB).mono ?_; rintro e w' ⟨rfl, rfl⟩)
            go_round
            case rel => exact ⟨k + 1, sb ++ xb, by omega, by go_num, rfl, HX.out.2.2.2, HX.out.2.1, by show _ = _; rw [cat_list, HS.out, HX.out.1, HX.out.2.2.1]⟩
            case measure => simp [intOf]; omega
      · have hall : Hid (gS zs = gammaL zs ∧ gE zs = 0 ∧ ∀ z ∈ zs, 1 ≤ z ∧ z ≤ 1073741824) := by
          have h1 := HG.out
          rw [List.take_of_length_le (by rw [HZ.out]; omega)] at h1
          exact gamma_good (by rw [HZ.out]; exact h100) h1
        go_wp2
        go_ret2
        refine ⟨ret_gamma_bytes ?_ hall.out.2.1, rfl⟩
        rw [hall.out.1, HS.out, List.take_of_length_le (by rw [HZ.out]; omega)]
  · have h2 : gE zs = 1 := by unfold gE; rw [if_pos (by omega)]
    have h1 : gS zs = [] := by unfold gS; rw [if_pos (by omega)]
    have H := hide (And.intro h1 h2)
    clear h1 h2 hc hao hz
    go_enter Try.func12, Try.ntmps12
    go_wp2
    go_ret2
    exact ⟨ret_gamma H.out.1 H.out.2, rfl⟩

theorem Try.info3 : (Try.prog.info? 3).map (fun i => (i.zero, i.size, i.bytes)) = some (some (.int .i64 0), 1, 8) := by kernel_rfl

set_option maxHeartbeats 1000000 in
set_option maxRecDepth 100000 in
theorem copied_any (ao : Option Addr) (len cap : Nat) (zs : List Int) (lb lo : Nat) (w : World) (hz : zs.length = len) (hm : len * 8 ≤ 140737488351232)
    (hao : 0 < len → ao = some ⟨lb, lo, none⟩ ∧ lb < w.heap.size) (hc : ∀ j z, zs[j]? = some z → w.cell? ⟨lb, lo + j, none⟩ = some (.int .i64 z)) :
    Calls Try.prog 10 #[.slice ao len cap] w fun e w' => ∃ v, e = .returned v ∧ w'.ownsRow w.heap.size 3 1 v len (zs.map (Value.int .i64)) ∧ Below w.heap.size w w' := by
  obtain ⟨i0, hi, hz0, hz1, hz2⟩ := info_parts Try.info3
  have HC := hide hc
  have HA := hide hao
  have HZ := hide hz
  clear hc hao hz
  go_enter Try.func10, Try.ntmps10
  go_wp2
  go_loopw [3, 4] (fun v i wr => ∃ k : Nat, k ≤ len ∧ i = .int .i64 k ∧ wr.ownsRow w.heap.size 3 1 v k ((zs.take k).map (Value.int .i64)) ∧ Below w.heap.size w wr) (fun _ i _ => len - (intOf i).toNat)
  case atStart => exact ⟨0, Nat.zero_le _, rfl, World.ownsRow_nil _ _ _ _, Below.refl _ _⟩
  case round =>
    obtain ⟨k, hk, rfl, hrow, hbx⟩ := hrel
    by_cases hlt : k < len
    · obtain ⟨z, hzk⟩ : ∃ z, zs[k]? = some z := ⟨_, List.getElem?_eq_getElem (by rw [HZ.out]; exact hlt)⟩
      obtain ⟨rfl, hlb⟩ := HA.out (by omega)
      have hcell : wr.cell? ⟨lb, lo + k, none⟩ = some (.int .i64 z) := (hbx.cell (p := ⟨lb, lo + k, none⟩) hlb).trans (HC.out k z hzk)
      have HK := hide hzk
      clear hzk
      go_wp2_with (at_builtin; refine wpList_append_own _ rfl _ _ 24 rfl w.heap.size 3 i0 (.int .i64 0) 1 8 Try.underlying24 hi hz0 hz1 hz2 rfl (by decide) _ _ _ rfl (hrow.alloc _) ⟨wr.heap.size, 0, none⟩ 1 1 [.int .i64 z] rfl rfl (cell_one_new _ _ _) (fun x hx => by simp at hx; subst hx; rfl) (by unfold maxLen; omega) (by omega) (by have := hbx.size; simp; omega) ?_; intro v' w3 hown' hgrow3 hnil3)
      go_roundw
      case rel =>
        refine ⟨k + 1, by omega, by go_num, ?_, (hbx.alloc hbx.size _).grown hgrow3 (by have := hbx.size; simp; omega) (fun j hj => (hrow.lt j hj).1)⟩
        have e1 : zs.take (k + 1) = zs.take k ++ [z] := by rw [List.take_add_one, HK.out]; rfl
        rw [e1, List.map_append]
        exact hown'
      case measure => simp [intOf]; omega
    · have hke : k = len := by omega
      subst hke
      go_wp2
      go_ret
      rw [List.take_of_length_le (by rw [HZ.out]; exact Nat.le_refl _)] at hrow
      exact ⟨_, rfl, hrow, hbx⟩

set_option maxHeartbeats 1000000 in
set_option maxRecDepth 100000 in
theorem same_any (ao bo : Option Addr) (len c1 c2 : Nat) (zs : List Int) (lb lo mb mo : Nat) (w : World) (hz : zs.length = len) (hm : len ≤ 9223372036854775807)
    (hao : 0 < len → ao = some ⟨lb, lo, none⟩ ∧ bo = some ⟨mb, mo, none⟩) (hc : ∀ j z, zs[j]? = some z → w.cell? ⟨lb, lo + j, none⟩ = some (.int .i64 z) ∧ w.cell? ⟨mb, mo + j, none⟩ = some (.int .i64 z)) :
    Calls Try.prog 13 #[.slice ao len c1, .slice bo len c2] w fun e w' => e = .returned (.bool true) ∧ ∃ n, w' = w.drewN n := by
  have HC := hide hc
  have HA := hide hao
  have HZ := hide hz
  have hne : ((len : Int) != (len : Int)) = false := by simp
  clear hc hao hz
  go_enter Try.func13, Try.ntmps13
  go_wp2
  go_loopw [5] (fun i wr => ∃ k n : Nat, k ≤ len ∧ i = .int .i64 k ∧ wr = w.drewN n) (fun i _ => len - (intOf i).toNat)
  case atStart => exact ⟨0, 0, Nat.zero_le _, rfl, rfl⟩
  case round =>
    obtain ⟨k, n, hk, rfl, rfl⟩ := hrel
    by_cases hlt : k < len
    · obtain ⟨z, hzk⟩ : ∃ z, zs[k]? = some z := ⟨_, List.getElem?_eq_getElem (by rw [HZ.out]; exact hlt)⟩
      obtain ⟨rfl, rfl⟩ := HA.out (by omega)
      obtain ⟨hc1, hc2⟩ := HC.out k z hzk
      have hzz : (z != z) = false := by simp
      clear hzk
      go_wp2_with fail
      go_quiet (fail)
      go_wp2
      go_roundw
      case rel => exact ⟨k + 1, _, by omega, by go_num, rfl⟩
      case measure => simp [intOf]; omega
    · go_wp2
      go_ret
      exact ⟨rfl, _, rfl⟩
end Go.Proofs.Ytkiindkoiomieaa
