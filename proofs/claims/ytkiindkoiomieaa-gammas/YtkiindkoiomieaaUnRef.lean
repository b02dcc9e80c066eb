/-
  P6: the walk of the document's Ungamma.
-/
import Derived.Test.YtkiindkoiomieaaUngamma
namespace Go.Proofs.Ytkiindkoiomieaa
open Go.RowKit

theorem bits_short : ∀ (k acc : Nat) (r : List UInt8), r.length < k → readBits k acc r = none
  | 0, _, _, h => by omega
  | k + 1, acc, [], _ => rfl
  | k + 1, acc, c :: r, h => by
    have h' : r.length < k := by simpa using h
    rw [readBits, bits_short k _ r h', bits_short k _ r h']
    simp

theorem rest_length (s : ByteArray) (p : Nat) : (rest s p).length = s.size - p := by rw [rest, List.length_drop, ← Lib.size_eq]
theorem rest_zero (s : ByteArray) : rest s 0 = s.data.toList := rfl

theorem rest_extract (s : ByteArray) (k : Nat) : (s.extract k s.size).data.toList = rest s k := by
  rw [← Lib.toList_data, extract_list]
  exact List.take_of_length_le (by rw [List.length_drop, ← Lib.size_eq]; exact Nat.le_refl _)

theorem tail_bits {s : ByteArray} {p z : Nat} (h : ∀ hp : p < s.size, s[p].toNat ≠ 48) : readTail z (rest s p) = readBits (z + 1) 0 (rest s p) := by
  by_cases hp : p < s.size
  · have h0 : ¬ s[p] = 48 := fun e => h hp (by rw [e]; rfl)
    rw [rest_cons hp, readTail, readBits, if_neg h0]
  · rw [rest_end hp]
    rfl

theorem one_of {s : ByteArray} {z : Nat} (hz : zerosOf (rest s 0) = z) (h30 : z ≤ 30) (h : ∀ hp : z < s.size, s[z].toNat ≠ 48) : readOne (rest s 0) = fits (readBits (z + 1) 0 (rest s z)) := by
  unfold readOne
  rw [hz, rest_drop, if_neg (by omega), Nat.zero_add, tail_bits h]

set_option maxHeartbeats 2000000 in
set_option maxRecDepth 100000 in
theorem refUngamma_any (s : ByteArray) (w : World) (hm : s.size ≤ 9223372036854775807) :
    Calls Try.prog 15 #[.string s] w fun e w' => ∃ v, e = .returned (.tuple #[v, .int .i64 (uE s)]) ∧ w'.ownsRow w.heap.size 3 1 v (uV s).length ((uV s).map (Value.int .i64)) ∧ Below w.heap.size w w' := by
  by_cases hs : s.size ≤ 6100
  · obtain ⟨i0, hi, hz0, hz1, hz2⟩ := info_parts Try.info3
    have hdec : decide ((6100 : Int) < (s.size : Int)) = false := decide_eq_false (by omega)
    go_enter Try.func15, Try.ntmps15
    go_wp2
    go_loopg [0, 4] s.size (fun g sv v wr => ∃ (sb : ByteArray) (acc : List Int), sv = .string sb ∧ sb.size ≤ g ∧ sb.size ≤ 6100 ∧ acc.length ≤ 100 ∧ wr.ownsRow w.heap.size 3 1 v acc.length (acc.map (Value.int .i64)) ∧ Below w.heap.size w wr ∧ Hid (unL (g + 1) (rest sb 0) acc = uR s))
    case atStart => exact ⟨s, [], rfl, Nat.le_refl _, hs, by simp, World.ownsRow_nil _ _ _ _, Below.refl _ _, rfl⟩
    case round =>
      obtain ⟨sb, acc, rfl, hsg, hsb, hal, hrow, hbx, HU⟩ := hrel
      obtain ⟨ao, cap, rfl⟩ := own_form hrow
      by_cases hpos : 0 < sb.size
      · go_wp2
        go_loop [5] (fun i => ∃ j : Nat, j ≤ sb.size ∧ i = .int .i64 j ∧ Hid (zerosOf (rest sb 0) = j + zerosOf (rest sb j))) (fun i => sb.size - (intOf i).toNat)
        case atStart => exact ⟨0, Nat.zero_le _, rfl, by show _ = _; rw [Nat.zero_add]⟩
        case round =>
          obtain ⟨j, hj, rfl, HZ⟩ := hrel
          by_cases hmore : ∃ hlt : j < sb.size, sb[j].toNat = 48
          · obtain ⟨hlt, h48⟩ := hmore
            have hb : ((sb[j].toNat : Int) == 48) = true := by rw [beq_iff_eq]; omega
            have hz := zeros_go hlt h48
            have HZ2 := hide hz
            clear hz h48
            go_wp2
            go_round
            case rel => exact ⟨j + 1, by omega, by go_num, by show _ = _; rw [HZ.out, HZ2.out]; omega⟩
            case measure => simp [intOf]; omega
          · have hno : ∀ hp : j < sb.size, sb[j].toNat ≠ 48 := fun hp e => hmore ⟨hp, e⟩
            have hzj : zerosOf (rest sb 0) = j := by rw [HZ.out, zeros_end hno]; rfl
            have HZJ := hide hzj
            have HNO := hide hno
            clear hzj hno hmore
            by_cases hbad : sb.size < 2 * j + 1 ∨ 30 < j
            · have hnone : readOne (rest sb 0) = none := by
                by_cases h30 : 30 < j
                · unfold readOne
                  rw [if_pos (by rw [HZJ.out]; exact h30)]
                · rw [one_of HZJ.out (by omega) HNO.out, bits_short _ _ _ (by rw [rest_length]; omega)]
                  rfl
              have hU2 := HU.out
              rw [un_none hpos hnone] at hU2
              have HF := hide (u_none hs hU2.symm)
              clear hnone hU2
              by_cases hlt : j < sb.size
              · have hb : ((sb[j].toNat : Int) == 48) = false := by rw [beq_eq_false_iff_ne]; have := HNO.out hlt; omega
                go_wp2
                all_goals
                  go_ret2
                  refine ⟨_, ret_un HF.out.1.symm, ?_, hbx⟩
                  rw [HF.out.2]
                  exact World.ownsRow_nil _ _ _ _
              · go_wp2
                all_goals
                  go_ret2
                  refine ⟨_, ret_un HF.out.1.symm, ?_, hbx⟩
                  rw [HF.out.2]
                  exact World.ownsRow_nil _ _ _ _
            · have hlt : j < sb.size := by omega
              have hb : ((sb[j].toNat : Int) == 48) = false := by rw [beq_eq_false_iff_ne]; have := HNO.out hlt; omega
              have h1 : 2 * j + 1 ≤ sb.size := by omega
              have h2 : j ≤ 30 := by omega
              have HONE := hide (one_of HZJ.out h2 HNO.out)
              clear hbad
              go_wp2
              go_loop [6, 7] (fun nv i => ∃ q n : Nat, q ≤ j + 1 ∧ i = .int .i64 ((j + q : Nat) : Int) ∧ nv = .int .i64 n ∧ n ≤ 2147483647 ∧ Hid (n < 2 ^ q) ∧ (0 < q → 1 ≤ n) ∧ Hid (readBits (j + 1) 0 (rest sb j) = readBits (j + 1 - q) n (rest sb (j + q)))) (fun _ i => 2 * j + 1 - (intOf i).toNat)
              case atStart => exact ⟨0, 0, Nat.zero_le _, rfl, rfl, by omega, by show _ < _; decide, fun h => by omega, rfl⟩
              case round =>
                obtain ⟨q, n, hq, rfl, rfl, hn, HN, hn1, HB⟩ := hrel
                have HN1 := hide hn1
                clear hn1
                by_cases hqj : q < j + 1
                · have hlt2 : j + q < sb.size := by omega
                  have key : ∀ x, x < 2 → 2 * n + x < 2 ^ (q + 1) ∧ 2 * n + x ≤ 2147483647 := fun x hx => by
                    have g1 := HN.out
                    have g2 : (2 : Nat) ^ (q + 1) ≤ 2 ^ 31 := Nat.pow_le_pow_right (by omega) (by omega)
                    have g3 : (2 : Nat) ^ 31 = 2147483648 := by decide
                    have g4 : (2 : Nat) ^ (q + 1) = 2 * 2 ^ q := by rw [Nat.pow_succ, Nat.mul_comm]
                    omega
                  have HK := hide key
                  clear key
                  have hwi : j + q < 2 * j + 1 := by omega
                  by_cases hbit : ∃ x, x < 2 ∧ sb[j + q].toNat = 48 + x
                  · obtain ⟨x, hx, hc⟩ := hbit
                    have hx1 : q = 0 → x = 1 := fun h0 => by
                      subst h0
                      have := HNO.out hlt
                      simp only [Nat.add_zero] at hc
                      omega
                    have HX1 := hide hx1
                    have hkb := HK.out x hx
                    have hrb := bits_go (k := j + 1 - q - 1) (acc := n) hlt2 hx hc
                    have HB2 := hide hrb
                    have hcI : (sb[j + q].toNat : Int) = 48 + (x : Int) := by omega
                    have t2 : IntKind.u8.wrap ((sb[j + q].toNat : Int) - 48) = (x : Int) := by rw [hcI, show (48 : Int) + x - 48 = x by omega]; exact IntWalk.u8_in _ (by omega)
                    have HKB := hide hkb.1
                    have hkb2 := hkb.2
                    clear hrb hx1 hkb
                    rcases (show x = 0 ∨ x = 1 by omega) with rfl | rfl
                    · have t0 : ((sb[j + q].toNat : Int) != 48) = false := by rw [hcI]; rfl
                      clear hc hcI
                      go_wp2
                      go_round
                      case rel =>
                        refine ⟨q + 1, 2 * n + 0, by omega, by go_num, by go_num, hkb2, HKB.out, fun _ => ?_, ?_⟩
                        · by_cases h0 : q = 0
                          · have := HX1.out h0
                            omega
                          · have := HN1.out (by omega)
                            omega
                        · show _ = _
                          rw [HB.out, show j + 1 - q = j + 1 - q - 1 + 1 by omega, HB2.out, show j + 1 - (q + 1) = j + 1 - q - 1 by omega, ← Nat.add_assoc]
                      case measure => simp [intOf]; omega
                    · have t0 : ((sb[j + q].toNat : Int) != 48) = true := by rw [hcI]; rfl
                      have t1 : ((sb[j + q].toNat : Int) != 49) = false := by rw [hcI]; rfl
                      clear hc hcI
                      go_wp2
                      go_round
                      case rel =>
                        refine ⟨q + 1, 2 * n + 1, by omega, by go_num, by go_num, hkb2, HKB.out, fun _ => ?_, ?_⟩
                        · by_cases h0 : q = 0
                          · have := HX1.out h0
                            omega
                          · have := HN1.out (by omega)
                            omega
                        · show _ = _
                          rw [HB.out, show j + 1 - q = j + 1 - q - 1 + 1 by omega, HB2.out, show j + 1 - (q + 1) = j + 1 - q - 1 by omega, ← Nat.add_assoc]
                      case measure => simp [intOf]; omega
                  · have hno2 : ∀ hp : j + q < sb.size, sb[j + q].toNat ≠ 48 ∧ sb[j + q].toNat ≠ 49 := fun hp =>
                      ⟨fun e => hbit ⟨0, by omega, e⟩, fun e => hbit ⟨1, by omega, e⟩⟩
                    have hnone : readOne (rest sb 0) = none := by
                      rw [HONE.out, HB.out, show j + 1 - q = j + 1 - q - 1 + 1 by omega, bits_no hno2]
                      rfl
                    have hU2 := HU.out
                    rw [un_none hpos hnone] at hU2
                    have HF := hide (u_none hs hU2.symm)
                    have t0 : ((sb[j + q].toNat : Int) != 48) = true := by rw [bne_iff_ne]; have := hno2 hlt2; omega
                    have t1 : ((sb[j + q].toNat : Int) != 49) = true := by rw [bne_iff_ne]; have := hno2 hlt2; omega
                    clear hno2 hnone hU2 hbit
                    go_wp2
                    go_ret2
                    refine ⟨_, ret_un HF.out.1.symm, ?_, hbx⟩
                    rw [HF.out.2]
                    exact World.ownsRow_nil _ _ _ _
                · have hqe : q = j + 1 := by omega
                  have hfin : readOne (rest sb 0) = fits (some (n, rest sb (2 * j + 1))) := by
                    rw [HONE.out, HB.out, hqe, Nat.sub_self, show j + (j + 1) = 2 * j + 1 by omega]
                    rfl
                  have hn2 := HN1.out (by omega)
                  have HFIN := hide hfin
                  have hqd : decide (((j + q : Nat) : Int) < 2 * (j : Int) + 1) = false := decide_eq_false (by omega)
                  clear hfin hqe
                  by_cases hmax : n ≤ 1073741824
                  · have hread : readOne (rest sb 0) = some (n, rest sb (2 * j + 1)) := by rw [HFIN.out, fits, if_pos hmax]
                    have HRD := hide hread
                    clear hread
                    by_cases hfull : acc.length = 100
                    · have hU2 := HU.out
                      rw [un_full hpos HRD.out hfull] at hU2
                      have HF := hide (u_none hs hU2.symm)
                      have hge : (100 : Int) ≤ (acc.length : Int) := by omega
                      clear hU2 hfull
                      go_wp2
                      all_goals
                        go_ret2
                        refine ⟨_, ret_un HF.out.1.symm, ?_, hbx⟩
                        rw [HF.out.2]
                        exact World.ownsRow_nil _ _ _ _
                    · obtain ⟨g1, rfl⟩ : ∃ g1, gk = g1 + 1 := ⟨gk - 1, by omega⟩
                      have hU2 := HU.out
                      rw [un_go hpos HRD.out hfull, ← rest_extract, ← rest_zero] at hU2
                      have HU2 := hide hU2
                      have hlt3 : (acc.length : Int) < 100 := by omega
                      clear hU2 hfull
                      go_wp2_with (at_builtin; refine wpList_append_own _ rfl _ _ 24 rfl w.heap.size 3 i0 (.int .i64 0) 1 8 Try.underlying24 hi hz0 hz1 hz2 rfl (by decide) _ _ _ rfl (hrow.alloc _) ⟨wr.heap.size, 0, none⟩ 1 1 [.int .i64 n] rfl rfl (cell_one_new _ _ _) (fun x hx => by simp at hx; subst hx; rfl) (by unfold maxLen; omega) (by omega) (by have := hbx.size; simp; omega) ?_; intro v' w3 hown' hgrow3 hnil3)
                      go_roundg g1
                      case measure => omega
                      case rel =>
                        refine ⟨sb.extract (2 * j + 1) sb.size, acc ++ [(n : Int)], ?_, by rw [ByteArray.size_extract]; omega, by rw [ByteArray.size_extract]; omega, by simp; omega, ?_, (hbx.alloc hbx.size _).grown hgrow3 (by have := hbx.size; simp; omega) (fun i hi => (hrow.lt i hi).1), HU2⟩
                        · first | rfl | simp
                        · rw [List.map_append, List.length_append]
                          exact hown'
                  · have hnone : readOne (rest sb 0) = none := by rw [HFIN.out, fits, if_neg hmax]
                    have hU2 := HU.out
                    rw [un_none hpos hnone] at hU2
                    have HF := hide (u_none hs hU2.symm)
                    clear hnone hU2
                    go_wp2
                    all_goals
                      go_ret2
                      refine ⟨_, ret_un HF.out.1.symm, ?_, hbx⟩
                      rw [HF.out.2]
                      exact World.ownsRow_nil _ _ _ _
      · have hU2 := HU.out
        rw [un_end hpos] at hU2
        have HF := hide (u_some hs hU2.symm)
        clear hU2
        go_wp2
        go_ret2
        refine ⟨_, ret_un HF.out.1.symm, ?_, hbx⟩
        rw [HF.out.2]
        exact hrow
  · have H := hide (u_long (s := s) (by omega))
    go_enter Try.func15, Try.ntmps15
    go_wp2
    go_ret2
    refine ⟨_, ret_un H.out.1.symm, ?_, Below.refl _ _⟩
    rw [H.out.2]
    exact World.ownsRow_nil _ _ _ _
end Go.Proofs.Ytkiindkoiomieaa
