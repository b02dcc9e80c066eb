/-
  P4: the walks of twineref's Lyndon and factors.
-/
import Derived.Test.YtkiindkoiomieaaCutWords
import Derived.Test.YtkiindkoiomieaaTurnMath
namespace Go.Proofs.Ytkiindkoiomieaa
open Go.RowKit

theorem drop_list (s : ByteArray) (k : Nat) : (s.extract k s.size).toList = s.data.toList.drop k := by
  rw [extract_list]
  apply List.take_of_length_le
  rw [List.length_drop, ← Lib.size_eq]
  exact Nat.le_refl _

set_option maxHeartbeats 400000 in
theorem lyndon_false (s : ByteArray) (w : World) (hs : s.size ≤ 300) (hw : ¬ Duv.Word s.data.toList) :
    Calls Try.prog 33 #[.string s] w fun e w' => e = .returned (.bool false) ∧ w' = w := by
  by_cases h0 : 0 < s.size
  · have HW := hide hw
    clear hw
    go_enter Try.func33, Try.ntmps33
    go_wp2
    go_loop [3] (fun i => ∃ k : Nat, 1 ≤ k ∧ k ≤ s.size ∧ i = .int .i64 k ∧ Hid (∀ j, 0 < j → j < k → Op.bytesLess (s.data.toList.drop j) s.data.toList = false ∧ s.data.toList.drop j ≠ s.data.toList)) (fun i => s.size - (intOf i).toNat)
    case atStart => exact ⟨1, by omega, by omega, rfl, fun j h1 h2 => by omega⟩
    case round =>
      obtain ⟨k, h1, hk, rfl, HK⟩ := hrel
      by_cases hlt : k < s.size
      · cases hb1 : Op.bytesLess (s.data.toList.drop k) s.data.toList with
        | true =>
          have g1 : Op.bytesLess (s.extract k s.size).toList s.toList = true := by rw [drop_list, Lib.toList_data]; exact hb1
          clear hb1
          go_wp2
          go_ret
          exact ⟨rfl, rfl⟩
        | false =>
          have g1 : Op.bytesLess (s.extract k s.size).toList s.toList = false := by rw [drop_list, Lib.toList_data]; exact hb1
          have g2 : ((s.extract k s.size).toList == s.toList) = false := by
            rw [drop_list, Lib.toList_data]
            have : s.data.toList.drop k ≠ s.data.toList := fun e => by
              have := congrArg List.length e
              rw [List.length_drop, ← Lib.size_eq] at this
              omega
            simpa using this
          have HB := hide hb1
          clear hb1
          go_wp2
          go_round
          case rel =>
            refine ⟨k + 1, by omega, by omega, by go_num, hide fun j hj1 hj2 => ?_⟩
            by_cases hjk : j = k
            · subst hjk
              refine ⟨HB.out, fun e => ?_⟩
              have := congrArg List.length e
              rw [List.length_drop, ← Lib.size_eq] at this
              omega
            · exact HK.out j hj1 (by omega)
          case measure => simp [intOf]; omega
      · exact absurd ⟨by rw [← Lib.size_eq]; exact h0, fun j hj1 hj2 => HK.out j hj1 (by rw [← Lib.size_eq] at hj2; omega)⟩ HW.out
  · have h1 : s.size = 0 := by omega
    go_enter Try.func33, Try.ntmps33
    go_wp2
    go_ret
    exact ⟨rfl, rfl⟩

theorem lyndon_any (s : ByteArray) (w : World) (hs : s.size ≤ 300) (b : Bool) (hb : b = true ↔ Duv.Word s.data.toList) :
    Calls Try.prog 33 #[.string s] w fun e w' => e = .returned (.bool b) ∧ w' = w := by
  cases b with
  | true => exact lyndon_true s w hs (hb.1 rfl)
  | false => exact lyndon_false s w hs (fun h => by cases hb.2 h)

theorem take_data (s : ByteArray) (k : Nat) : (s.extract 0 k).data.toList = s.data.toList.take k := by
  rw [← Lib.toList_data, extract_list, List.drop_zero, Nat.sub_zero]

theorem drop_data (s : ByteArray) (k : Nat) : (s.extract k s.size).data.toList = s.data.toList.drop k := by
  rw [← Lib.toList_data, drop_list]

theorem str_take (s : ByteArray) (k : Nat) : Value.string (s.extract 0 k) = strV (s.data.toList.take k) := by
  unfold strV
  rw [← take_data]

set_option maxHeartbeats 1000000 in
theorem factors_any (s : ByteArray) (w : World) (hs : s.size ≤ 300) (ws : List (List UInt8)) (hg : Duv.Good ws) (hf : ws.flatten = s.data.toList) :
    Calls Try.prog 36 #[.string s] w fun e w' => ∃ v, e = .returned v ∧ w'.ownsRow w.heap.size 9 1 v ws.length (ws.map strV) ∧ Below w.heap.size w w' := by
  obtain ⟨i0, hi, hz0, hz1, hz2⟩ := info_parts Try.info9
  have hfew : ws.length ≤ 300 := by
    have := good_few hg
    rw [hf, ← Lib.size_eq] at this
    omega
  have HG := hide hg
  have HF := hide hf
  clear hg hf
  go_enter Try.func36, Try.ntmps36
  go_wp2
  go_loopw [0, 3] (fun sv v wr => ∃ (C : ByteArray) (us vs : List (List UInt8)), sv = .string C ∧ C.size ≤ 300 ∧ Hid (C.data.toList = vs.flatten) ∧ Hid (ws = us ++ vs) ∧ Hid (Duv.Good vs) ∧ us.length + vs.length = ws.length ∧ wr.ownsRow w.heap.size 9 1 v us.length (us.map strV) ∧ Below w.heap.size w wr) (fun sv _ _ => (match sv with | .string C => C.size | _ => 0))
  case atStart => exact ⟨s, [], ws, rfl, hs, hide HF.out.symm, hide rfl, HG, by simp, World.ownsRow_nil _ _ _ _, Below.refl _ _⟩
  case round =>
    obtain ⟨C, us, vs, rfl, hC, HCd, HW, HV, hlen, hrow, hbx⟩ := hrel
    by_cases h0 : 0 < C.size
    · cases vs with
      | nil =>
        have h2 := congrArg List.length HCd.out
        rw [← Lib.size_eq, List.flatten_nil, List.length_nil] at h2
        omega
      | cons v1 vs =>
        obtain ⟨L, hL⟩ : ∃ L, L = v1.length := ⟨_, rfl⟩
        have hL1 : 1 ≤ L := by rw [hL]; exact (HV.out.1 v1 (by simp)).1
        have hLC : L ≤ C.size := by
          rw [Lib.size_eq, HCd.out, List.flatten_cons, List.length_append, hL]
          omega
        have HL := hide hL
        clear hL
        go_wp2
        go_loop [4, 5] (fun nv iv => ∃ n k : Nat, nv = .int .i64 n ∧ iv = .int .i64 k ∧ 1 ≤ n ∧ n ≤ C.size ∧ 2 ≤ k ∧ k ≤ C.size + 1 ∧ (L < k → n = L)) (fun _ iv => C.size + 1 - (intOf iv).toNat)
        case atStart => exact ⟨1, 2, rfl, rfl, by omega, by omega, by omega, by omega, by omega⟩
        case round =>
          obtain ⟨n, k, rfl, rfl, hn1, hn2, hk1, hk2, hkL⟩ := hrel
          by_cases hk : k ≤ C.size
          · obtain ⟨b, hb⟩ : ∃ b : Bool, b = true ↔ Duv.Word (C.extract 0 k).data.toList := by
              by_cases h : Duv.Word (C.extract 0 k).data.toList
              · exact ⟨true, fun _ => h, fun _ => rfl⟩
              · exact ⟨false, fun e => (Bool.false_ne_true e).elim, fun h' => absurd h' h⟩
            have hsz : (C.extract 0 k).size ≤ 300 := by rw [ByteArray.size_extract]; omega
            have hbk : k = L → b = true := fun e => by
              rw [hb, take_data, HCd.out, e, HL.out]
              simp only [List.flatten_cons, List.take_left']
              exact HV.out.1 v1 (by simp)
            have hbl : L < k → b = false := fun e => by
              cases hbb : b with
              | false => rfl
              | true =>
                have h2 := hb.1 hbb
                rw [take_data, HCd.out] at h2
                refine absurd h2 (Tur.longest HV.out (by rw [← HL.out]; exact e) ?_)
                rw [← HCd.out, ← Lib.size_eq]
                exact hk
            have HB := hide hb
            clear hb
            cases b with
            | true =>
              go_wp2_with (go_at_call 33; refine (lyndon_any _ _ hsz true HB.out).mono ?_; rintro e w' ⟨rfl, rfl⟩)
              go_round
              case rel =>
                have : ¬ L < k := fun h => by cases hbl h
                exact ⟨k, k + 1, rfl, by go_num, by omega, by omega, by omega, by omega, by omega⟩
              case measure => simp [intOf]; omega
            | false =>
              go_wp2_with (go_at_call 33; refine (lyndon_any _ _ hsz false HB.out).mono ?_; rintro e w' ⟨rfl, rfl⟩)
              go_round
              case rel =>
                have : ¬ k = L := fun h => by cases hbk h
                exact ⟨n, k + 1, rfl, by go_num, by omega, by omega, by omega, by omega, by omega⟩
              case measure => simp [intOf]; omega
          · have hnL : n = L := hkL (by omega)
            subst hnL
            clear hkL
            have hx := hide (str_take C n)
            go_wp2_with (at_builtin; refine wpList_append_own _ rfl _ _ 40 rfl w.heap.size 9 i0 (.string ByteArray.empty) 1 16 Try.underlying40 hi hz0 hz1 hz2 rfl (by decide) _ _ _ rfl (hrow.alloc _) ⟨wr.heap.size, 0, none⟩ 1 1 [.string (C.extract 0 n)] rfl rfl (cell_one_new _ _ _) (fun x hx => by simp at hx; subst hx; rfl) (by unfold maxLen; omega) (by omega) (by have := hbx.size; simp; omega) ?_; intro v' w3 hown' hgrow3 hnil3)
            go_roundw
            case rel =>
              have e1 : C.data.toList.take n = v1 := by rw [HCd.out, HL.out]; simp
              refine ⟨C.extract n C.size, us ++ [v1], vs, rfl, by rw [ByteArray.size_extract]; omega, ?_, ?_, hide (Tur.good_tail HV.out), ?_, ?_, (hbx.alloc hbx.size _).grown hgrow3 (by have := hbx.size; simp; omega) (fun j hj => (hrow.lt j hj).1)⟩
              · apply hide
                rw [drop_data, HCd.out, HL.out]
                simp
              · apply hide
                rw [HW.out]
                simp
              · simp at hlen ⊢
                omega
              · rw [List.map_append, List.length_append, List.map_cons, List.map_nil, ← e1, ← hx.out]
                exact hown'
            case measure =>
              show (C.extract n C.size).size < C.size
              rw [ByteArray.size_extract]
              omega
    · have hvs : vs = [] := by
        cases vs with
        | nil => rfl
        | cons v1 vs =>
          have h1 := (HV.out.1 v1 (by simp)).1
          have h2 := congrArg List.length HCd.out
          rw [← Lib.size_eq, List.flatten_cons, List.length_append] at h2
          omega
      subst hvs
      have hws : ws = us := by rw [HW.out, List.append_nil]
      subst hws
      go_wp2
      go_ret
      exact ⟨_, rfl, hrow, hbx⟩
end Go.Proofs.Ytkiindkoiomieaa
