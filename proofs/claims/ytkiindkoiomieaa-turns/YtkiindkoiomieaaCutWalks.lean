/-
  P3: the walks of Lyndon and nextWord.
-/
import Derived.Test.YtkiindkoiomieaaRows
import Derived.Test.YtkiindkoiomieaaDuval
import Derived.WalkKit
import Derived.WalkSpells
import Derived.WalkLawsBesides
import Derived.Deep.QuietTactic
import Derived.BigQuiet
import Derived.Lib.Strings
namespace Go.Proofs.Ytkiindkoiomieaa
open Go.RowKit

theorem byte_bt (s : ByteArray) (k : Nat) (h : k < s.size) : s[k].toNat = Duv.bt s.data.toList k := by
  have h' : k < s.data.toList.length := by simpa using h
  simp only [Duv.bt, List.getElem?_eq_getElem h', Option.getD_some]
  rfl

theorem extract_list (s : ByteArray) (i j : Nat) : (s.extract i j).toList = (s.data.toList.drop i).take (j - i) := by
  rw [Lib.toList_data, ByteArray.data_extract, Array.toList_extract]

set_option maxHeartbeats 400000 in
theorem lyndon_true (s : ByteArray) (w : World) (hs : s.size ≤ 300) (hw : Duv.Word s.data.toList) :
    Calls Try.prog 33 #[.string s] w fun e w' => e = .returned (.bool true) ∧ w' = w := by
  have hl : s.data.toList.length = s.size := (Lib.size_eq s).symm
  have h0 : 0 < s.size := by have := hw.1; omega
  have HW : Hid (Duv.Word s.data.toList) := hw
  clear hw hl
  go_enter Try.func33, Try.ntmps33
  go_wp2
  go_loop [3] (fun i => ∃ k : Nat, 1 ≤ k ∧ k ≤ s.size ∧ i = .int .i64 k) (fun i => s.size - (intOf i).toNat)
  case atStart => exact ⟨1, by omega, by omega, rfl⟩
  case round =>
    obtain ⟨k, h1, hk, rfl⟩ := hrel
    by_cases hlt : k < s.size
    · have hx := HW.out.2 k (by omega) (by rw [← Lib.size_eq]; exact hlt)
      have he : (s.extract k s.size).toList = s.data.toList.drop k := by
        rw [extract_list]
        apply List.take_of_length_le
        rw [List.length_drop, ← Lib.size_eq]
        exact Nat.le_refl _
      have g1 : Op.bytesLess (s.extract k s.size).toList s.toList = false := by rw [he, Lib.toList_data]; exact hx.1
      have g2 : ((s.extract k s.size).toList == s.toList) = false := by rw [he, Lib.toList_data]; simpa using hx.2
      clear hx he
      go_wp2
      go_round
      case rel => exact ⟨k + 1, by omega, by omega, by go_num⟩
      case measure => simp [intOf]; omega
    · go_wp2
      go_ret
      exact ⟨rfl, rfl⟩

theorem ret2_int {k : IntKind} {a b c d : Int} (h : a = b) (h' : c = d) : Ending.returned (.tuple #[.int k a, .int k c]) = .returned (.tuple #[.int k b, .int k d]) := by rw [h, h']

theorem quo_in {E L m : Nat} (h1 : E ≤ m) (h2 : m ≤ 300) : wrap64 ((E : Int) / (L : Int)) = ((E / L : Nat) : Int) := by
  rw [← Int.natCast_ediv]
  have hq := Nat.div_le_self E L
  generalize E / L = q at hq
  exact IntWalk.wrap64_in _ (by omega)

set_option maxHeartbeats 400000 in
theorem next_any (s : ByteArray) (w : World) (hs : s.size ≤ 300) (h0 : 0 < s.size) :
    Calls Try.prog 47 #[.string s] w fun e w' => ∃ L E T : Nat, e = .returned (.tuple #[.int .i64 L, .int .i64 T]) ∧ Hid (T = E / L) ∧ (∃ n, w' = w.drewN n) ∧
      Duv.Inv (Duv.bt s.data.toList) L E ∧ E ≤ s.size ∧ (E = s.size ∨ Duv.bt s.data.toList E < Duv.bt s.data.toList (E - L)) := by
  go_enter Try.func47, Try.ntmps47
  go_wp2
  go_loopw [2, 4] (fun a b wr => ∃ L E n : Nat, 1 ≤ L ∧ L ≤ E ∧ E ≤ s.size ∧ a = .int .i64 L ∧ b = .int .i64 E ∧ wr = w.drewN n ∧ Hid (Duv.Inv (Duv.bt s.data.toList) L E)) (fun _ i _ => s.size - (intOf i).toNat)
  case atStart => exact ⟨1, 1, 0, by omega, by omega, by omega, rfl, rfl, rfl, Duv.Inv.start _⟩
  case round =>
    obtain ⟨L, E, n, h1, h2, h3, rfl, rfl, rfl, HI⟩ := hrel
    have hwr : IntKind.i64.wrap ((E : Int) - (L : Int)) = ((E - L : Nat) : Int) := by
      rw [show ((E : Int) - (L : Int)) = ((E - L : Nat) : Int) by omega]
      exact IntWalk.i64_in _ (by omega)
    by_cases hlt : E < s.size
    · have hi : E - L < s.size := by omega
      have b1 := byte_bt s (E - L) hi
      have b2 := byte_bt s E hlt
      have B : Hid (s[E - L].toNat = Duv.bt s.data.toList (E - L) ∧ s[E].toNat = Duv.bt s.data.toList E) := ⟨b1, b2⟩
      clear b1 b2
      by_cases hle : s[E - L].toNat ≤ s[E].toNat
      · by_cases hl2 : s[E - L].toNat < s[E].toNat
        · go_wp2_with fail
          go_quiet (fail)
          go_wp2
          go_quiet (fail)
          go_wp2
          go_roundw
          case rel => exact ⟨E + 1, E + 1, _, by omega, by omega, by omega, by go_num, by go_num, rfl, HI.out.more (by have := B.out; omega)⟩
          case measure => simp [intOf]; omega
        · go_wp2_with fail
          go_quiet (fail)
          go_wp2
          go_quiet (fail)
          go_wp2
          go_roundw
          case rel => exact ⟨L, E + 1, _, by omega, by omega, by omega, rfl, by go_num, rfl, HI.out.same (by have := B.out; omega)⟩
          case measure => simp [intOf]; omega
      · go_wp2_with fail
        go_quiet (fail)
        go_wp2
        go_quiet (fail)
        go_wp2
        go_ret2
        exact ⟨L, E, E / L, ret2_int rfl (quo_in h3 hs), rfl, ⟨_, by rw [World.drewN_drewN, World.drewN_drewN]⟩, HI.out, by omega, .inr (by have := B.out; omega)⟩
    · have hd : decide ((E : Int) < (s.size : Int)) = false := by simp; omega
      go_wp2_with fail
      go_quiet (fail)
      go_wp2
      go_quiet (fail)
      go_wp2
      go_ret2
      exact ⟨L, E, E / L, ret2_int rfl (quo_in h3 hs), rfl, ⟨_, by rw [World.drewN_drewN, World.drewN_drewN]⟩, HI.out, by omega, .inl (by omega)⟩
end Go.Proofs.Ytkiindkoiomieaa
