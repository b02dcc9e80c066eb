/-
  P3: the walks of Words, Falls, words and Cuts.
-/
import Derived.Test.YtkiindkoiomieaaCutWords
namespace Go.Proofs.Ytkiindkoiomieaa
open Go.RowKit

set_option maxHeartbeats 400000 in
theorem num_any (n : Int) (w : World) : Calls Try.prog 16 #[.int .i64 n] w fun e w' => e = .returned (.int .i64 n) ∧ w' = w := by
  go_enter Try.func16, Try.ntmps16
  go_wp2
  go_ret
  exact ⟨rfl, rfl⟩

set_option maxHeartbeats 400000 in
theorem words_short (s : ByteArray) (w : World) (hs : s.size ≤ 300) :
    Calls Try.prog 17 #[.string s] w fun e w' => ∃ v ws, e = .returned (.tuple #[v, .int .i64 0]) ∧ w'.ownsRow w.heap.size 9 1 v ws.length (ws.map strV) ∧ Below w.heap.size w w' ∧ Duv.Good ws ∧ ws.flatten = s.data.toList := by
  go_enter Try.func17, Try.ntmps17
  go_wp2_with (go_at_call 32; refine (cut_any _ _ hs).mono ?_; rintro e w' ⟨v, ws, rfl, h1, h2, h3, h4⟩; have H4 := hide h4; clear h4)
  go_ret2
  exact ⟨v, ws, rfl, h1, h2, h3, H4.out⟩

set_option maxHeartbeats 400000 in
theorem words_long (s : ByteArray) (w : World) (hs : 300 < s.size) (hm : s.size ≤ maxLen) :
    Calls Try.prog 17 #[.string s] w fun e w' => e = .returned (.tuple #[.slice none 0 0, .int .i64 1]) ∧ w' = w := by
  unfold maxLen at hm
  go_enter Try.func17, Try.ntmps17
  go_wp2
  go_ret2
  exact ⟨rfl, rfl⟩

theorem cells_of_owns {w : World} {base n : Nat} {v : Value} {ws : List (List UInt8)} (h : w.ownsRow base 9 1 v n (ws.map strV)) (hn : n = ws.length) :
    (v = .slice none 0 0 ∧ ws = []) ∨ ∃ g cap, v = .slice (some ⟨g, 0, none⟩) ws.length cap ∧ ∀ k x, ws[k]? = some x → w.cell? ⟨g, k, none⟩ = some (strV x) := by
  subst hn
  rcases h.2 with ⟨h1, h2⟩ | ⟨g, cap, cur, rfl, h3, h4, h5, h6, h7, h8⟩
  · exact .inl ⟨h1, List.eq_nil_of_length_eq_zero h2⟩
  · refine .inr ⟨g, cap, rfl, fun k x hk => ?_⟩
    have hl := (List.getElem?_eq_some_iff.1 hk).1
    have := h.cellAt k (by omega)
    rw [this, List.getElem?_map, hk]
    rfl

theorem cat_data (a b : ByteArray) : (a ++ b).data.toList = a.data.toList ++ b.data.toList := by
  rw [ByteArray.data_append, Array.toList_append]

theorem strV_data (l : List UInt8) : (⟨l.toArray⟩ : ByteArray).data.toList = l := by simp

set_option maxHeartbeats 1000000 in
theorem falls_any (g cap : Nat) (ws : List (List UInt8)) (s : ByteArray) (w : World) (hs : s.size ≤ 300) (hg : Duv.Good ws) (hf : ws.flatten = s.data.toList)
    (hc : ∀ k x, ws[k]? = some x → w.cell? ⟨g, k, none⟩ = some (strV x)) :
    Calls Try.prog 19 #[.slice (some ⟨g, 0, none⟩) ws.length cap, .string s] w fun e w' => e = .returned (.bool true) ∧ ∃ n, w' = w.drewN n := by
  have hfew : ws.length ≤ 300 := by
    have := good_few hg
    rw [hf, ← Lib.size_eq] at this
    omega
  have HG := hide hg
  have HF := hide hf
  have HC := hide hc
  clear hg hf hc
  go_enter Try.func19, Try.ntmps19
  go_wp2
  go_loopw [5, 6] (fun t i wr => ∃ (k n : Nat) (tb : ByteArray), k ≤ ws.length ∧ i = .int .i64 k ∧ t = .string tb ∧ tb.size ≤ 300 ∧ Hid (tb.data.toList = (ws.take k).flatten) ∧ wr = w.drewN n) (fun _ i _ => ws.length - (intOf i).toNat)
  case atStart => exact ⟨0, 0, ⟨#[]⟩, Nat.zero_le _, rfl, rfl, Nat.zero_le _, rfl, rfl⟩
  case round =>
    obtain ⟨k, n, tb, hk, rfl, rfl, htb, HT, rfl⟩ := hrel
    by_cases hlt : k < ws.length
    · obtain ⟨x, hx⟩ : ∃ x, ws[k]? = some x := ⟨_, List.getElem?_eq_getElem hlt⟩
      obtain ⟨xb, hxb⟩ : ∃ xb : ByteArray, xb = ⟨x.toArray⟩ := ⟨_, rfl⟩
      have hcx : w.cell? ⟨g, k, none⟩ = some (.string xb) := by rw [hxb]; exact HC.out k x hx
      have hxd : xb.data.toList = x := by rw [hxb]
      have hW : Duv.Word xb.data.toList := by rw [hxd]; exact HG.out.1 x (List.mem_of_getElem? hx)
      have hsum : (ws.take (k + 1)).flatten = (ws.take k).flatten ++ x := by
        rw [List.take_add_one, hx]
        simp
      have htot : tb.size + xb.size ≤ 300 := by
        have h1 : ((ws.take (k + 1)).flatten ++ (ws.drop (k + 1)).flatten) = s.data.toList := by
          rw [← List.flatten_append, List.take_append_drop, HF.out]
        have h2 := congrArg List.length h1
        rw [hsum, List.length_append, List.length_append, ← HT.out, ← Lib.size_eq, ← Lib.size_eq, ← hxd, ← Lib.size_eq] at h2
        omega
      have HS := hide hsum
      have HX := hide hxd
      have cL := lyndon_true xb (w.drewN n) (by omega) hW
      clear hW hsum hxd hxb
      by_cases hk0 : k = 0
      · subst hk0
        go_wp2_with (go_at_call 33; refine cL.mono ?_; rintro e w' ⟨rfl, rfl⟩)
        go_quiet (fail)
        go_wp2
        go_roundw
        case rel => exact ⟨1, _, tb ++ xb, by omega, rfl, rfl, by rw [ByteArray.size_append]; omega, by show _ = _; rw [cat_data, HT.out, HX.out]; exact HS.out.symm, rfl⟩
        case measure => simp [intOf]; omega
      · obtain ⟨j, rfl⟩ : ∃ j, k = j + 1 := ⟨k - 1, by omega⟩
        obtain ⟨y, hy⟩ : ∃ y, ws[j]? = some y := ⟨_, List.getElem?_eq_getElem (by omega)⟩
        obtain ⟨yb, hyb⟩ : ∃ yb : ByteArray, yb = ⟨y.toArray⟩ := ⟨_, rfl⟩
        have hcy : w.cell? ⟨g, j, none⟩ = some (.string yb) := by rw [hyb]; exact HC.out j y hy
        have hle : (Op.bytesLess xb.toList yb.toList || xb.toList == yb.toList) = true := by
          rw [Lib.toList_data, Lib.toList_data, HX.out, hyb]
          exact HG.out.2 j y x hy hx
        clear hyb hx hy
        go_wp2_with (go_at_call 33; refine cL.mono ?_; rintro e w' ⟨rfl, rfl⟩)
        go_quiet (fail)
        go_wp2
        go_roundw
        case rel => exact ⟨j + 1 + 1, _, tb ++ xb, by omega, by go_num, rfl, by rw [ByteArray.size_append]; omega, by show _ = _; rw [cat_data, HT.out, HX.out]; exact HS.out.symm, rfl⟩
        case measure => simp [intOf]; omega
    · have heq : (tb.toList == s.toList) = true := by
        rw [Lib.toList_data, Lib.toList_data, HT.out, List.take_of_length_le (by omega), HF.out]
        simp
      go_wp2
      go_ret
      exact ⟨rfl, _, rfl⟩

set_option maxHeartbeats 400000 in
theorem falls_none (s : ByteArray) (w : World) (hf : s.data.toList = []) :
    Calls Try.prog 19 #[.slice none 0 0, .string s] w fun e w' => e = .returned (.bool true) ∧ w' = w := by
  have hs : s = ⟨#[]⟩ := by
    apply ByteArray.ext
    simpa using hf
  subst hs
  clear hf
  go_enter Try.func19, Try.ntmps19
  go_wp2
  refine wp_loop_rounds 1 ?_
  rw [rounds_succ]
  go_wp2
  go_ret
  exact ⟨rfl, rfl⟩

set_option maxHeartbeats 1000000 in
theorem law_words (s : ByteArray) (w : World) (hm : s.size ≤ maxLen) :
    Calls Try.prog 7 #[.string s] w fun e w' => e = .returned (.bool true) ∧ Below w.heap.size w w' := by
  by_cases hs : s.size ≤ 300
  · go_enter Try.func7, Try.ntmps7
    go_wp2_with fail
    refine (words_short s _ hs).mono ?_
    rintro e w1 ⟨v, ws, rfl, hown, hbel, hg, hf⟩
    rcases cells_of_owns hown rfl with ⟨rfl, rfl⟩ | ⟨g, cap, rfl, hc⟩
    · have hf' : s.data.toList = [] := by rw [← hf]; rfl
      have cF := hide (falls_none s w1 hf')
      clear hf hg hown hf'
      go_wp2_with (first | (go_at_call 19; refine (unhide cF).mono ?_; rintro e w' ⟨rfl, rfl⟩) | go_in)
      go_ret
      exact ⟨rfl, hbel⟩
    · have cF := hide (falls_any g cap ws s w1 hs hg hf hc)
      clear hf hg hown hc
      go_wp2_with (first | (go_at_call 19; refine (unhide cF).mono ?_; rintro e w' ⟨rfl, n, rfl⟩) | go_in)
      go_ret
      exact ⟨rfl, below_drewN hbel _⟩
  · unfold maxLen at hm
    go_enter Try.func7, Try.ntmps7
    go_wp2_with (first | (go_at_call 17; refine (words_long s _ (by omega) (by unfold maxLen; omega)).mono ?_; rintro e w' ⟨rfl, rfl⟩) | go_in)
    go_ret
    exact ⟨rfl, Below.refl _ _⟩
end Go.Proofs.Ytkiindkoiomieaa
