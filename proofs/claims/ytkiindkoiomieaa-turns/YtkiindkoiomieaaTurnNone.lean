/-
  P4: turned, where there is no byte; Turn and Back.
-/
import Derived.Test.YtkiindkoiomieaaTurnWalk
namespace Go.Proofs.Ytkiindkoiomieaa
open Go.RowKit Go.Lib Go.Sort

set_option maxHeartbeats 1000000 in
set_option maxRecDepth 100000 in
theorem ranking_none (s : ByteArray) (v : Value) (w : World) (h0 : s.size = 0) :
    Calls Try.prog 50 #[.string s, v] w fun e w' => e = .returned (.slice (some ⟨w.heap.size, 0, none⟩) 0 0) ∧ w' = w.alloc (.cells (cellsN []) 3) := by
  have hmi : ∀ W : World, (Instr.makeSlice 24 (.int .i64 0) (.int .i64 0)).run Try.prog W = .ok (.slice (some ⟨W.heap.size, 0, none⟩) 0 0) (W.alloc (.cells (cellsN []) 3)) := fun W => make_ints 0 (by omega) W
  go_enter Try.func50, Try.ntmps50
  go_wp2
  refine wp_loop_rounds 1 ?_
  rw [rounds_succ]
  go_wp2
  refine wp_loop_rounds 1 ?_
  rw [rounds_succ]
  go_wp2
  go_ret
  exact ⟨rfl, rfl⟩

theorem sort_none (p : Option Addr) (cap : Nat) (fv : Value) (w : World) :
    Calls Try.prog 51 #[.slice p 0 cap, fv] w fun e w' => e = .returned (.tuple #[]) ∧ w' = w :=
  AnyF.slices_SortFunc_none Try.sortPair p cap fv w

set_option maxHeartbeats 1000000 in
set_option maxRecDepth 100000 in
theorem turned_none (s : ByteArray) (w : World) (h0 : s.size = 0) :
    Calls Try.prog 34 #[.string s] w fun e w' => e = .returned (strV []) ∧ Below w.heap.size w w' := by
  obtain ⟨cs, hmk, hsize, hlie⟩ := make_pairs 0 (by omega)
  have hmk' : ∀ W : World, (Instr.makeSlice 76 (.int .i64 0) (.int .i64 0)).run Try.prog W = .ok (.slice (some ⟨W.heap.size, 0, none⟩) 0 0) (W.alloc (.cells cs 78)) := hmk
  clear hlie hsize hmk
  go_enter Try.func34, Try.ntmps34
  go_wp2_with fail
  go_at_call 49
  refine (next_places s w (by omega)).mono ?_
  rintro e w1 ⟨v, ws, rfl, _, _, _, hb1⟩
  go_wp2_with fail
  go_at_call 50
  refine (ranking_none s v w1 h0).mono ?_
  rintro e w2 ⟨rfl, hw2⟩
  have hb2 : Below w.heap.size w w2 := by rw [hw2]; exact hb1.alloc hb1.size _
  clear hw2
  go_wp2
  refine wp_loop_rounds 1 ?_
  rw [rounds_succ]
  go_wp2_with (go_at_call 51; refine (sort_none _ _ _ _).mono ?_; rintro e w3 ⟨rfl, rfl⟩)
  refine wp_loop_rounds 1 ?_
  rw [rounds_succ]
  have hb3 : Below w.heap.size w (w2.alloc (.cells cs 78)) := hb2.alloc hb2.size _
  have hsz : (w2.alloc (.cells cs 78)).heap.size = w2.heap.size + 1 := by simp
  have hB := fresh_one (w2.alloc (.cells cs 78))
  rw [hsz] at hB
  go_wp2_with (go_at_call 42; refine (Try.Builder_String_any _ _ _ _ hB (by simp)).mono ?_; rintro e w4 ⟨rfl, hb4⟩)
  go_ret
  refine ⟨rfl, ?_⟩
  have h5 := hb3.alloc hb3.size (.cells #[.pointer none, .slice none 0 0] 66)
  exact h5.trans (hb4.mono (by have := hb2.size; omega))

theorem good_none : Duv.Good [] := Duv.Good.nil
theorem turned_nil : Tur.Turned [] [] := Tur.turned_of (o := []) (List.Perm.refl _) List.Pairwise.nil

theorem turned_all (s : ByteArray) (w : World) (hs : s.size ≤ 300) :
    Calls Try.prog 34 #[.string s] w fun e w' => ∃ (t : List UInt8) (ws : List (List UInt8)), e = .returned (strV t) ∧ Duv.Good ws ∧ ws.flatten = s.data.toList ∧ Tur.Turned ws t ∧ Below w.heap.size w w' := by
  by_cases h0 : 0 < s.size
  · exact turned_any s w hs h0
  · have h1 : s.size = 0 := by omega
    refine (turned_none s w h1).mono ?_
    rintro e w' ⟨rfl, hb⟩
    have e0 : s.data.toList = [] := List.eq_nil_of_length_eq_zero (by rw [← Lib.size_eq]; exact h1)
    exact ⟨[], [], rfl, good_none, by rw [e0]; rfl, turned_nil, hb⟩

set_option maxHeartbeats 400000 in
theorem turn_short (s : ByteArray) (w : World) (hs : s.size ≤ 300) :
    Calls Try.prog 20 #[.string s] w fun e w' => ∃ (t : List UInt8) (ws : List (List UInt8)), e = .returned (.tuple #[strV t, .int .i64 0]) ∧ Duv.Good ws ∧ ws.flatten = s.data.toList ∧ Tur.Turned ws t ∧ Below w.heap.size w w' := by
  go_enter Try.func20, Try.ntmps20
  go_wp2_with (go_at_call 34; refine (turned_all _ _ hs).mono ?_; rintro e w' ⟨t, ws, rfl, h1, h2, h3, h4⟩; have H2 := hide h2; clear h2)
  go_ret2
  exact ⟨t, ws, rfl, h1, H2.out, h3, h4⟩

set_option maxHeartbeats 400000 in
theorem back_short (s : ByteArray) (w : World) (hs : s.size ≤ 300) :
    Calls Try.prog 21 #[.string s] w fun e w' => ∃ (b : List UInt8) (ws : List (List UInt8)), e = .returned (.tuple #[strV b, .int .i64 0]) ∧ Duv.Good ws ∧ ws.flatten = b ∧ Tur.Turned ws s.data.toList ∧ Below w.heap.size w w' := by
  go_enter Try.func21, Try.ntmps21
  go_wp2_with (go_at_call 35; refine (turnedBack_any _ _ (by omega)).mono ?_; rintro e w' ⟨b, ws, rfl, h1, h2, h3, h4⟩; have H2 := hide h2; clear h2)
  go_ret2
  exact ⟨b, ws, rfl, h1, H2.out, h3, h4⟩

set_option maxHeartbeats 400000 in
theorem turn_long (s : ByteArray) (w : World) (hs : 300 < s.size) (hm : s.size ≤ 9223372036854775807) :
    Calls Try.prog 20 #[.string s] w fun e w' => e = .returned (.tuple #[.string ⟨#[]⟩, .int .i64 1]) ∧ w' = w := by
  go_enter Try.func20, Try.ntmps20
  go_wp2
  go_ret2
  exact ⟨rfl, rfl⟩

set_option maxHeartbeats 400000 in
theorem back_long (s : ByteArray) (w : World) (hs : 300 < s.size) (hm : s.size ≤ 9223372036854775807) :
    Calls Try.prog 21 #[.string s] w fun e w' => e = .returned (.tuple #[.string ⟨#[]⟩, .int .i64 1]) ∧ w' = w := by
  go_enter Try.func21, Try.ntmps21
  go_wp2
  go_ret2
  exact ⟨rfl, rfl⟩
end Go.Proofs.Ytkiindkoiomieaa
