/-
  P3: the walks of strings.Clone and cutWords.
-/
import Derived.Test.YtkiindkoiomieaaCutWalks
import Derived.Test.YtkiindkoiomieaaShelf
namespace Go.Proofs.Ytkiindkoiomieaa
open Go.RowKit

theorem hide {p : Prop} (h : p) : Hid p := h
theorem unhide {p : Prop} (h : Hid p) : p := h

/-- A text as a value. -/
def strV (l : List UInt8) : Value := .string ⟨l.toArray⟩

theorem strV_extract (s : ByteArray) (a L b : Nat) (hb : b = a + L) : Value.string (s.extract a b) = strV ((s.data.toList.drop a).take L) := by
  subst hb
  have h := extract_list s a (a + L)
  rw [Lib.toList_data, Nat.add_sub_cancel_left] at h
  have e : s.extract a (a + L) = ⟨((s.data.toList.drop a).take L).toArray⟩ := by
    apply ByteArray.ext
    rw [← h]
  rw [e]
  rfl

theorem grown_of_below {w w' : World} (h : Below w.heap.size w w') (row : Option Nat) : w.grownBy w' row := ⟨h.os, h.tape, h.output, h.size, fun k hk _ => h.block k hk⟩
theorem own_em (v : Value) : v.ownBlock = none ∨ v.ownBlock ≠ none := Classical.em _
theorem below_drewN {B : Nat} {a w : World} (h : Below B a w) (n : Nat) : Below B a (w.drewN n) := ⟨h.os, h.tape, h.output, h.size, h.block⟩
theorem owns_drewN {w : World} {base : Nat} {e : TypeId} {size : Nat} {v : Value} {m : Nat} {xs : List Value} (h : w.ownsRow base e size v m xs) (n : Nat) : (w.drewN n).ownsRow base e size v m xs := h
theorem owns_below {w w' : World} {base : Nat} {e : TypeId} {size : Nat} {v : Value} {m : Nat} {xs : List Value} (h : w.ownsRow base e size v m xs) (hb : Below w.heap.size w w') : w'.ownsRow base e size v m xs :=
  h.kept (grown_of_below hb none) (own_em _)

theorem Try.info9 : (Try.prog.info? 9).map (fun i => (i.zero, i.size, i.bytes)) = some (some (.string ByteArray.empty), 1, 16) := by kernel_rfl

theorem good_few {ws : List (List UInt8)} (h : Duv.Good ws) : ws.length ≤ ws.flatten.length := by
  have : ∀ us : List (List UInt8), (∀ x ∈ us, Duv.Word x) → us.length ≤ us.flatten.length := by
    intro us
    induction us with
    | nil => intro _; simp
    | cons x us ih =>
      intro hx
      have h1 := (hx x (by simp)).1
      have h2 := ih fun y hy => hx y (by simp [hy])
      rw [List.flatten_cons, List.length_append, List.length_cons]
      omega
  exact this ws h.1

theorem run_few {l : List UInt8} {st L e q : Nat} {ws : List (List UInt8)} (h : Duv.Run l st L e q ws) : ws.length ≤ l.length := by
  have h1 := good_few h.good
  rw [h.flat] at h1
  have h2 : (l.take (st + q * L)).length ≤ l.length := by simp; omega
  omega

set_option maxHeartbeats 400000 in
theorem clone_any (s : ByteArray) (w : World) (hs : s.size ≤ 300) :
    Calls Try.prog 48 #[.string s] w fun e w' => e = .returned (.string s) ∧ Below w.heap.size w w' := by
  go_enter Try.func48, Try.ntmps48
  go_wp2_with (go_at_call 62; refine (Try.stringslite_Clone _ _ (by omega)).mono ?_; rintro e w' ⟨rfl, hb⟩)
  go_ret
  exact ⟨rfl, by assumption⟩

set_option maxHeartbeats 1000000 in
theorem cut_any (s : ByteArray) (w : World) (hs : s.size ≤ 300) :
    Calls Try.prog 32 #[.string s] w fun e w' => ∃ v ws, e = .returned v ∧ w'.ownsRow w.heap.size 9 1 v ws.length (ws.map strV) ∧ Below w.heap.size w w' ∧ Duv.Good ws ∧ ws.flatten = s.data.toList := by
  obtain ⟨i0, hi, hz0, hz1, hz2⟩ := info_parts Try.info9
  have hsl : s.data.toList.length = s.size := (Lib.size_eq s).symm
  have HSL : Hid (s.data.toList.length = s.size) := hsl
  clear hsl
  go_enter Try.func32, Try.ntmps32
  go_wp2
  go_loopw [3, 4] (fun v i wr => ∃ (st : Nat) (ws : List (List UInt8)), st ≤ s.size ∧ i = .int .i64 st ∧ wr.ownsRow w.heap.size 9 1 v ws.length (ws.map strV) ∧ Below w.heap.size w wr ∧ Hid (Duv.Cut s.data.toList st ws)) (fun _ i _ => s.size - (intOf i).toNat)
  case atStart => exact ⟨0, [], Nat.zero_le _, rfl, World.ownsRow_nil _ _ _ _, Below.refl _ _, Duv.Cut.start _⟩
  case round =>
    obtain ⟨st, ws, hst, rfl, hrow, hbx, HC⟩ := hrel
    by_cases hlt : st < s.size
    · have hts : (s.extract st s.size).size = s.size - st := by rw [ByteArray.size_extract]; omega
      have htd : (s.extract st s.size).data.toList = s.data.toList.drop st := by
        rw [← Lib.toList_data, extract_list]
        exact List.take_of_length_le (by rw [List.length_drop, HSL.out]; exact Nat.le_refl _)
      have cN := next_any (s.extract st s.size)
      rw [htd, hts] at cN
      have CN := hide cN
      clear cN htd hts
      go_wp2_with (go_at_call 47; refine (unhide CN _ (by omega) (by omega)).mono ?_; rintro e w' ⟨L, E, T, rfl, HT, ⟨n, rfl⟩, hI, hE, hF⟩)
      have hLE := hI.le
      have hL1 := hI.pos
      have hR := hide (Duv.Run.start HC.out hI (by rw [HSL.out]; omega) (by rw [HSL.out]; rcases hF with h | h; exact .inl (by omega); exact .inr h))
      clear hI hF CN HC
      go_loopw [3, 4, 19] (fun v i j wr => ∃ (q : Nat) (us : List (List UInt8)), q ≤ T ∧ i = .int .i64 ((st + q * L : Nat) : Int) ∧ j = .int .i64 q ∧ wr.ownsRow w.heap.size 9 1 v us.length (us.map strV) ∧ Below w.heap.size w wr ∧ Hid (Duv.Run s.data.toList st L E q us)) (fun _ _ j _ => T - (intOf j).toNat)
      case atStart => exact ⟨0, ws, Nat.zero_le _, by simp, rfl, owns_drewN hrow _, below_drewN hbx _, unhide hR⟩
      case round =>
        clear hrow hbx hR
        obtain ⟨q, us, hq, rfl, rfl, hrow, hbx, HR⟩ := hrel
        have hfew := run_few HR.out
        have hqE := HR.out.few
        rw [HSL.out] at hfew
        have hT1 : 0 < T := by rw [HT.out]; exact Nat.div_pos hLE hL1
        have hTE : T ≤ E := by rw [HT.out]; exact Nat.div_le_self _ _
        by_cases hqt : q < T
        · have hqL : (q + 1) * L ≤ E := Nat.le_trans (Nat.mul_le_mul_right L (by rw [HT.out] at hqt; exact hqt)) (Nat.div_mul_le_self E L)
          have hsm : (q + 1) * L = q * L + L := Nat.succ_mul _ _
          have hR2 := hide (HR.out.next hqL)
          have hx := hide (strV_extract s (st + q * L) L (st + q * L + L) rfl)
          have hdn : st + q * L + L = st + (q + 1) * L := by omega
          have HD := hide hdn
          rw [hsm] at hqL
          clear hsm HR hdn
          generalize q * L = m at *
          go_wp2_with (first
            | (go_at_call 48; refine (clone_any _ _ (by rw [ByteArray.size_extract]; omega)).mono ?_; rintro e w2 ⟨rfl, hb2⟩; have hrow2 := owns_below hrow hb2; have hbx2 := hbx.trans (hb2.mono hbx.size))
            | (at_builtin; refine wpList_append_own _ rfl _ _ 40 rfl w.heap.size 9 i0 (.string ByteArray.empty) 1 16 Try.underlying40 hi hz0 hz1 hz2 rfl (by decide) _ _ _ rfl (hrow2.alloc _) ⟨w2.heap.size, 0, none⟩ 1 1 [.string (s.extract (st + m) (st + m + L))] rfl rfl (cell_one_new _ _ _) (fun x hx => by simp at hx; subst hx; rfl) (by unfold maxLen; omega) (by omega) (by have := hbx2.size; simp; omega) ?_; intro v' w3 hown' hgrow3 hnil3))
          go_roundw
          case rel =>
            refine ⟨q + 1, us ++ [(s.data.toList.drop (st + m)).take L], by omega, ?_, by go_num, ?_, (hbx2.alloc hbx2.size _).grown hgrow3 (by have := hbx2.size; simp; omega) (fun j hj => (hrow2.lt j hj).1), hR2⟩
            · rw [← HD.out]
              go_num
            · rw [List.map_append, List.length_append, List.map_cons, List.map_nil, ← hx.out]
              exact hown'
          case measure => simp [intOf]; omega
        · go_wp2
          have hqT : q = T := by omega
          have hC := HR.out.stop (by rw [← HT.out]; exact hqT)
          have hpos : 0 < q * L := Nat.mul_pos (by omega) hL1
          go_roundw
          case rel => exact ⟨st + q * L, us, by omega, rfl, hrow, hbx, hC⟩
          case measure => simp [intOf]; omega
    · go_wp2
      go_ret
      exact ⟨_, ws, rfl, hrow, hbx, HC.out.done (by have := HSL.out; omega)⟩
end Go.Proofs.Ytkiindkoiomieaa
