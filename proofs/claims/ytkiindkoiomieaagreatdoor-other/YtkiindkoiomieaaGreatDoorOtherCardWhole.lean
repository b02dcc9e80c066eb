import Derived.Test.YtkiindkoiomieaaGreatDoorRows
import Derived.ProofKit
import Derived.ChangeSlices
import Derived.Deep.Slices
import Derived.Deep.Strs
import Derived.Test.YtkiindkoiomieaaGreatDoorJ05
import Derived.Test.YtkiindkoiomieaaGreatDoorJ06
import Derived.Test.YtkiindkoiomieaaGreatDoorJ08
import Derived.Test.YtkiindkoiomieaaGreatDoorJ09
import Derived.Test.YtkiindkoiomieaaGreatDoorCards
import Derived.Test.YtkiindkoiomieaaGreatDoorTie
import Derived.Test.YtkiindkoiomieaaGreatDoorJ15
section
/-
  A script as data: its steps, each five cells.
-/
namespace Go.Proofs.YtkiindkoiomieaaGreatDoor
open Go.ChangeShapes Go.WideShapes Go.ChangeAt Go.RowKit Go.Deep

theorem Tryz.own : ownKnob Tryz.prog.godebug = none := by kernel_rfl
theorem Tryz.cells25 : Tryz.prog.cellsOf 25 = 5 := by kernel_rfl
theorem Tryz.cells9 : Tryz.prog.cellsOf 9 = 1 := by kernel_rfl
theorem Tryz.cells23 : Tryz.prog.cellsOf 23 = 1 := by kernel_rfl

/-- One step of a script, as it lies at a place of a block. -/
structure OpAt (W : World) (b o : Nat) (na nb : Int) (S T : ByteArray) (la : Option Addr) (ll lc : Nat) (zs : List Int) : Prop where
  cA : W.cell? ⟨b, o, none⟩ = some (.int .i64 na)
  cB : W.cell? ⟨b, o + 1, none⟩ = some (.int .i64 nb)
  cS : W.cell? ⟨b, o + 2, none⟩ = some (.string S)
  cT : W.cell? ⟨b, o + 3, none⟩ = some (.string T)
  cL : W.cell? ⟨b, o + 4, none⟩ = some (.slice la ll lc)
  sS : S.size ≤ maxLen
  sT : T.size ≤ maxLen
  wA : (Lit.int .i64 na).wf = true
  wB : (Lit.int .i64 nb).wf = true
  zl : zs.length = ll
  lm : ll ≤ maxLen
  wz : ∀ z ∈ zs, (Lit.int .i64 z).wf = true
  at_ : (ll = 0 ∧ (la = none → lc = 0)) ∨ ∃ lb lo, la = some ⟨lb, lo, none⟩ ∧ lb < W.heap.size ∧ ∀ j, j < ll → W.cell? ⟨lb, lo + j, none⟩ = some (.int .i64 (zs.getD j 0))

section
variable {H : Type} {enc : TypeId × Value → H}

theorem trod_struct5 {P : Program} {w : World} {base : Nat} {spare : Nat → Bool} {held : Bool} {t : TypeId} {f0 f1 f2 f3 f4 : Field} {fuel : Nat} {cs : List Value} {x : DataW H × List MemPlace}
    (ht : P.underlying t = some (.struct #[f0, f1, f2, f3, f4])) (h : DataW.trod enc P w base spare held fuel t cs = some x) :
    ∃ (y : Nat → DataW H × List MemPlace) (n : Nat), x = (.agg [(y 0).1, (y 1).1, (y 2).1, (y 3).1, (y 4).1], (y 0).2 ++ ((y 1).2 ++ ((y 2).2 ++ ((y 3).2 ++ (y 4).2)))) ∧ cs.length = P.cellsOf t ∧
      ∀ i f, #[f0, f1, f2, f3, f4][i]? = some f → DataW.trod enc P w base spare held n f.type ((cs.drop f.offset).take (P.cellsOf f.type)) = some (y i) := by
  obtain ⟨xs, n, _, rfl, hl, hlen, hf⟩ := DataW.trod_struct ht h
  match xs, hlen with
  | [y0, y1, y2, y3, y4], _ =>
    refine ⟨fun i => [y0, y1, y2, y3, y4].getD i y0, n, by simp, hl, fun i f hi => ?_⟩
    have h1 := hf i f hi
    have hlt : i < 5 := (Array.getElem?_eq_some_iff.1 hi).1
    rw [h1]
    simp [List.getD, List.getElem?_eq_getElem (show i < [y0, y1, y2, y3, y4].length from hlt)]

set_option maxRecDepth 100000 in
theorem open_ops {W : World} {a0 : Option Addr} {len cap fuel : Nat} {d0 : DataW H} {p : List MemPlace}
    (hf : DataW.trod enc Tryz.prog W 0 (fun _ => true) true fuel 22 [.slice a0 len cap] = some (d0, p)) (hlt : ∀ x ∈ p, x.block < W.heap.size) :
    len ≤ maxLen ∧ (len = 0 ∨ ∃ (b off : Nat) (D : Nat → DataW H) (rest : List (DataW H)), a0 = some ⟨b, off, none⟩ ∧ b < W.heap.size ∧ d0 = .slice ((List.range len).map D) rest ∧
      ∀ k, k < len → ∃ na nb S T la ll lc zs dl, OpAt W b (off + k * 5) na nb S T la ll lc zs ∧ D k = .agg [.lit (.int .i64 na), .lit (.int .i64 nb), .lit (.string S.data.toList), .lit (.string T.data.toList), dl] ∧
        ((dl = .nil ∧ ll = 0) ∨ ∃ sp, dl = .slice (lits .i64 zs) sp)) := by
  rcases open_slice Tryz.underlying22 hf with ⟨hcs, hx⟩ | ⟨a, len', cap', m, n, D, Pl, hcs, _, hl, hm, hmm, hx, hel⟩
  · simp at hcs
    obtain ⟨_, rfl, _⟩ := hcs
    exact ⟨Nat.zero_le _, .inl rfl⟩
  · simp at hcs
    obtain ⟨rfl, rfl, rfl⟩ := hcs
    simp only [Prod.mk.injEq] at hx
    obtain ⟨rfl, rfl⟩ := hx
    simp only [if_true] at hmm
    subst hmm
    refine ⟨by omega, ?_⟩
    by_cases h0 : len = 0
    · exact .inl h0
    right
    obtain ⟨b, off, spot⟩ := a
    have hspot : spot = none := by
      obtain ⟨cs', hc0, ht0⟩ := hel 0 (by omega)
      rw [Tryz.cells25] at hc0
      obtain ⟨_, hl5, hcell⟩ := World.cells?_some hc0
      have := hcell 0 (by omega)
      rw [List.getElem?_eq_getElem (by omega)] at this
      simpa [Addr.add] using World.cell?_spot this
    subst hspot
    refine ⟨b, off, D, _, rfl, ?_, rfl, fun k hk => ?_⟩
    · refine hlt (.cell b (off + 0)) (List.mem_append_left _ ?_)
      simp only [MemPlace.row, List.mem_map, List.mem_range]
      exact ⟨0, by rw [Tryz.cells25]; omega, rfl⟩
    · obtain ⟨cs', hc0, ht0⟩ := hel k (by omega)
      rw [Tryz.cells25] at hc0
      obtain ⟨_, hl5, hcell⟩ := World.cells?_some hc0
      obtain ⟨y, n', hD, _, hy⟩ := trod_struct5 Tryz.underlying25 ht0
      simp only [Prod.mk.injEq] at hD
      obtain ⟨c0, c1, c2, c3, c4, rfl⟩ : ∃ c0 c1 c2 c3 c4, cs' = [c0, c1, c2, c3, c4] := by
        match cs', hl5 with
        | [c0, c1, c2, c3, c4], _ => exact ⟨c0, c1, c2, c3, c4, rfl⟩
      obtain ⟨na, h01, h02, wA⟩ := DataW.trod_int Tryz.underlying3 (hy 0 _ rfl)
      obtain ⟨nb, h11, h12, wB⟩ := DataW.trod_int Tryz.underlying3 (hy 1 _ rfl)
      obtain ⟨S, h21, h22, sS⟩ := DataW.trod_string Tryz.underlying9 (hy 2 _ rfl)
      obtain ⟨T, h31, h32, sT⟩ := DataW.trod_string Tryz.underlying9 (hy 3 _ rfl)
      simp [Tryz.cells3] at h01 h11
      simp [Tryz.cells9] at h21 h31
      subst h01 h11 h21 h31
      have r0 := hcell 0 (by omega)
      have r1 := hcell 1 (by omega)
      have r2 := hcell 2 (by omega)
      have r3 := hcell 3 (by omega)
      have r4 := hcell 4 (by omega)
      simp [Addr.add_lit] at r0 r1 r2 r3 r4
      have hP : ∀ x ∈ (y 4).2, x.block < W.heap.size := fun x hx => hlt x (List.mem_append_right _ (List.mem_flatMap.2 ⟨k, List.mem_range.2 (by omega), by rw [hD.2]; simp [hx]⟩))
      rcases open_ints Tryz.underlying23 Tryz.underlying3 Tryz.cells3 (hy 4 _ rfl) with ⟨h41, h42⟩ | ⟨a, ll, lc, zs, h41, _, hll, hlm, hzl, h42, hcz, hwz⟩
      · simp [Tryz.cells23] at h41
        subst h41
        refine ⟨na, nb, S, T, none, 0, 0, [], .nil, ⟨r0, r1, r2, r3, r4, sS, sT, wA, wB, rfl, Nat.zero_le _, by simp, .inl ⟨rfl, fun _ => rfl⟩⟩, ?_, .inl ⟨rfl, rfl⟩⟩
        rw [hD.1, h02, h12, h22, h32, h42]
      · simp [Tryz.cells23] at h41
        subst h41
        simp only [if_true] at hzl
        have hD' : D k = .agg [.lit (.int .i64 na), .lit (.int .i64 nb), .lit (.string S.data.toList), .lit (.string T.data.toList), .slice (lits .i64 (zs.take ll)) (lits .i64 (zs.drop ll))] := by
          rw [hD.1, h02, h12, h22, h32, h42]
        refine ⟨na, nb, S, T, some a, ll, lc, zs.take ll, _, ⟨r0, r1, r2, r3, r4, sS, sT, wA, wB, by simp; omega, by omega, fun z hz => hwz z (List.mem_of_mem_take hz), ?_⟩, hD', .inr ⟨_, rfl⟩⟩
        by_cases hl0 : ll = 0
        · exact .inl ⟨hl0, fun h => by cases h⟩
        · right
          obtain ⟨lb, lo, lsp⟩ := a
          have hls : lsp = none := by simpa [Addr.add] using World.cell?_spot (hcz 0 (by omega))
          subst hls
          refine ⟨lb, lo, rfl, ?_, fun j hj => ?_⟩
          · refine hP (.cell lb (lo + 0)) ?_
            rw [h42]
            simp only [MemPlace.row, List.mem_map, List.mem_range]
            exact ⟨0, by omega, rfl⟩
          · have := hcz j (by omega)
            rw [Addr.add_lit] at this
            rw [this]
            congr 2
            simp [List.getD, hj]
end
end Go.Proofs.YtkiindkoiomieaaGreatDoor
end

section
/-
  P5: the walks of Front, Behind, moves and Moves.
-/
namespace Go.Proofs.YtkiindkoiomieaaGreatDoor
open Go.RowKit

set_option maxHeartbeats 400000 in
theorem front_short (s X : ByteArray) (hX : X = ⟨(frontL (part 256) s.data.toList).toArray⟩) (w : World) (hs : s.size ≤ 300) :
    Calls Tryz.prog 17 #[.string s] w fun e w' => e = .returned (.tuple #[.string X, .int .i64 0]) ∧ Below w.heap.size w w' := by
  have c := placesOf_any s w hs
  rw [← hX] at c
  clear hX
  go_enter Tryz.func17, Tryz.ntmps17
  go_wp2_with (go_at_call 35; refine c.mono ?_; rintro e w' ⟨rfl, hb⟩)
  go_ret2
  exact ⟨rfl, hb⟩

set_option maxHeartbeats 400000 in
theorem behind_short (s X : ByteArray) (hX : X = ⟨(behindL (part 256) s.data.toList).toArray⟩) (w : World) (hs : s.size ≤ 300) :
    Calls Tryz.prog 18 #[.string s] w fun e w' => e = .returned (.tuple #[.string X, .int .i64 0]) ∧ Below w.heap.size w w' := by
  have c := bytesAt_any s w (by omega)
  rw [← hX] at c
  clear hX
  go_enter Tryz.func18, Tryz.ntmps18
  go_wp2_with (go_at_call 36; refine c.mono ?_; rintro e w' ⟨rfl, hb⟩)
  go_ret2
  exact ⟨rfl, hb⟩

set_option maxHeartbeats 400000 in
theorem front_long (s : ByteArray) (w : World) (hs : 300 < s.size) (hm : s.size ≤ 9223372036854775807) :
    Calls Tryz.prog 17 #[.string s] w fun e w' => e = .returned (.tuple #[.string ⟨#[]⟩, .int .i64 1]) ∧ w' = w := by
  go_enter Tryz.func17, Tryz.ntmps17
  go_wp2
  go_ret2
  exact ⟨rfl, rfl⟩

set_option maxHeartbeats 400000 in
theorem behind_long (s : ByteArray) (w : World) (hs : 300 < s.size) (hm : s.size ≤ 9223372036854775807) :
    Calls Tryz.prog 18 #[.string s] w fun e w' => e = .returned (.tuple #[.string ⟨#[]⟩, .int .i64 1]) ∧ w' = w := by
  go_enter Tryz.func18, Tryz.ntmps18
  go_wp2
  go_ret2
  exact ⟨rfl, rfl⟩

set_option maxHeartbeats 1000000 in
theorem law_moves (s : ByteArray) (w : World) (hm : s.size ≤ maxLen) :
    Calls Tryz.prog 51 #[.string s] w fun e w' => e = .returned (.bool true) ∧ Below w.heap.size w w' := by
  unfold maxLen at hm
  by_cases hs : s.size ≤ 300
  · obtain ⟨X, hX⟩ : ∃ X : ByteArray, X = ⟨(frontL (part 256) s.data.toList).toArray⟩ := ⟨_, rfl⟩
    obtain ⟨Y, hY⟩ : ∃ Y : ByteArray, Y = ⟨(behindL (part 256) s.data.toList).toArray⟩ := ⟨_, rfl⟩
    have c1 := hide (fun w => front_short s X hX w hs)
    have c2 := hide (fun w => behind_short s Y hY w hs)
    have c3 := fun w => refFront_any s w hs
    have c4 := fun w => refBehind_any s w hs
    rw [← hX] at c3
    rw [← hY] at c4
    have C3 := hide c3
    have C4 := hide c4
    clear c3 c4 hX hY
    go_enter Tryz.func51, Tryz.ntmps51
    go_wp2_with (first
      | (go_at_call 17; refine (unhide c1 _).mono ?_; rintro e w1 ⟨rfl, hb1⟩)
      | (go_at_call 18; refine (unhide c2 _).mono ?_; rintro e w2 ⟨rfl, hb2⟩)
      | (go_at_call 87; refine (unhide C3 _).mono ?_; rintro e w3 ⟨rfl, hb3⟩)
      | (go_at_call 88; refine (unhide C4 _).mono ?_; rintro e w4 ⟨rfl, hb4⟩)
      | go_in)
    go_ret
    exact ⟨rfl, (hb1.trans (hb2.mono hb1.size)).trans ((hb3.mono (Nat.le_trans hb1.size hb2.size)).trans (hb4.mono (Nat.le_trans (Nat.le_trans hb1.size hb2.size) hb3.size)))⟩
  · go_enter Tryz.func51, Tryz.ntmps51
    go_wp2_with (first
      | (go_at_call 17; refine (front_long s _ (by omega) hm).mono ?_; rintro e w' ⟨rfl, rfl⟩)
      | (go_at_call 18; refine (behind_long s _ (by omega) hm).mono ?_; rintro e w' ⟨rfl, rfl⟩)
      | go_in)
    go_ret
    exact ⟨rfl, Below.refl _ _⟩

set_option maxHeartbeats 1000000 in
set_option maxRecDepth 100000 in
theorem moves_any (b off len cap : Nat) (S : Nat → ByteArray) (w : World) (hlen : len ≤ 9223372036854775807) (hb : b < w.heap.size)
    (hc : ∀ k, k < len → w.cell? ⟨b, off + k * 5 + 2, none⟩ = some (.string (S k)) ∧ (S k).size ≤ maxLen) :
    Calls Tryz.prog 28 #[.slice (some ⟨b, off, none⟩) len cap] w fun e w' => e = .returned (.bool true) ∧ Below w.heap.size w w' := by
  have HC := hide hc
  clear hc
  go_enter Tryz.func28, Tryz.ntmps28
  go_wp2
  go_loopw [3] (fun i wr => ∃ k : Nat, k ≤ len ∧ i = .int .i64 k ∧ Below w.heap.size w wr) (fun i _ => len - (intOf i).toNat)
  case atStart => exact ⟨0, Nat.zero_le _, rfl, Below.refl _ _⟩
  case round =>
    obtain ⟨k, hk, rfl, hbx⟩ := hrel
    by_cases hlt : k < len
    · by_cases hbig : (k : Int) < 1152921504606846976
      · have hd : decide ((k : Int) < 1152921504606846976) = true := decide_eq_true hbig
        clear hbig
        have hcell : wr.cell? ⟨b, off + k * 5 + 2, none⟩ = some (.string (S k)) := (hbx.cell (p := ⟨b, off + k * 5 + 2, none⟩) hb).trans (HC.out k hlt).1
        have cW := hide (law_moves (S k) wr (HC.out k hlt).2)
        go_wp2_with (go_at_call 51; refine (unhide cW).mono ?_; rintro e w' ⟨rfl, hb2⟩)
        go_roundw
        case rel => exact ⟨k + 1, by omega, by go_num, hbx.trans (hb2.mono hbx.size)⟩
        case measure => simp [intOf]; omega
      · have hd : decide ((k : Int) < 1152921504606846976) = false := decide_eq_false hbig
        clear hbig
        go_wp2
        go_ret
        exact ⟨rfl, hbx⟩
    · go_wp2
      go_ret
      exact ⟨rfl, hbx⟩

set_option maxHeartbeats 400000 in
theorem moves_zero (ao : Option Addr) (cap : Nat) (w : World) :
    Calls Tryz.prog 28 #[.slice ao 0 cap] w fun e w' => e = .returned (.bool true) ∧ Below w.heap.size w w' := by
  go_enter Tryz.func28, Tryz.ntmps28
  go_wp2
  refine wp_loop_rounds 1 ?_
  rw [rounds_succ]
  go_wp2
  go_ret
  exact ⟨rfl, Below.refl _ _⟩
end Go.Proofs.YtkiindkoiomieaaGreatDoor
end

section
/-
  P4, P5: the walk of Other.
-/
namespace Go.Proofs.YtkiindkoiomieaaGreatDoor
open Go.RowKit Go.Lib

theorem turn_gen (s : ByteArray) (w : World) (hm : s.size ≤ 9223372036854775807) :
    Calls Tryz.prog 16 #[.string s] w fun e w' => ∃ (T : ByteArray) (E : Int), e = .returned (.tuple #[.string T, .int .i64 E]) ∧ (s.size ≤ 300 → E = 0 ∧ ∃ ws, Duv.Good ws ∧ ws.flatten = s.data.toList ∧ Tur.Turned ws T.data.toList) ∧ Below w.heap.size w w' := by
  by_cases hs : s.size ≤ 300
  · refine (turn_short s w hs).mono ?_
    rintro e w' ⟨t, ws, rfl, g, f, h, hb⟩
    exact ⟨⟨t.toArray⟩, 0, rfl, fun _ => ⟨rfl, ws, g, f, h⟩, hb⟩
  · refine (turn_long s w (by omega) hm).mono ?_
    rintro e w' ⟨rfl, rfl⟩
    exact ⟨⟨#[]⟩, 1, rfl, fun h => absurd h hs, Below.refl _ _⟩

theorem front_gen (s : ByteArray) (w : World) (hm : s.size ≤ 9223372036854775807) :
    Calls Tryz.prog 17 #[.string s] w fun e w' => ∃ (A : ByteArray) (E : Int), e = .returned (.tuple #[.string A, .int .i64 E]) ∧ A.size ≤ 300 ∧ (s.size ≤ 300 → E = 0 ∧ A.data.toList = frontL (part 256) s.data.toList) ∧ Below w.heap.size w w' := by
  by_cases hs : s.size ≤ 300
  · refine (front_short s _ rfl w hs).mono ?_
    rintro e w' ⟨rfl, hb⟩
    refine ⟨_, 0, rfl, ?_, fun _ => ⟨rfl, rfl⟩, hb⟩
    rw [Lib.size_eq]
    show (frontL (part 256) s.data.toList).length ≤ 300
    rw [front_length, ← Lib.size_eq]
    exact hs
  · refine (front_long s w (by omega) hm).mono ?_
    rintro e w' ⟨rfl, rfl⟩
    exact ⟨⟨#[]⟩, 1, rfl, by decide, fun h => absurd h hs, Below.refl _ _⟩

theorem behind_gen (s : ByteArray) (w : World) (hs : s.size ≤ 300) :
    Calls Tryz.prog 18 #[.string s] w fun e w' => ∃ C : ByteArray, e = .returned (.tuple #[.string C, .int .i64 0]) ∧ C.data.toList = behindL (part 256) s.data.toList ∧ Below w.heap.size w w' := by
  refine (behind_short s _ rfl w hs).mono ?_
  rintro e w' ⟨rfl, hb⟩
  exact ⟨_, rfl, rfl, hb⟩

theorem beq_lists {a b c d : ByteArray} (h : a.data.toList = b.data.toList ↔ c.data.toList = d.data.toList) : (a.toList == b.toList) = (c.toList == d.toList) := by
  rw [Lib.toList_data, Lib.toList_data, Lib.toList_data, Lib.toList_data, Bool.eq_iff_iff, beq_iff_eq, beq_iff_eq]
  exact h

set_option maxHeartbeats 4000000 in
set_option maxRecDepth 100000 in
theorem other_any (b off len cap : Nat) (w : World) (hlen : len ≤ 9223372036854775807) (hb : b < w.heap.size)
    (hc : ∀ k, k < len → ∃ (na nb : Int) (S T : ByteArray) (la : Option Addr) (ll lc : Nat), w.cell? ⟨b, off + k * 5, none⟩ = some (.int .i64 na) ∧ w.cell? ⟨b, off + k * 5 + 1, none⟩ = some (.int .i64 nb) ∧
      w.cell? ⟨b, off + k * 5 + 2, none⟩ = some (.string S) ∧ w.cell? ⟨b, off + k * 5 + 3, none⟩ = some (.string T) ∧ w.cell? ⟨b, off + k * 5 + 4, none⟩ = some (.slice la ll lc) ∧ S.size ≤ 9223372036854775807 ∧ T.size ≤ 9223372036854775807)
    (hal : ∀ W, Calls Tryz.prog 14 #[] W fun e w' => e = .returned (.bool true) ∧ Below W.heap.size W w') :
    Calls Tryz.prog 5 #[.slice (some ⟨b, off, none⟩) len cap] w fun e w' => e = .returned (.bool true) ∧ Below w.heap.size w w' := by
  have HC := hide hc
  have HAL := hide hal
  clear hc hal
  go_enter Tryz.func5, Tryz.ntmps5
  go_wp2
  go_loopw [3] (fun i wr => ∃ k : Nat, k ≤ len ∧ i = .int .i64 k ∧ Below w.heap.size w wr) (fun i _ => len - (intOf i).toNat)
  case atStart => exact ⟨0, Nat.zero_le _, rfl, Below.refl _ _⟩
  case round =>
    obtain ⟨k, hk, rfl, hbx⟩ := hrel
    by_cases hlt : k < len
    · by_cases hbig : (k : Int) < 1152921504606846976
      · have hd : decide ((k : Int) < 1152921504606846976) = true := decide_eq_true hbig
        clear hbig
        obtain ⟨na, nb, S, T, la, ll, lc, c0, c1, c2, c3, c4, hS, hT⟩ := HC.out k hlt
        have kc : ∀ o, wr.cell? ⟨b, o, none⟩ = w.cell? ⟨b, o, none⟩ := fun o => hbx.cell (p := ⟨b, o, none⟩) hb
        rw [← kc] at c0 c1 c2 c3 c4
        clear kc
        go_wp2_with fail
        obtain ⟨W0, hW0⟩ : ∃ W0, W0 = wr.alloc (.cells #[.int .i64 na, .int .i64 nb, .string S, .string T, .slice la ll lc] 25) := ⟨_, rfl⟩
        rw [← hW0]
        have b0 : Below wr.heap.size wr W0 := by rw [hW0]; exact (Below.refl _ _).alloc (Nat.le_refl _) _
        have n0 : wr.heap.size < W0.heap.size := by rw [hW0]; simp
        have f2 : W0.cell? ⟨wr.heap.size, 2, none⟩ = some (.string S) := by rw [hW0]; exact World.cell?_alloc_new wr _ 25 2
        have f3 : W0.cell? ⟨wr.heap.size, 3, none⟩ = some (.string T) := by rw [hW0]; exact World.cell?_alloc_new wr _ 25 3
        have bw0 := hbx.trans (b0.mono hbx.size)
        clear hW0 c0 c1 c2 c3 c4 hd b0
        go_at_call 16
        refine (turn_gen S W0 hS).mono ?_
        rintro e W1 ⟨T1, E1, rfl, k1, b1⟩
        have e2 : W1.cell? ⟨wr.heap.size, 2, none⟩ = some (.string S) := (b1.cell (p := ⟨wr.heap.size, 2, none⟩) n0).trans f2
        have e3 : W1.cell? ⟨wr.heap.size, 3, none⟩ = some (.string T) := (b1.cell (p := ⟨wr.heap.size, 3, none⟩) n0).trans f3
        have n1 : wr.heap.size < W1.heap.size := Nat.lt_of_lt_of_le n0 b1.size
        have bw1 := bw0.trans (b1.mono bw0.size)
        have K1 := hide k1
        clear f2 f3 n0 b1 bw0 k1
        go_wp2_with fail
        go_at_call 16
        refine (turn_gen T W1 hT).mono ?_
        rintro e W2 ⟨T2, E2, rfl, k2, b2⟩
        have f2 : W2.cell? ⟨wr.heap.size, 2, none⟩ = some (.string S) := (b2.cell (p := ⟨wr.heap.size, 2, none⟩) n1).trans e2
        have f3 : W2.cell? ⟨wr.heap.size, 3, none⟩ = some (.string T) := (b2.cell (p := ⟨wr.heap.size, 3, none⟩) n1).trans e3
        have n2 : wr.heap.size < W2.heap.size := Nat.lt_of_lt_of_le n1 b2.size
        have bw2 := bw1.trans (b2.mono bw1.size)
        have K2 := hide k2
        clear e2 e3 n1 b2 bw1 k2
        go_wp2_with fail
        go_at_call 17
        refine (front_gen S W2 hS).mono ?_
        rintro e W3 ⟨A, E3, rfl, hA, k3, b3⟩
        have e2 : W3.cell? ⟨wr.heap.size, 2, none⟩ = some (.string S) := (b3.cell (p := ⟨wr.heap.size, 2, none⟩) n2).trans f2
        have e3 : W3.cell? ⟨wr.heap.size, 3, none⟩ = some (.string T) := (b3.cell (p := ⟨wr.heap.size, 3, none⟩) n2).trans f3
        have n3 : wr.heap.size < W3.heap.size := Nat.lt_of_lt_of_le n2 b3.size
        have bw3 := bw2.trans (b3.mono bw2.size)
        have K3 := hide k3
        clear f2 f3 n2 b3 bw2 k3
        go_wp2_with fail
        go_at_call 17
        refine (front_gen T W3 hT).mono ?_
        rintro e W4 ⟨B, E4, rfl, hB, k4, b4⟩
        have f2 : W4.cell? ⟨wr.heap.size, 2, none⟩ = some (.string S) := (b4.cell (p := ⟨wr.heap.size, 2, none⟩) n3).trans e2
        have f3 : W4.cell? ⟨wr.heap.size, 3, none⟩ = some (.string T) := (b4.cell (p := ⟨wr.heap.size, 3, none⟩) n3).trans e3
        have n4 : wr.heap.size < W4.heap.size := Nat.lt_of_lt_of_le n3 b4.size
        have bw4 := bw3.trans (b4.mono bw3.size)
        have K4 := hide k4
        clear e2 e3 n3 b4 bw3 k4
        go_wp2_with fail
        go_at_call 18
        refine (behind_gen A W4 hA).mono ?_
        rintro e W5 ⟨C, rfl, k5, b5⟩
        have e2 : W5.cell? ⟨wr.heap.size, 2, none⟩ = some (.string S) := (b5.cell (p := ⟨wr.heap.size, 2, none⟩) n4).trans f2
        have e3 : W5.cell? ⟨wr.heap.size, 3, none⟩ = some (.string T) := (b5.cell (p := ⟨wr.heap.size, 3, none⟩) n4).trans f3
        have bw5 := bw4.trans (b5.mono bw4.size)
        have K5 := hide k5
        clear f2 f3 n4 b5 bw4 k5 hA hB
        by_cases hs : S.size ≤ 300
        · have d1 : decide ((300 : Int) < (S.size : Int)) = false := decide_eq_false (by omega)
          by_cases ht : T.size ≤ 300
          · have d2 : decide ((300 : Int) < (T.size : Int)) = false := decide_eq_false (by omega)
            obtain ⟨rfl, ws, g1, w1, t1⟩ := K1.out hs
            obtain ⟨rfl, us, g2, w2, t2⟩ := K2.out ht
            obtain ⟨rfl, a1⟩ := K3.out hs
            obtain ⟨rfl, a2⟩ := K4.out ht
            have hC : C.data.toList = S.data.toList := by rw [K5.out, a1, behind_front _ _ full_part]
            have q0 : (C.toList != S.toList) = false := by rw [Lib.toList_data, Lib.toList_data, hC]; simp
            have q0' : (C.toList == S.toList) = true := by rw [Lib.toList_data, Lib.toList_data, hC]; simp
            have r1 : (T1.toList == T2.toList) = (S.toList == T.toList) := beq_lists (by
              constructor
              · intro e
                rw [e] at t1
                have := Tur.turned_inj g1 g2 t1 t2
                rw [← w1, ← w2, this]
              · intro e
                have := Tur.good_unique ws us g1 g2 (by rw [w1, w2, e])
                subst this
                exact t1.unique t2)
            have r2 : (A.toList == B.toList) = (S.toList == T.toList) := beq_lists (by
              rw [a1, a2]
              exact ⟨front_inj, fun e => by rw [e]⟩)
            clear hC ws us g1 g2 w1 w2 t1 t2 a1 a2 K1 K2 K3 K4 K5
            cases hβ : (S.toList == T.toList) with
            | true =>
              rw [hβ] at r1 r2
              go_wp2_with (first
                | (go_at_call 13; refine (num_any _ _).mono ?_; rintro e w' ⟨rfl, hw⟩; rw [hw]; clear hw w')
                | go_in)
              go_roundw
              case rel => exact ⟨k + 1, by omega, by go_num, bw5⟩
              case measure => simp [intOf]; omega
            | false =>
              rw [hβ] at r1 r2
              go_wp2_with (first
                | (go_at_call 13; refine (num_any _ _).mono ?_; rintro e w' ⟨rfl, hw⟩; rw [hw]; clear hw w')
                | go_in)
              go_roundw
              case rel => exact ⟨k + 1, by omega, by go_num, bw5⟩
              case measure => simp [intOf]; omega
          · have d2 : decide ((300 : Int) < (T.size : Int)) = true := decide_eq_true (by omega)
            go_wp2_with go_in
            go_roundw
            case rel => exact ⟨k + 1, by omega, by go_num, bw5⟩
            case measure => simp [intOf]; omega
        · have d1 : decide ((300 : Int) < (S.size : Int)) = true := decide_eq_true (by omega)
          go_wp2_with go_in
          go_roundw
          case rel => exact ⟨k + 1, by omega, by go_num, bw5⟩
          case measure => simp [intOf]; omega
      · have hd : decide ((k : Int) < 1152921504606846976) = false := decide_eq_false hbig
        clear hbig
        go_wp2_with (go_at_call 14; refine (HAL.out _).mono ?_; rintro e w1 ⟨rfl, hb1⟩)
        go_ret
        exact ⟨rfl, hbx.trans (hb1.mono hbx.size)⟩
    · go_wp2_with (go_at_call 14; refine (HAL.out _).mono ?_; rintro e w1 ⟨rfl, hb1⟩)
      go_ret
      exact ⟨rfl, hbx.trans (hb1.mono hbx.size)⟩
end Go.Proofs.YtkiindkoiomieaaGreatDoor
end

section
/-
  The card of Other.
-/
namespace Go.Proofs.YtkiindkoiomieaaGreatDoor
open Go.ChangeShapes Go.WideShapes Go.ChangeAt Go.RowKit Go.Deep

set_option maxHeartbeats 400000 in
theorem other_zero (ao : Option Addr) (cap : Nat) (w : World)
    (hal : ∀ W, Calls Tryz.prog 14 #[] W fun e w' => e = .returned (.bool true) ∧ Below W.heap.size W w') :
    Calls Tryz.prog 5 #[.slice ao 0 cap] w fun e w' => e = .returned (.bool true) ∧ Below w.heap.size w w' := by
  go_enter Tryz.func5, Tryz.ntmps5
  go_wp2
  refine wp_loop_rounds 1 ?_
  rw [rounds_succ]
  go_wp2_with (go_at_call 14; refine (hal _).mono ?_; rintro e w1 ⟨rfl, hb1⟩)
  go_ret
  exact ⟨rfl, hb1⟩

set_option maxHeartbeats 1000000 in
set_option maxRecDepth 100000 in
theorem other_lifted (hal : ∀ W, Calls Tryz.prog 14 #[] W fun e w' => e = .returned (.bool true) ∧ Below W.heap.size W w') (os : Os) (started : os.Started) (H : Type) (enc : TypeId × Value → H) :
    ReturnsInHanded {} Tryz.checked os 5 .any (fun w args => (Rows.otherSpec.pre enc Tryz.prog Tryz.f5 Rows.otherRow.domain false w args ∧ laidMetH Tryz.prog seatLaid w) ∧ sizedMet enc Tryz.prog Tryz.f5 (OpenSpec.ofChange Rows.otherSpec) false w args)
      (Rows.otherSpec.post enc Tryz.prog Tryz.f5 false true false false) := by
  refine returnsInHanded_of_change_and (C := Tryz.checked) (X := fun w _ => laidMetH Tryz.prog seatLaid w) (fun _ _ _ hh h => h.of_heap hh) Tryz.own started (by kernel_rfl) Tryz.func5
    (ChangeSpec.witness_shaped (enc := enc) (C := Tryz.checked) (os := os) (X := fun w _ => laidMetH Tryz.prog seatLaid w) false (World.laidAll Tryz.prog os seatLaid) #[.slice none 0 0] 8 (World.laidAll_os _ _ _)
      (World.shaped_of_ZipB (by kernel_rfl) (by kernel_rfl)) (by kernel_rfl) (by kernel_rfl) (by kernel_rfl)
      (by rw [MakeChecks.laidMetH_plain _ _ _ (by kernel_rfl)]; exact laidMet_laidAll _ (by kernel_rfl) (by kernel_rfl))) ?_
  intro W base args ds gs before hval0 hW hcnd _ _ _
  have hval : ∀ (j : Nat) t v, Tryz.f5.params[j]? = some t → args[j]? = some v → Value.okWide Tryz.prog W .any base t v := hval0
  have hW' := hW
  obtain ⟨p, q, hA0, hV, rfl, _, _⟩ := hW
  have hA : DataW.TrodAll enc Tryz.prog W 0 (fun _ => true) true Tryz.f5.params.toList args.toList ds p := hA0
  rw [Tryz.params5] at hA hval
  obtain ⟨v0, d0, rfl, rfl, h0⟩ := trodAll_one hA
  obtain ⟨rfl, rfl⟩ := trodVars_none hV
  have h0k := h0
  obtain ⟨fuel, hf⟩ := h0
  clear hA0 hval0 hcnd
  simp only [List.append_nil] at hW'
  have hlt : ∀ x ∈ p, x.block < W.heap.size := fun x hx => by simpa using hW'.lt x hx
  obtain ⟨a0, len, cap, rfl⟩ := okWide_slice Tryz.underlying22 (hval 0 22 v0 rfl rfl)
  have key : Calls Tryz.prog 5 #[.slice a0 len cap] W fun e w' => e = .returned (.bool true) ∧ Below W.heap.size W w' := by
    obtain ⟨hlm, h0len | ⟨b, off, D, rest, rfl, hb, rfl, hop⟩⟩ := open_ops hf hlt
    · subst h0len
      exact other_zero a0 cap W hal
    · refine other_any b off len cap W (by unfold maxLen at hlm; omega) hb (fun k hk => ?_) hal
      obtain ⟨na, nb, S, T, la, ll, lc, _, _, ho, _⟩ := hop k hk
      exact ⟨na, nb, S, T, la, ll, lc, ho.cA, ho.cB, ho.cS, ho.cT, ho.cL, by have := ho.sS; unfold maxLen at this; omega, by have := ho.sT; unfold maxLen at this; omega⟩
  refine key.mono fun e W' ⟨he, hbel⟩ => ?_
  subst he
  exact ⟨_, rfl, ⟨_, _, _, [], _, [], hW', trodAll_mk1 (shut_bool Tryz.underlying4 true), trodAll_mk1 (Below.trod Tryz.laidOut (by kernel_rfl) (of_decide_eq_true (by kernel_rfl)) h0k hbel hlt), rfl, hbel.frame _, fun h => by cases h⟩⟩

theorem other_row : Rows.OtherSaid :=
  OpenClaim.holds_of_wide 5 Tryz.f5 rfl rfl rfl rfl rfl rfl rfl ⟨rfl, rfl, rfl, rfl, rfl⟩ rfl rfl rfl rfl rfl (by kernel_rfl) Tryz.func5 (by kernel_rfl)
    (of_decide_eq_true (by kernel_rfl)) (by unfold Func.isWrapper; first | (rw [if_pos (by decide +kernel)]; kernel_rfl) | (rw [if_neg (by decide +kernel)]; exact ⟨rfl, rfl⟩))
    (fun os started H enc _ => other_lifted alive_any os started H enc)

theorem other_card : Rows.OtherCardSaid :=
  Claim7.holds_tied_plain_at .later [] [.data, .pinned] true _ false
    other_row (fun _ h => by cases h) (by kernel_rfl) (fun _ h => by cases h) other_row_tie rfl ⟨rfl, rfl⟩ (by kernel_rfl) rfl
    (fun f fn hf hfn => by
      obtain rfl : f = 5 := Option.some.inj ((show Tryz.prog.funcNamed "twine/twinelaw.Other" = some 5 by kernel_rfl).symm.trans hf) |>.symm
      obtain rfl : fn = Tryz.f5 := (Option.some.inj (Tryz.func5.symm.trans hfn)).symm
      exact ⟨by kernel_rfl, fun j t ht => by
        rw [Tryz.params5] at ht
        have hm : t ∈ [22] := by simpa using Array.mem_of_getElem? ht
        have hall : ([22].all fun u => !Tryz.prog.wantsStandIn u) = true := by kernel_rfl
        exact (show Tryz.prog.wantsStandIn t = false by simpa using List.all_eq_true.1 hall t hm)⟩)
    (by kernel_rfl)
end Go.Proofs.YtkiindkoiomieaaGreatDoor
end

